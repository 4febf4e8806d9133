/-
  The walk of quarrylaw07.QuotesSpans.
-/
import Derived.Test.YtmjmcdoanolelaaDoorSpanKit
import Derived.Test.YtmjmcdoanolelaaDoorRoundQuiet
import Derived.SizedLaws
import Derived.Deep.DeepCutAuto
import Derived.Deep.CondSized
namespace Go.Proofs.YtmjmcdoanolelaaDoor
open Go.RowKit Go.Shelf

attribute [local go_sem] Oper.semAt_some

/-- The frame in which a round's body begins. -/
def SqA (w : World) (s : ByteArray) (b1 b2 b5 bm bs : Nat) (u10 u11 u12 u13 : Value) (x : Nat) (a' : Act) (W : World) : Prop :=
  ∃ (gx A C : Nat), Hid (spn s x = (A, C)) ∧ b5 < gx ∧ At W gx #[.int .i64 (A : Int), .int .i64 (C : Int)] 36 ∧ a' = { tmps := #[.string s, .pointer (some ⟨w.heap.size, 0, none⟩), .pointer (some ⟨w.heap.size + 1, 0, none⟩), .pointer (some ⟨b1, 0, none⟩), .pointer (some ⟨b2, 0, none⟩), .pointer (some ⟨b5, 0, none⟩), .func (.func 37) #[] #[.pointer (some ⟨bm, 0, none⟩), .pointer (some ⟨bs, 0, none⟩)], .pointer (some ⟨gx, 0, none⟩), .bool true, .bool false, u10, u11, u12, u13, .string s, .func (.func 37) #[] #[.pointer (some ⟨bm, 0, none⟩), .pointer (some ⟨bs, 0, none⟩)], .func (.func 37) #[] #[.pointer (some ⟨bm, 0, none⟩), .pointer (some ⟨bs, 0, none⟩)], .bool false, .func (.func 37) #[] #[.pointer (some ⟨bm, 0, none⟩), .pointer (some ⟨bs, 0, none⟩)], .agg #[.int .i64 (A : Int), .int .i64 (C : Int)], undef, undef, undef, undef, undef, undef, undef, undef, undef, undef, undef, undef, undef, undef, undef, undef, undef, undef, undef, undef, undef, undef, undef, undef, undef, undef, undef, undef, undef, undef, undef, undef, undef, undef, undef, undef, undef, undef, undef, undef, undef, undef, undef, undef, undef, undef, undef, undef, undef, undef, undef, undef, undef, undef, undef, undef, undef, undef, undef, undef, undef, undef, undef, undef, undef, undef, undef, undef, undef, undef, undef, undef, undef, undef, undef, undef, undef, undef, undef, undef, undef, undef, undef, undef, undef, undef, undef, undef, undef, undef, undef, undef, undef, undef, undef, undef, undef, undef, undef, undef, undef, undef, undef, undef, undef, undef, undef, undef, undef, undef, undef, undef, undef], defers := [] }
theorem sqA_own {w : World} {s : ByteArray} {b1 b2 b5 bm bs B : Nat} {u10 u11 u12 u13 : Value} (x : Nat) (a' : Act) : OwnFrom B (fun (_ : Unit) W => SqA w s b1 b2 b5 bm bs u10 u11 u12 u13 x a' W) := fun _ X Y row hs hg hr => by
  obtain ⟨gx, A, C, h1, h4, h5, h6⟩ := hs
  exact ⟨gx, A, C, h1, h4, h5.own hg (fun r e => (hr r e).2), h6⟩
theorem keptQ {w W Z : World} {s : ByteArray} (h : At W w.heap.size #[.string s] 9 ∧ At W (w.heap.size + 1) #[.bool false] 4) (hb : Below W.heap.size W Z) : At Z w.heap.size #[.string s] 9 ∧ At Z (w.heap.size + 1) #[.bool false] 4 := ⟨h.1.keptAll hb, h.2.keptAll hb⟩
theorem at_apart {W : World} {b c : Nat} {xs ys : Array Value} {t u : TypeId} (h : At W b xs t) (k : At W c ys u) (ht : t ≠ u) : b ≠ c := fun e => by
  subst e
  have : some (Obj.cells xs t) = some (Obj.cells ys u) := h.symm.trans k
  injection this with this
  injection this with _ this
  exact ht this
theorem spB_fin {w W : World} {s : ByteArray} {k b1 b2 g1 g2 : Nat} (hk : need s.size = k) (hm : At W g1 (rowCells k (rowOf (markS s) s.size)) 46) (hi : At W g2 (rowCells k (rowOf (inS s) s.size)) 46) (h1 : At W b1 #[.int .i64 0, .slice none 0 0] 25) (h2 : At W b2 #[.int .i64 0, .slice none 0 0] 25)
    (d : b1 ≠ b2) (l1 : w.heap.size + 2 ≤ b1) (l2 : w.heap.size + 2 ≤ b2) (l3 : w.heap.size + 2 ≤ g1) (l4 : w.heap.size + 2 ≤ g2) (hs : At W w.heap.size #[.string s] 9) (hr : At W (w.heap.size + 1) #[.bool false] 4) (hB : Below w.heap.size w W) :
    (At ((W.setCell ⟨b1, 0, none⟩ (.int .i64 (s.size : Int))).setCell ⟨b1, 1, none⟩ (.slice (some ⟨g1, 0, none⟩) k k)) w.heap.size #[.string s] 9 ∧ At ((W.setCell ⟨b1, 0, none⟩ (.int .i64 (s.size : Int))).setCell ⟨b1, 1, none⟩ (.slice (some ⟨g1, 0, none⟩) k k)) (w.heap.size + 1) #[.bool false] 4) ∧
    (At ((((W.setCell ⟨b1, 0, none⟩ (.int .i64 (s.size : Int))).setCell ⟨b1, 1, none⟩ (.slice (some ⟨g1, 0, none⟩) k k)).setCell ⟨b2, 0, none⟩ (.int .i64 (s.size : Int))).setCell ⟨b2, 1, none⟩ (.slice (some ⟨g2, 0, none⟩) k k)) w.heap.size #[.string s] 9 ∧ At ((((W.setCell ⟨b1, 0, none⟩ (.int .i64 (s.size : Int))).setCell ⟨b1, 1, none⟩ (.slice (some ⟨g1, 0, none⟩) k k)).setCell ⟨b2, 0, none⟩ (.int .i64 (s.size : Int))).setCell ⟨b2, 1, none⟩ (.slice (some ⟨g2, 0, none⟩) k k)) (w.heap.size + 1) #[.bool false] 4) ∧
    SpB w s b1 b2 g1 g2 ((((W.setCell ⟨b1, 0, none⟩ (.int .i64 (s.size : Int))).setCell ⟨b1, 1, none⟩ (.slice (some ⟨g1, 0, none⟩) k k)).setCell ⟨b2, 0, none⟩ (.int .i64 (s.size : Int))).setCell ⟨b2, 1, none⟩ (.slice (some ⟨g2, 0, none⟩) k k)) := by
  subst hk
  have oth : ∀ {b : Nat} {cs : Array Value} {t : TypeId}, At W b cs t → b ≠ b1 → At ((W.setCell ⟨b1, 0, none⟩ (.int .i64 (s.size : Int))).setCell ⟨b1, 1, none⟩ (.slice (some ⟨g1, 0, none⟩) (need s.size) (need s.size))) b cs t := fun h hb => (h.other (p := ⟨b1, 0, none⟩) hb _).other (p := ⟨b1, 1, none⟩) hb _
  have m1 := at_apart hm h1 (by decide)
  have m2 := at_apart hm h2 (by decide)
  have i1 := at_apart hi h1 (by decide)
  have i2 := at_apart hi h2 (by decide)
  have k1 := h1.two (x' := .int .i64 (s.size : Int)) (y' := .slice (some ⟨g1, 0, none⟩) (need s.size) (need s.size))
  have k2 := oth h2 (Ne.symm d)
  have km := oth hm m1
  have ki := oth hi i1
  have ks := oth hs (by omega)
  have kr := oth hr (by omega)
  have kB : Below w.heap.size w ((W.setCell ⟨b1, 0, none⟩ (.int .i64 (s.size : Int))).setCell ⟨b1, 1, none⟩ (.slice (some ⟨g1, 0, none⟩) (need s.size) (need s.size))) := (hB.setCell (p := ⟨b1, 0, none⟩) (by show w.heap.size ≤ b1; omega) _).setCell (p := ⟨b1, 1, none⟩) (by show w.heap.size ≤ b1; omega) _
  clear oth
  refine ⟨⟨ks, kr⟩, ?_⟩
  generalize (W.setCell ⟨b1, 0, none⟩ (.int .i64 (s.size : Int))).setCell ⟨b1, 1, none⟩ (.slice (some ⟨g1, 0, none⟩) (need s.size) (need s.size)) = X at *
  have oth : ∀ {b : Nat} {cs : Array Value} {t : TypeId}, At X b cs t → b ≠ b2 → At ((X.setCell ⟨b2, 0, none⟩ (.int .i64 (s.size : Int))).setCell ⟨b2, 1, none⟩ (.slice (some ⟨g2, 0, none⟩) (need s.size) (need s.size))) b cs t := fun h hb => (h.other (p := ⟨b2, 0, none⟩) hb _).other (p := ⟨b2, 1, none⟩) hb _
  exact ⟨⟨oth ks (by omega), oth kr (by omega)⟩, ⟨oth k1 d, oth km m2⟩, ⟨k2.two, oth ki i2⟩, l1, l2, l3, l4, oth ks (by omega), oth kr (by omega), (kB.setCell (p := ⟨b2, 0, none⟩) (by show w.heap.size ≤ b2; omega) _).setCell (p := ⟨b2, 1, none⟩) (by show w.heap.size ≤ b2; omega) _⟩

set_option maxRecDepth 100000 in
set_option maxHeartbeats 8000000 in
theorem spans_in (s : ByteArray) (hs : s.size ≤ 140737488351232) (w : World) (hT : Tab w) (hw0 : 0 < w.heap.size) :
    CallsIn Fence.wide 3 Tryd.prog 8 #[.string s] w fun e w' => e = .returned (.bool true) ∧ Below w.heap.size w w' := by
  have hnf : ∀ (f : Fn) (a b : Array Value) (w : World), Sem.run Tryd.prog (binOp BinOp.eql 33 (.func f a b) .nilFunc) w = .ok (.bool false) w := fun _ _ _ _ => by rfl
  have hT' := hid hT
  obtain ⟨k, hk⟩ : ∃ k, Hid (need s.size = k) := ⟨_, rfl⟩
  clear hT
  refine callsIn_of_wp_marks Tryd.func8 rfl trivial ?_ rfl
  simp only [Tryd.ntmps8, List.size_toArray, List.length_cons, List.length_nil, Nat.reduceAdd, Nat.reduceSub, Array.replicate_succ, Array.replicate_zero, List.push_toArray, List.append_toArray, List.nil_append, List.cons_append]
  refine wpIn_wide.2 ?_
  go_wp2_with fail
  have hA0 : At ((w.alloc (.cells #[.string s] 9)).alloc (.cells #[.bool false] 4)) w.heap.size #[.string s] 9 := (At.new w _ _).alloc _
  have hA1 : At ((w.alloc (.cells #[.string s] 9)).alloc (.cells #[.bool false] 4)) (w.heap.size + 1) #[.bool false] 4 := by
    have := At.new (w.alloc (.cells #[.string s] 9)) #[.bool false] 4
    simpa using this
  have hB0 : Below w.heap.size w ((w.alloc (.cells #[.string s] 9)).alloc (.cells #[.bool false] 4)) := by repeat (first | with_reducible exact Below.refl _ _ | with_reducible refine Below.setCell ?_ (by first | (simp; done) | (simp; omega)) _ | with_reducible refine below_drewN ?_ _ | with_reducible refine Below.alloc ?_ (by first | (simp; done) | (simp; omega)) _ | with_reducible refine Below.drew ?_)
  have hz0 : ((w.alloc (.cells #[.string s] 9)).alloc (.cells #[.bool false] 4)).heap.size = w.heap.size + 2 := by simp
  refine Calls.mono (awake7_calls _ (hT'.out.below hB0 hw0) (by omega)) ?_
  rintro e w1 ⟨rfl, hb1⟩
  have hA0' := hid (hA0.keptAll hb1)
  have hA1' := hid (hA1.keptAll hb1)
  have hB1 := hid (hB0.trans (hb1.mono hB0.size))
  have hz1 : w.heap.size + 2 ≤ w1.heap.size := by have := hb1.size; omega
  clear hA0 hA1 hB0 hz0 hb1
  go_wp2_with fail
  go_cut [3, 4] from 10 to 14 (fun p3 p4 wx => ∃ b1 b2 g1 g2, p3 = .pointer (some ⟨b1, 0, none⟩) ∧ p4 = .pointer (some ⟨b2, 0, none⟩) ∧ SpB w s b1 b2 g1 g2 wx)
  case first => as_aux_lemma =>
    rename_i Jm Km hJm hKm
    have hmk := hid (fun (u : World) (hb : Below w.heap.size w u) => marksQ_calls s (by omega) u (hT'.out.below hb hw0) (Nat.lt_of_lt_of_le hw0 hb.size))
    have hin := hid (fun (u : World) (hb : Below w.heap.size w u) => insideQ_calls s (by omega) u (hT'.out.below hb hw0) (Nat.lt_of_lt_of_le hw0 hb.size))
    rw [hk.out] at hmk hin
    obtain ⟨W0, hW0⟩ : ∃ W0, w1.drew = W0 := ⟨_, rfl⟩
    have hB0 : Below w.heap.size w W0 := by rw [← hW0]; exact hB1.out.drew
    have hS0 : At W0 w.heap.size #[.string s] 9 ∧ At W0 (w.heap.size + 1) #[.bool false] 4 := by rw [← hW0]; exact ⟨hA0'.out.drew, hA1'.out.drew⟩
    have hz0 : w1.heap.size ≤ W0.heap.size := by rw [← hW0]; exact Nat.le_refl _
    have hke := hk.out
    refine wp_region_held_only (S := fun W' => At W' w.heap.size #[.string s] 9 ∧ At W' (w.heap.size + 1) #[.bool false] 4) (by kernel_rfl) (by rw [hW0]; exact hS0) (fun hHeld => ?_)
    rw [hW0]
    clear hW0 hHeld
    (refine' wpAnyH_take (i := 0) (v := .string s) rfl (by kernel_rfl) (by kernel_rfl) (by kernel_rfl) (fun _ _ _ h => h) (Or.inl ⟨by rfl, ?_⟩) hS0 ?_; (· (intro wq hq; have c0 := hq.1.cell 0; simp only [List.getElem?_toArray, List.getElem?_cons_zero] at c0; go_simp; first | done | with_reducible rfl)); simp only [Act.put, List.getElem_toArray, List.getElem_cons_zero, List.setIfInBounds_toArray, List.set_cons_zero, List.set_cons_succ])
    (refine' wpAnyH_take (i := 2) (v := .string s) rfl (by kernel_rfl) (by kernel_rfl) (by kernel_rfl) (fun _ _ _ h => h) (Or.inl ⟨by rfl, ?_⟩) hS0 ?_; (· (intro wq hq; have c0 := hq.1.cell 0; simp only [List.getElem?_toArray, List.getElem?_cons_zero] at c0; go_simp; first | done | with_reducible rfl)); simp only [Act.put, List.getElem_toArray, List.getElem_cons_zero, List.getElem_cons_succ, List.setIfInBounds_toArray, List.set_cons_zero, List.set_cons_succ])
    refine wpAnyH_ready (rs := [1, 4, 5]) (by kernel_rfl) (by simp) ?_
    refine AllReadyH.cons rfl (fun K hK => ?_) ?_
    · rw [if_pos (by rfl)]
      go_simp
      refine (hmk.out _ hB0).mono ?_
      rintro e v1 ⟨p1, hlo1, rfl, hA1, hb1⟩
      have xs1 := keptQ hS0 hb1
      have xB1 := Below.trans hB0 (hb1.mono (Below.size hB0))
      have xz1 : w1.heap.size ≤ v1.heap.size := Nat.le_trans hz0 hb1.size
      have xl1 : w1.heap.size ≤ p1 := Nat.le_trans hz0 hlo1
      refine hK.out _ _ xs1 (fun hH1 => ?_)
      clear hK K
      refine wpAnyH_ready (rs := [3, 4, 5]) (by kernel_rfl) (by simp) ?_
      refine AllReadyH.cons rfl (fun K hK => ?_) ?_
      · rw [if_pos (by rfl)]
        go_simp
        refine (hin.out _ xB1).mono ?_
        rintro e v2 ⟨p2, hlo2, rfl, hA2, hb2⟩
        have xs2 := keptQ xs1 hb2
        have xB2 := Below.trans xB1 (hb2.mono (Below.size xB1))
        have xz2 : w1.heap.size ≤ v2.heap.size := Nat.le_trans xz1 hb2.size
        have xl2 : w1.heap.size ≤ p2 := Nat.le_trans xz1 hlo2
        have xm2 := At.keptAll hA1 hb2
        refine hK.out _ _ xs2 (fun hH2 => ?_)
        clear hK K
        refine wpAnyH_ready (rs := [4, 5]) (by kernel_rfl) (by simp) ?_
        refine AllReadyH.cons rfl (fun K hK => ?_) ?_
        · go_simp
          obtain ⟨v3, hv3⟩ : ∃ v, v2.alloc (.cells #[.int .i64 0, .slice none 0 0] 25) = v := ⟨_, rfl⟩
          have hb3 : Below v2.heap.size v2 v3 := by rw [← hv3]; exact (Below.refl _ _).alloc (Nat.le_refl _) _
          have hA3 : At v3 v2.heap.size #[.int .i64 0, .slice none 0 0] 25 := by rw [← hv3]; exact At.new v2 _ _
          rw [hv3]
          obtain ⟨p3, hp3⟩ : ∃ p, v2.heap.size = p := ⟨_, rfl⟩
          rw [hp3] at hA3 ⊢
          have hlo3 : v2.heap.size ≤ p3 := by omega
          clear hv3
          have xs3 := keptQ xs2 hb3
          have xB3 := Below.trans xB2 (hb3.mono (Below.size xB2))
          have xz3 : w1.heap.size ≤ v3.heap.size := Nat.le_trans xz2 hb3.size
          have xl3 : w1.heap.size ≤ p3 := Nat.le_trans xz2 hlo3
          have xm3 := At.keptAll xm2 hb3
          have xi3 := At.keptAll hA2 hb3
          refine hK.out _ _ xs3 (fun hH3 => ?_)
          clear hK K
          refine wpAnyH_ready (rs := [5]) (by kernel_rfl) (by simp) ?_
          refine AllReadyH.cons rfl (fun K hK => ?_) ?_
          · go_simp
            obtain ⟨v4, hv4⟩ : ∃ v, v3.alloc (.cells #[.int .i64 0, .slice none 0 0] 25) = v := ⟨_, rfl⟩
            have hb4 : Below v3.heap.size v3 v4 := by rw [← hv4]; exact (Below.refl _ _).alloc (Nat.le_refl _) _
            have hA4 : At v4 v3.heap.size #[.int .i64 0, .slice none 0 0] 25 := by rw [← hv4]; exact At.new v3 _ _
            rw [hv4]
            have dd := hA3.lt
            obtain ⟨p4, hp4⟩ : ∃ p, v3.heap.size = p := ⟨_, rfl⟩
            rw [hp4] at hA4 ⊢
            have hlo4 : v3.heap.size ≤ p4 := by omega
            rw [hp4] at dd
            clear hv4
            have xs4 := keptQ xs3 hb4
            have xB4 := Below.trans xB3 (hb4.mono (Below.size xB3))
            have xz4 : w1.heap.size ≤ v4.heap.size := Nat.le_trans xz3 hb4.size
            have xl4 : w1.heap.size ≤ p4 := Nat.le_trans xz3 hlo4
            have xm4 := At.keptAll xm3 hb4
            have xi4 := At.keptAll xi3 hb4
            have x44 := At.keptAll hA3 hb4
            refine hK.out _ _ xs4 (fun hH4 => ?_)
            clear hK K
            have y4 := x44
            have y5 := hA4
            have fin := hid (spB_fin (w := w) hke xm4 xi4 y4 y5 (by omega) (Nat.le_trans hz1 xl3) (Nat.le_trans hz1 xl4) (Nat.le_trans hz1 xl1) (Nat.le_trans hz1 xl2) xs4.1 xs4.2 xB4)
            obtain ⟨c40, c41, f40, f41⟩ := y4.facts
            obtain ⟨c50, c51, f50, f51⟩ := y5.facts
            have e1 := (y5.other (p := ⟨p3, 0, none⟩) (by show p4 ≠ p3; omega) (.int .i64 (s.size : Int))).other (p := ⟨p3, 1, none⟩) (by show p4 ≠ p3; omega) (.slice (some ⟨p1, 0, none⟩) k k)
            obtain ⟨e50, e51, g50, g51⟩ := e1.facts
            refine wpAnyH_ready (rs := [6]) (by kernel_rfl) (by simp) ?_
            refine AllReadyH.cons rfl (fun K hK => ?_) ?_
            · go_simp
              refine hK.out _ _ fin.out.1 (fun _ => ?_)
              clear hK K
              refine wpAnyH_ready (rs := [7]) (by kernel_rfl) (by simp) ?_
              refine AllReadyH.cons rfl (fun K hK => ?_) ?_
              · go_simp
                refine hK.out _ _ fin.out.2.1 (fun _ => ?_)
                clear hK K
                refine wpAnyH_done (by kernel_rfl) ?_ _
                refine hKm _ _ ?_
                refine hJm _ _ ?_
                exact ⟨_, _, _, _, _, _, _, ⟨_, _, _, _, rfl, rfl, fin.out.2.2⟩, rfl⟩
              exact AllReadyH.nil
            exact AllReadyH.nil
          exact AllReadyH.nil
        refine AllReadyH.cons rfl (fun K hK => ?_) ?_
        · go_simp
          obtain ⟨v5, hv5⟩ : ∃ v, v2.alloc (.cells #[.int .i64 0, .slice none 0 0] 25) = v := ⟨_, rfl⟩
          have hb5 : Below v2.heap.size v2 v5 := by rw [← hv5]; exact (Below.refl _ _).alloc (Nat.le_refl _) _
          have hA5 : At v5 v2.heap.size #[.int .i64 0, .slice none 0 0] 25 := by rw [← hv5]; exact At.new v2 _ _
          rw [hv5]
          obtain ⟨p5, hp5⟩ : ∃ p, v2.heap.size = p := ⟨_, rfl⟩
          rw [hp5] at hA5 ⊢
          have hlo5 : v2.heap.size ≤ p5 := by omega
          clear hv5
          have xs5 := keptQ xs2 hb5
          have xB5 := Below.trans xB2 (hb5.mono (Below.size xB2))
          have xz5 : w1.heap.size ≤ v5.heap.size := Nat.le_trans xz2 hb5.size
          have xl5 : w1.heap.size ≤ p5 := Nat.le_trans xz2 hlo5
          have xm5 := At.keptAll xm2 hb5
          have xi5 := At.keptAll hA2 hb5
          refine hK.out _ _ xs5 (fun hH5 => ?_)
          clear hK K
          refine wpAnyH_ready (rs := [4]) (by kernel_rfl) (by simp) ?_
          refine AllReadyH.cons rfl (fun K hK => ?_) ?_
          · go_simp
            obtain ⟨v6, hv6⟩ : ∃ v, v5.alloc (.cells #[.int .i64 0, .slice none 0 0] 25) = v := ⟨_, rfl⟩
            have hb6 : Below v5.heap.size v5 v6 := by rw [← hv6]; exact (Below.refl _ _).alloc (Nat.le_refl _) _
            have hA6 : At v6 v5.heap.size #[.int .i64 0, .slice none 0 0] 25 := by rw [← hv6]; exact At.new v5 _ _
            rw [hv6]
            have dd := hA5.lt
            obtain ⟨p6, hp6⟩ : ∃ p, v5.heap.size = p := ⟨_, rfl⟩
            rw [hp6] at hA6 ⊢
            have hlo6 : v5.heap.size ≤ p6 := by omega
            rw [hp6] at dd
            clear hv6
            have xs6 := keptQ xs5 hb6
            have xB6 := Below.trans xB5 (hb6.mono (Below.size xB5))
            have xz6 : w1.heap.size ≤ v6.heap.size := Nat.le_trans xz5 hb6.size
            have xl6 : w1.heap.size ≤ p6 := Nat.le_trans xz5 hlo6
            have xm6 := At.keptAll xm5 hb6
            have xi6 := At.keptAll xi5 hb6
            have x56 := At.keptAll hA5 hb6
            refine hK.out _ _ xs6 (fun hH6 => ?_)
            clear hK K
            have y4 := hA6
            have y5 := x56
            have fin := hid (spB_fin (w := w) hke xm6 xi6 y4 y5 (by omega) (Nat.le_trans hz1 xl6) (Nat.le_trans hz1 xl5) (Nat.le_trans hz1 xl1) (Nat.le_trans hz1 xl2) xs6.1 xs6.2 xB6)
            obtain ⟨c40, c41, f40, f41⟩ := y4.facts
            obtain ⟨c50, c51, f50, f51⟩ := y5.facts
            have e1 := (y5.other (p := ⟨p6, 0, none⟩) (by show p5 ≠ p6; omega) (.int .i64 (s.size : Int))).other (p := ⟨p6, 1, none⟩) (by show p5 ≠ p6; omega) (.slice (some ⟨p1, 0, none⟩) k k)
            obtain ⟨e50, e51, g50, g51⟩ := e1.facts
            refine wpAnyH_ready (rs := [6]) (by kernel_rfl) (by simp) ?_
            refine AllReadyH.cons rfl (fun K hK => ?_) ?_
            · go_simp
              refine hK.out _ _ fin.out.1 (fun _ => ?_)
              clear hK K
              refine wpAnyH_ready (rs := [7]) (by kernel_rfl) (by simp) ?_
              refine AllReadyH.cons rfl (fun K hK => ?_) ?_
              · go_simp
                refine hK.out _ _ fin.out.2.1 (fun _ => ?_)
                clear hK K
                refine wpAnyH_done (by kernel_rfl) ?_ _
                refine hKm _ _ ?_
                refine hJm _ _ ?_
                exact ⟨_, _, _, _, _, _, _, ⟨_, _, _, _, rfl, rfl, fin.out.2.2⟩, rfl⟩
              exact AllReadyH.nil
            exact AllReadyH.nil
          exact AllReadyH.nil
        exact AllReadyH.nil
      refine AllReadyH.cons rfl (fun K hK => ?_) ?_
      · go_simp
        obtain ⟨v7, hv7⟩ : ∃ v, v1.alloc (.cells #[.int .i64 0, .slice none 0 0] 25) = v := ⟨_, rfl⟩
        have hb7 : Below v1.heap.size v1 v7 := by rw [← hv7]; exact (Below.refl _ _).alloc (Nat.le_refl _) _
        have hA7 : At v7 v1.heap.size #[.int .i64 0, .slice none 0 0] 25 := by rw [← hv7]; exact At.new v1 _ _
        rw [hv7]
        obtain ⟨p7, hp7⟩ : ∃ p, v1.heap.size = p := ⟨_, rfl⟩
        rw [hp7] at hA7 ⊢
        have hlo7 : v1.heap.size ≤ p7 := by omega
        clear hv7
        have xs7 := keptQ xs1 hb7
        have xB7 := Below.trans xB1 (hb7.mono (Below.size xB1))
        have xz7 : w1.heap.size ≤ v7.heap.size := Nat.le_trans xz1 hb7.size
        have xl7 : w1.heap.size ≤ p7 := Nat.le_trans xz1 hlo7
        have xm7 := At.keptAll hA1 hb7
        refine hK.out _ _ xs7 (fun hH7 => ?_)
        clear hK K
        refine wpAnyH_ready (rs := [3, 5]) (by kernel_rfl) (by simp) ?_
        refine AllReadyH.cons rfl (fun K hK => ?_) ?_
        · rw [if_pos (by rfl)]
          go_simp
          refine (hin.out _ xB7).mono ?_
          rintro e v8 ⟨p8, hlo8, rfl, hA8, hb8⟩
          have xs8 := keptQ xs7 hb8
          have xB8 := Below.trans xB7 (hb8.mono (Below.size xB7))
          have xz8 : w1.heap.size ≤ v8.heap.size := Nat.le_trans xz7 hb8.size
          have xl8 : w1.heap.size ≤ p8 := Nat.le_trans xz7 hlo8
          have xm8 := At.keptAll xm7 hb8
          have x48 := At.keptAll hA7 hb8
          refine hK.out _ _ xs8 (fun hH8 => ?_)
          clear hK K
          refine wpAnyH_ready (rs := [5]) (by kernel_rfl) (by simp) ?_
          refine AllReadyH.cons rfl (fun K hK => ?_) ?_
          · go_simp
            obtain ⟨v9, hv9⟩ : ∃ v, v8.alloc (.cells #[.int .i64 0, .slice none 0 0] 25) = v := ⟨_, rfl⟩
            have hb9 : Below v8.heap.size v8 v9 := by rw [← hv9]; exact (Below.refl _ _).alloc (Nat.le_refl _) _
            have hA9 : At v9 v8.heap.size #[.int .i64 0, .slice none 0 0] 25 := by rw [← hv9]; exact At.new v8 _ _
            rw [hv9]
            have dd := x48.lt
            obtain ⟨p9, hp9⟩ : ∃ p, v8.heap.size = p := ⟨_, rfl⟩
            rw [hp9] at hA9 ⊢
            have hlo9 : v8.heap.size ≤ p9 := by omega
            rw [hp9] at dd
            clear hv9
            have xs9 := keptQ xs8 hb9
            have xB9 := Below.trans xB8 (hb9.mono (Below.size xB8))
            have xz9 : w1.heap.size ≤ v9.heap.size := Nat.le_trans xz8 hb9.size
            have xl9 : w1.heap.size ≤ p9 := Nat.le_trans xz8 hlo9
            have xm9 := At.keptAll xm8 hb9
            have xi9 := At.keptAll hA8 hb9
            have x49 := At.keptAll x48 hb9
            refine hK.out _ _ xs9 (fun hH9 => ?_)
            clear hK K
            have y4 := x49
            have y5 := hA9
            have fin := hid (spB_fin (w := w) hke xm9 xi9 y4 y5 (by omega) (Nat.le_trans hz1 xl7) (Nat.le_trans hz1 xl9) (Nat.le_trans hz1 xl1) (Nat.le_trans hz1 xl8) xs9.1 xs9.2 xB9)
            obtain ⟨c40, c41, f40, f41⟩ := y4.facts
            obtain ⟨c50, c51, f50, f51⟩ := y5.facts
            have e1 := (y5.other (p := ⟨p7, 0, none⟩) (by show p9 ≠ p7; omega) (.int .i64 (s.size : Int))).other (p := ⟨p7, 1, none⟩) (by show p9 ≠ p7; omega) (.slice (some ⟨p1, 0, none⟩) k k)
            obtain ⟨e50, e51, g50, g51⟩ := e1.facts
            refine wpAnyH_ready (rs := [6]) (by kernel_rfl) (by simp) ?_
            refine AllReadyH.cons rfl (fun K hK => ?_) ?_
            · go_simp
              refine hK.out _ _ fin.out.1 (fun _ => ?_)
              clear hK K
              refine wpAnyH_ready (rs := [7]) (by kernel_rfl) (by simp) ?_
              refine AllReadyH.cons rfl (fun K hK => ?_) ?_
              · go_simp
                refine hK.out _ _ fin.out.2.1 (fun _ => ?_)
                clear hK K
                refine wpAnyH_done (by kernel_rfl) ?_ _
                refine hKm _ _ ?_
                refine hJm _ _ ?_
                exact ⟨_, _, _, _, _, _, _, ⟨_, _, _, _, rfl, rfl, fin.out.2.2⟩, rfl⟩
              exact AllReadyH.nil
            exact AllReadyH.nil
          exact AllReadyH.nil
        refine AllReadyH.cons rfl (fun K hK => ?_) ?_
        · go_simp
          obtain ⟨v10, hv10⟩ : ∃ v, v7.alloc (.cells #[.int .i64 0, .slice none 0 0] 25) = v := ⟨_, rfl⟩
          have hb10 : Below v7.heap.size v7 v10 := by rw [← hv10]; exact (Below.refl _ _).alloc (Nat.le_refl _) _
          have hA10 : At v10 v7.heap.size #[.int .i64 0, .slice none 0 0] 25 := by rw [← hv10]; exact At.new v7 _ _
          rw [hv10]
          have dd := hA7.lt
          obtain ⟨p10, hp10⟩ : ∃ p, v7.heap.size = p := ⟨_, rfl⟩
          rw [hp10] at hA10 ⊢
          have hlo10 : v7.heap.size ≤ p10 := by omega
          rw [hp10] at dd
          clear hv10
          have xs10 := keptQ xs7 hb10
          have xB10 := Below.trans xB7 (hb10.mono (Below.size xB7))
          have xz10 : w1.heap.size ≤ v10.heap.size := Nat.le_trans xz7 hb10.size
          have xl10 : w1.heap.size ≤ p10 := Nat.le_trans xz7 hlo10
          have xm10 := At.keptAll xm7 hb10
          have x410 := At.keptAll hA7 hb10
          refine hK.out _ _ xs10 (fun hH10 => ?_)
          clear hK K
          refine wpAnyH_ready (rs := [3]) (by kernel_rfl) (by simp) ?_
          refine AllReadyH.cons rfl (fun K hK => ?_) ?_
          · rw [if_pos (by rfl)]
            go_simp
            refine (hin.out _ xB10).mono ?_
            rintro e v11 ⟨p11, hlo11, rfl, hA11, hb11⟩
            have xs11 := keptQ xs10 hb11
            have xB11 := Below.trans xB10 (hb11.mono (Below.size xB10))
            have xz11 : w1.heap.size ≤ v11.heap.size := Nat.le_trans xz10 hb11.size
            have xl11 : w1.heap.size ≤ p11 := Nat.le_trans xz10 hlo11
            have xm11 := At.keptAll xm10 hb11
            have x411 := At.keptAll x410 hb11
            have x511 := At.keptAll hA10 hb11
            refine hK.out _ _ xs11 (fun hH11 => ?_)
            clear hK K
            have y4 := x411
            have y5 := x511
            have fin := hid (spB_fin (w := w) hke xm11 hA11 y4 y5 (by omega) (Nat.le_trans hz1 xl7) (Nat.le_trans hz1 xl10) (Nat.le_trans hz1 xl1) (Nat.le_trans hz1 xl11) xs11.1 xs11.2 xB11)
            obtain ⟨c40, c41, f40, f41⟩ := y4.facts
            obtain ⟨c50, c51, f50, f51⟩ := y5.facts
            have e1 := (y5.other (p := ⟨p7, 0, none⟩) (by show p10 ≠ p7; omega) (.int .i64 (s.size : Int))).other (p := ⟨p7, 1, none⟩) (by show p10 ≠ p7; omega) (.slice (some ⟨p1, 0, none⟩) k k)
            obtain ⟨e50, e51, g50, g51⟩ := e1.facts
            refine wpAnyH_ready (rs := [6]) (by kernel_rfl) (by simp) ?_
            refine AllReadyH.cons rfl (fun K hK => ?_) ?_
            · go_simp
              refine hK.out _ _ fin.out.1 (fun _ => ?_)
              clear hK K
              refine wpAnyH_ready (rs := [7]) (by kernel_rfl) (by simp) ?_
              refine AllReadyH.cons rfl (fun K hK => ?_) ?_
              · go_simp
                refine hK.out _ _ fin.out.2.1 (fun _ => ?_)
                clear hK K
                refine wpAnyH_done (by kernel_rfl) ?_ _
                refine hKm _ _ ?_
                refine hJm _ _ ?_
                exact ⟨_, _, _, _, _, _, _, ⟨_, _, _, _, rfl, rfl, fin.out.2.2⟩, rfl⟩
              exact AllReadyH.nil
            exact AllReadyH.nil
          exact AllReadyH.nil
        exact AllReadyH.nil
      refine AllReadyH.cons rfl (fun K hK => ?_) ?_
      · go_simp
        obtain ⟨v12, hv12⟩ : ∃ v, v1.alloc (.cells #[.int .i64 0, .slice none 0 0] 25) = v := ⟨_, rfl⟩
        have hb12 : Below v1.heap.size v1 v12 := by rw [← hv12]; exact (Below.refl _ _).alloc (Nat.le_refl _) _
        have hA12 : At v12 v1.heap.size #[.int .i64 0, .slice none 0 0] 25 := by rw [← hv12]; exact At.new v1 _ _
        rw [hv12]
        obtain ⟨p12, hp12⟩ : ∃ p, v1.heap.size = p := ⟨_, rfl⟩
        rw [hp12] at hA12 ⊢
        have hlo12 : v1.heap.size ≤ p12 := by omega
        clear hv12
        have xs12 := keptQ xs1 hb12
        have xB12 := Below.trans xB1 (hb12.mono (Below.size xB1))
        have xz12 : w1.heap.size ≤ v12.heap.size := Nat.le_trans xz1 hb12.size
        have xl12 : w1.heap.size ≤ p12 := Nat.le_trans xz1 hlo12
        have xm12 := At.keptAll hA1 hb12
        refine hK.out _ _ xs12 (fun hH12 => ?_)
        clear hK K
        refine wpAnyH_ready (rs := [3, 4]) (by kernel_rfl) (by simp) ?_
        refine AllReadyH.cons rfl (fun K hK => ?_) ?_
        · rw [if_pos (by rfl)]
          go_simp
          refine (hin.out _ xB12).mono ?_
          rintro e v13 ⟨p13, hlo13, rfl, hA13, hb13⟩
          have xs13 := keptQ xs12 hb13
          have xB13 := Below.trans xB12 (hb13.mono (Below.size xB12))
          have xz13 : w1.heap.size ≤ v13.heap.size := Nat.le_trans xz12 hb13.size
          have xl13 : w1.heap.size ≤ p13 := Nat.le_trans xz12 hlo13
          have xm13 := At.keptAll xm12 hb13
          have x513 := At.keptAll hA12 hb13
          refine hK.out _ _ xs13 (fun hH13 => ?_)
          clear hK K
          refine wpAnyH_ready (rs := [4]) (by kernel_rfl) (by simp) ?_
          refine AllReadyH.cons rfl (fun K hK => ?_) ?_
          · go_simp
            obtain ⟨v14, hv14⟩ : ∃ v, v13.alloc (.cells #[.int .i64 0, .slice none 0 0] 25) = v := ⟨_, rfl⟩
            have hb14 : Below v13.heap.size v13 v14 := by rw [← hv14]; exact (Below.refl _ _).alloc (Nat.le_refl _) _
            have hA14 : At v14 v13.heap.size #[.int .i64 0, .slice none 0 0] 25 := by rw [← hv14]; exact At.new v13 _ _
            rw [hv14]
            have dd := x513.lt
            obtain ⟨p14, hp14⟩ : ∃ p, v13.heap.size = p := ⟨_, rfl⟩
            rw [hp14] at hA14 ⊢
            have hlo14 : v13.heap.size ≤ p14 := by omega
            rw [hp14] at dd
            clear hv14
            have xs14 := keptQ xs13 hb14
            have xB14 := Below.trans xB13 (hb14.mono (Below.size xB13))
            have xz14 : w1.heap.size ≤ v14.heap.size := Nat.le_trans xz13 hb14.size
            have xl14 : w1.heap.size ≤ p14 := Nat.le_trans xz13 hlo14
            have xm14 := At.keptAll xm13 hb14
            have xi14 := At.keptAll hA13 hb14
            have x514 := At.keptAll x513 hb14
            refine hK.out _ _ xs14 (fun hH14 => ?_)
            clear hK K
            have y4 := hA14
            have y5 := x514
            have fin := hid (spB_fin (w := w) hke xm14 xi14 y4 y5 (by omega) (Nat.le_trans hz1 xl14) (Nat.le_trans hz1 xl12) (Nat.le_trans hz1 xl1) (Nat.le_trans hz1 xl13) xs14.1 xs14.2 xB14)
            obtain ⟨c40, c41, f40, f41⟩ := y4.facts
            obtain ⟨c50, c51, f50, f51⟩ := y5.facts
            have e1 := (y5.other (p := ⟨p14, 0, none⟩) (by show p12 ≠ p14; omega) (.int .i64 (s.size : Int))).other (p := ⟨p14, 1, none⟩) (by show p12 ≠ p14; omega) (.slice (some ⟨p1, 0, none⟩) k k)
            obtain ⟨e50, e51, g50, g51⟩ := e1.facts
            refine wpAnyH_ready (rs := [6]) (by kernel_rfl) (by simp) ?_
            refine AllReadyH.cons rfl (fun K hK => ?_) ?_
            · go_simp
              refine hK.out _ _ fin.out.1 (fun _ => ?_)
              clear hK K
              refine wpAnyH_ready (rs := [7]) (by kernel_rfl) (by simp) ?_
              refine AllReadyH.cons rfl (fun K hK => ?_) ?_
              · go_simp
                refine hK.out _ _ fin.out.2.1 (fun _ => ?_)
                clear hK K
                refine wpAnyH_done (by kernel_rfl) ?_ _
                refine hKm _ _ ?_
                refine hJm _ _ ?_
                exact ⟨_, _, _, _, _, _, _, ⟨_, _, _, _, rfl, rfl, fin.out.2.2⟩, rfl⟩
              exact AllReadyH.nil
            exact AllReadyH.nil
          exact AllReadyH.nil
        refine AllReadyH.cons rfl (fun K hK => ?_) ?_
        · go_simp
          obtain ⟨v15, hv15⟩ : ∃ v, v12.alloc (.cells #[.int .i64 0, .slice none 0 0] 25) = v := ⟨_, rfl⟩
          have hb15 : Below v12.heap.size v12 v15 := by rw [← hv15]; exact (Below.refl _ _).alloc (Nat.le_refl _) _
          have hA15 : At v15 v12.heap.size #[.int .i64 0, .slice none 0 0] 25 := by rw [← hv15]; exact At.new v12 _ _
          rw [hv15]
          have dd := hA12.lt
          obtain ⟨p15, hp15⟩ : ∃ p, v12.heap.size = p := ⟨_, rfl⟩
          rw [hp15] at hA15 ⊢
          have hlo15 : v12.heap.size ≤ p15 := by omega
          rw [hp15] at dd
          clear hv15
          have xs15 := keptQ xs12 hb15
          have xB15 := Below.trans xB12 (hb15.mono (Below.size xB12))
          have xz15 : w1.heap.size ≤ v15.heap.size := Nat.le_trans xz12 hb15.size
          have xl15 : w1.heap.size ≤ p15 := Nat.le_trans xz12 hlo15
          have xm15 := At.keptAll xm12 hb15
          have x515 := At.keptAll hA12 hb15
          refine hK.out _ _ xs15 (fun hH15 => ?_)
          clear hK K
          refine wpAnyH_ready (rs := [3]) (by kernel_rfl) (by simp) ?_
          refine AllReadyH.cons rfl (fun K hK => ?_) ?_
          · rw [if_pos (by rfl)]
            go_simp
            refine (hin.out _ xB15).mono ?_
            rintro e v16 ⟨p16, hlo16, rfl, hA16, hb16⟩
            have xs16 := keptQ xs15 hb16
            have xB16 := Below.trans xB15 (hb16.mono (Below.size xB15))
            have xz16 : w1.heap.size ≤ v16.heap.size := Nat.le_trans xz15 hb16.size
            have xl16 : w1.heap.size ≤ p16 := Nat.le_trans xz15 hlo16
            have xm16 := At.keptAll xm15 hb16
            have x416 := At.keptAll hA15 hb16
            have x516 := At.keptAll x515 hb16
            refine hK.out _ _ xs16 (fun hH16 => ?_)
            clear hK K
            have y4 := x416
            have y5 := x516
            have fin := hid (spB_fin (w := w) hke xm16 hA16 y4 y5 (by omega) (Nat.le_trans hz1 xl15) (Nat.le_trans hz1 xl12) (Nat.le_trans hz1 xl1) (Nat.le_trans hz1 xl16) xs16.1 xs16.2 xB16)
            obtain ⟨c40, c41, f40, f41⟩ := y4.facts
            obtain ⟨c50, c51, f50, f51⟩ := y5.facts
            have e1 := (y5.other (p := ⟨p15, 0, none⟩) (by show p12 ≠ p15; omega) (.int .i64 (s.size : Int))).other (p := ⟨p15, 1, none⟩) (by show p12 ≠ p15; omega) (.slice (some ⟨p1, 0, none⟩) k k)
            obtain ⟨e50, e51, g50, g51⟩ := e1.facts
            refine wpAnyH_ready (rs := [6]) (by kernel_rfl) (by simp) ?_
            refine AllReadyH.cons rfl (fun K hK => ?_) ?_
            · go_simp
              refine hK.out _ _ fin.out.1 (fun _ => ?_)
              clear hK K
              refine wpAnyH_ready (rs := [7]) (by kernel_rfl) (by simp) ?_
              refine AllReadyH.cons rfl (fun K hK => ?_) ?_
              · go_simp
                refine hK.out _ _ fin.out.2.1 (fun _ => ?_)
                clear hK K
                refine wpAnyH_done (by kernel_rfl) ?_ _
                refine hKm _ _ ?_
                refine hJm _ _ ?_
                exact ⟨_, _, _, _, _, _, _, ⟨_, _, _, _, rfl, rfl, fin.out.2.2⟩, rfl⟩
              exact AllReadyH.nil
            exact AllReadyH.nil
          exact AllReadyH.nil
        exact AllReadyH.nil
      exact AllReadyH.nil
    refine AllReadyH.cons rfl (fun K hK => ?_) ?_
    · go_simp
      obtain ⟨v17, hv17⟩ : ∃ v, W0.alloc (.cells #[.int .i64 0, .slice none 0 0] 25) = v := ⟨_, rfl⟩
      have hb17 : Below W0.heap.size W0 v17 := by rw [← hv17]; exact (Below.refl _ _).alloc (Nat.le_refl _) _
      have hA17 : At v17 W0.heap.size #[.int .i64 0, .slice none 0 0] 25 := by rw [← hv17]; exact At.new W0 _ _
      rw [hv17]
      obtain ⟨p17, hp17⟩ : ∃ p, W0.heap.size = p := ⟨_, rfl⟩
      rw [hp17] at hA17 ⊢
      have hlo17 : W0.heap.size ≤ p17 := by omega
      clear hv17
      have xs17 := keptQ hS0 hb17
      have xB17 := Below.trans hB0 (hb17.mono (Below.size hB0))
      have xz17 : w1.heap.size ≤ v17.heap.size := Nat.le_trans hz0 hb17.size
      have xl17 : w1.heap.size ≤ p17 := Nat.le_trans hz0 hlo17
      refine hK.out _ _ xs17 (fun hH17 => ?_)
      clear hK K
      refine wpAnyH_ready (rs := [1, 5]) (by kernel_rfl) (by simp) ?_
      refine AllReadyH.cons rfl (fun K hK => ?_) ?_
      · rw [if_pos (by rfl)]
        go_simp
        refine (hmk.out _ xB17).mono ?_
        rintro e v18 ⟨p18, hlo18, rfl, hA18, hb18⟩
        have xs18 := keptQ xs17 hb18
        have xB18 := Below.trans xB17 (hb18.mono (Below.size xB17))
        have xz18 : w1.heap.size ≤ v18.heap.size := Nat.le_trans xz17 hb18.size
        have xl18 : w1.heap.size ≤ p18 := Nat.le_trans xz17 hlo18
        have x418 := At.keptAll hA17 hb18
        refine hK.out _ _ xs18 (fun hH18 => ?_)
        clear hK K
        refine wpAnyH_ready (rs := [3, 5]) (by kernel_rfl) (by simp) ?_
        refine AllReadyH.cons rfl (fun K hK => ?_) ?_
        · rw [if_pos (by rfl)]
          go_simp
          refine (hin.out _ xB18).mono ?_
          rintro e v19 ⟨p19, hlo19, rfl, hA19, hb19⟩
          have xs19 := keptQ xs18 hb19
          have xB19 := Below.trans xB18 (hb19.mono (Below.size xB18))
          have xz19 : w1.heap.size ≤ v19.heap.size := Nat.le_trans xz18 hb19.size
          have xl19 : w1.heap.size ≤ p19 := Nat.le_trans xz18 hlo19
          have xm19 := At.keptAll hA18 hb19
          have x419 := At.keptAll x418 hb19
          refine hK.out _ _ xs19 (fun hH19 => ?_)
          clear hK K
          refine wpAnyH_ready (rs := [5]) (by kernel_rfl) (by simp) ?_
          refine AllReadyH.cons rfl (fun K hK => ?_) ?_
          · go_simp
            obtain ⟨v20, hv20⟩ : ∃ v, v19.alloc (.cells #[.int .i64 0, .slice none 0 0] 25) = v := ⟨_, rfl⟩
            have hb20 : Below v19.heap.size v19 v20 := by rw [← hv20]; exact (Below.refl _ _).alloc (Nat.le_refl _) _
            have hA20 : At v20 v19.heap.size #[.int .i64 0, .slice none 0 0] 25 := by rw [← hv20]; exact At.new v19 _ _
            rw [hv20]
            have dd := x419.lt
            obtain ⟨p20, hp20⟩ : ∃ p, v19.heap.size = p := ⟨_, rfl⟩
            rw [hp20] at hA20 ⊢
            have hlo20 : v19.heap.size ≤ p20 := by omega
            rw [hp20] at dd
            clear hv20
            have xs20 := keptQ xs19 hb20
            have xB20 := Below.trans xB19 (hb20.mono (Below.size xB19))
            have xz20 : w1.heap.size ≤ v20.heap.size := Nat.le_trans xz19 hb20.size
            have xl20 : w1.heap.size ≤ p20 := Nat.le_trans xz19 hlo20
            have xm20 := At.keptAll xm19 hb20
            have xi20 := At.keptAll hA19 hb20
            have x420 := At.keptAll x419 hb20
            refine hK.out _ _ xs20 (fun hH20 => ?_)
            clear hK K
            have y4 := x420
            have y5 := hA20
            have fin := hid (spB_fin (w := w) hke xm20 xi20 y4 y5 (by omega) (Nat.le_trans hz1 xl17) (Nat.le_trans hz1 xl20) (Nat.le_trans hz1 xl18) (Nat.le_trans hz1 xl19) xs20.1 xs20.2 xB20)
            obtain ⟨c40, c41, f40, f41⟩ := y4.facts
            obtain ⟨c50, c51, f50, f51⟩ := y5.facts
            have e1 := (y5.other (p := ⟨p17, 0, none⟩) (by show p20 ≠ p17; omega) (.int .i64 (s.size : Int))).other (p := ⟨p17, 1, none⟩) (by show p20 ≠ p17; omega) (.slice (some ⟨p18, 0, none⟩) k k)
            obtain ⟨e50, e51, g50, g51⟩ := e1.facts
            refine wpAnyH_ready (rs := [6]) (by kernel_rfl) (by simp) ?_
            refine AllReadyH.cons rfl (fun K hK => ?_) ?_
            · go_simp
              refine hK.out _ _ fin.out.1 (fun _ => ?_)
              clear hK K
              refine wpAnyH_ready (rs := [7]) (by kernel_rfl) (by simp) ?_
              refine AllReadyH.cons rfl (fun K hK => ?_) ?_
              · go_simp
                refine hK.out _ _ fin.out.2.1 (fun _ => ?_)
                clear hK K
                refine wpAnyH_done (by kernel_rfl) ?_ _
                refine hKm _ _ ?_
                refine hJm _ _ ?_
                exact ⟨_, _, _, _, _, _, _, ⟨_, _, _, _, rfl, rfl, fin.out.2.2⟩, rfl⟩
              exact AllReadyH.nil
            exact AllReadyH.nil
          exact AllReadyH.nil
        refine AllReadyH.cons rfl (fun K hK => ?_) ?_
        · go_simp
          obtain ⟨v21, hv21⟩ : ∃ v, v18.alloc (.cells #[.int .i64 0, .slice none 0 0] 25) = v := ⟨_, rfl⟩
          have hb21 : Below v18.heap.size v18 v21 := by rw [← hv21]; exact (Below.refl _ _).alloc (Nat.le_refl _) _
          have hA21 : At v21 v18.heap.size #[.int .i64 0, .slice none 0 0] 25 := by rw [← hv21]; exact At.new v18 _ _
          rw [hv21]
          have dd := x418.lt
          obtain ⟨p21, hp21⟩ : ∃ p, v18.heap.size = p := ⟨_, rfl⟩
          rw [hp21] at hA21 ⊢
          have hlo21 : v18.heap.size ≤ p21 := by omega
          rw [hp21] at dd
          clear hv21
          have xs21 := keptQ xs18 hb21
          have xB21 := Below.trans xB18 (hb21.mono (Below.size xB18))
          have xz21 : w1.heap.size ≤ v21.heap.size := Nat.le_trans xz18 hb21.size
          have xl21 : w1.heap.size ≤ p21 := Nat.le_trans xz18 hlo21
          have xm21 := At.keptAll hA18 hb21
          have x421 := At.keptAll x418 hb21
          refine hK.out _ _ xs21 (fun hH21 => ?_)
          clear hK K
          refine wpAnyH_ready (rs := [3]) (by kernel_rfl) (by simp) ?_
          refine AllReadyH.cons rfl (fun K hK => ?_) ?_
          · rw [if_pos (by rfl)]
            go_simp
            refine (hin.out _ xB21).mono ?_
            rintro e v22 ⟨p22, hlo22, rfl, hA22, hb22⟩
            have xs22 := keptQ xs21 hb22
            have xB22 := Below.trans xB21 (hb22.mono (Below.size xB21))
            have xz22 : w1.heap.size ≤ v22.heap.size := Nat.le_trans xz21 hb22.size
            have xl22 : w1.heap.size ≤ p22 := Nat.le_trans xz21 hlo22
            have xm22 := At.keptAll xm21 hb22
            have x422 := At.keptAll x421 hb22
            have x522 := At.keptAll hA21 hb22
            refine hK.out _ _ xs22 (fun hH22 => ?_)
            clear hK K
            have y4 := x422
            have y5 := x522
            have fin := hid (spB_fin (w := w) hke xm22 hA22 y4 y5 (by omega) (Nat.le_trans hz1 xl17) (Nat.le_trans hz1 xl21) (Nat.le_trans hz1 xl18) (Nat.le_trans hz1 xl22) xs22.1 xs22.2 xB22)
            obtain ⟨c40, c41, f40, f41⟩ := y4.facts
            obtain ⟨c50, c51, f50, f51⟩ := y5.facts
            have e1 := (y5.other (p := ⟨p17, 0, none⟩) (by show p21 ≠ p17; omega) (.int .i64 (s.size : Int))).other (p := ⟨p17, 1, none⟩) (by show p21 ≠ p17; omega) (.slice (some ⟨p18, 0, none⟩) k k)
            obtain ⟨e50, e51, g50, g51⟩ := e1.facts
            refine wpAnyH_ready (rs := [6]) (by kernel_rfl) (by simp) ?_
            refine AllReadyH.cons rfl (fun K hK => ?_) ?_
            · go_simp
              refine hK.out _ _ fin.out.1 (fun _ => ?_)
              clear hK K
              refine wpAnyH_ready (rs := [7]) (by kernel_rfl) (by simp) ?_
              refine AllReadyH.cons rfl (fun K hK => ?_) ?_
              · go_simp
                refine hK.out _ _ fin.out.2.1 (fun _ => ?_)
                clear hK K
                refine wpAnyH_done (by kernel_rfl) ?_ _
                refine hKm _ _ ?_
                refine hJm _ _ ?_
                exact ⟨_, _, _, _, _, _, _, ⟨_, _, _, _, rfl, rfl, fin.out.2.2⟩, rfl⟩
              exact AllReadyH.nil
            exact AllReadyH.nil
          exact AllReadyH.nil
        exact AllReadyH.nil
      refine AllReadyH.cons rfl (fun K hK => ?_) ?_
      · go_simp
        obtain ⟨v23, hv23⟩ : ∃ v, v17.alloc (.cells #[.int .i64 0, .slice none 0 0] 25) = v := ⟨_, rfl⟩
        have hb23 : Below v17.heap.size v17 v23 := by rw [← hv23]; exact (Below.refl _ _).alloc (Nat.le_refl _) _
        have hA23 : At v23 v17.heap.size #[.int .i64 0, .slice none 0 0] 25 := by rw [← hv23]; exact At.new v17 _ _
        rw [hv23]
        have dd := hA17.lt
        obtain ⟨p23, hp23⟩ : ∃ p, v17.heap.size = p := ⟨_, rfl⟩
        rw [hp23] at hA23 ⊢
        have hlo23 : v17.heap.size ≤ p23 := by omega
        rw [hp23] at dd
        clear hv23
        have xs23 := keptQ xs17 hb23
        have xB23 := Below.trans xB17 (hb23.mono (Below.size xB17))
        have xz23 : w1.heap.size ≤ v23.heap.size := Nat.le_trans xz17 hb23.size
        have xl23 : w1.heap.size ≤ p23 := Nat.le_trans xz17 hlo23
        have x423 := At.keptAll hA17 hb23
        refine hK.out _ _ xs23 (fun hH23 => ?_)
        clear hK K
        refine wpAnyH_ready (rs := [1]) (by kernel_rfl) (by simp) ?_
        refine AllReadyH.cons rfl (fun K hK => ?_) ?_
        · rw [if_pos (by rfl)]
          go_simp
          refine (hmk.out _ xB23).mono ?_
          rintro e v24 ⟨p24, hlo24, rfl, hA24, hb24⟩
          have xs24 := keptQ xs23 hb24
          have xB24 := Below.trans xB23 (hb24.mono (Below.size xB23))
          have xz24 : w1.heap.size ≤ v24.heap.size := Nat.le_trans xz23 hb24.size
          have xl24 : w1.heap.size ≤ p24 := Nat.le_trans xz23 hlo24
          have x424 := At.keptAll x423 hb24
          have x524 := At.keptAll hA23 hb24
          refine hK.out _ _ xs24 (fun hH24 => ?_)
          clear hK K
          refine wpAnyH_ready (rs := [3]) (by kernel_rfl) (by simp) ?_
          refine AllReadyH.cons rfl (fun K hK => ?_) ?_
          · rw [if_pos (by rfl)]
            go_simp
            refine (hin.out _ xB24).mono ?_
            rintro e v25 ⟨p25, hlo25, rfl, hA25, hb25⟩
            have xs25 := keptQ xs24 hb25
            have xB25 := Below.trans xB24 (hb25.mono (Below.size xB24))
            have xz25 : w1.heap.size ≤ v25.heap.size := Nat.le_trans xz24 hb25.size
            have xl25 : w1.heap.size ≤ p25 := Nat.le_trans xz24 hlo25
            have xm25 := At.keptAll hA24 hb25
            have x425 := At.keptAll x424 hb25
            have x525 := At.keptAll x524 hb25
            refine hK.out _ _ xs25 (fun hH25 => ?_)
            clear hK K
            have y4 := x425
            have y5 := x525
            have fin := hid (spB_fin (w := w) hke xm25 hA25 y4 y5 (by omega) (Nat.le_trans hz1 xl17) (Nat.le_trans hz1 xl23) (Nat.le_trans hz1 xl24) (Nat.le_trans hz1 xl25) xs25.1 xs25.2 xB25)
            obtain ⟨c40, c41, f40, f41⟩ := y4.facts
            obtain ⟨c50, c51, f50, f51⟩ := y5.facts
            have e1 := (y5.other (p := ⟨p17, 0, none⟩) (by show p23 ≠ p17; omega) (.int .i64 (s.size : Int))).other (p := ⟨p17, 1, none⟩) (by show p23 ≠ p17; omega) (.slice (some ⟨p24, 0, none⟩) k k)
            obtain ⟨e50, e51, g50, g51⟩ := e1.facts
            refine wpAnyH_ready (rs := [6]) (by kernel_rfl) (by simp) ?_
            refine AllReadyH.cons rfl (fun K hK => ?_) ?_
            · go_simp
              refine hK.out _ _ fin.out.1 (fun _ => ?_)
              clear hK K
              refine wpAnyH_ready (rs := [7]) (by kernel_rfl) (by simp) ?_
              refine AllReadyH.cons rfl (fun K hK => ?_) ?_
              · go_simp
                refine hK.out _ _ fin.out.2.1 (fun _ => ?_)
                clear hK K
                refine wpAnyH_done (by kernel_rfl) ?_ _
                refine hKm _ _ ?_
                refine hJm _ _ ?_
                exact ⟨_, _, _, _, _, _, _, ⟨_, _, _, _, rfl, rfl, fin.out.2.2⟩, rfl⟩
              exact AllReadyH.nil
            exact AllReadyH.nil
          exact AllReadyH.nil
        exact AllReadyH.nil
      exact AllReadyH.nil
    refine AllReadyH.cons rfl (fun K hK => ?_) ?_
    · go_simp
      obtain ⟨v26, hv26⟩ : ∃ v, W0.alloc (.cells #[.int .i64 0, .slice none 0 0] 25) = v := ⟨_, rfl⟩
      have hb26 : Below W0.heap.size W0 v26 := by rw [← hv26]; exact (Below.refl _ _).alloc (Nat.le_refl _) _
      have hA26 : At v26 W0.heap.size #[.int .i64 0, .slice none 0 0] 25 := by rw [← hv26]; exact At.new W0 _ _
      rw [hv26]
      obtain ⟨p26, hp26⟩ : ∃ p, W0.heap.size = p := ⟨_, rfl⟩
      rw [hp26] at hA26 ⊢
      have hlo26 : W0.heap.size ≤ p26 := by omega
      clear hv26
      have xs26 := keptQ hS0 hb26
      have xB26 := Below.trans hB0 (hb26.mono (Below.size hB0))
      have xz26 : w1.heap.size ≤ v26.heap.size := Nat.le_trans hz0 hb26.size
      have xl26 : w1.heap.size ≤ p26 := Nat.le_trans hz0 hlo26
      refine hK.out _ _ xs26 (fun hH26 => ?_)
      clear hK K
      refine wpAnyH_ready (rs := [1, 4]) (by kernel_rfl) (by simp) ?_
      refine AllReadyH.cons rfl (fun K hK => ?_) ?_
      · rw [if_pos (by rfl)]
        go_simp
        refine (hmk.out _ xB26).mono ?_
        rintro e v27 ⟨p27, hlo27, rfl, hA27, hb27⟩
        have xs27 := keptQ xs26 hb27
        have xB27 := Below.trans xB26 (hb27.mono (Below.size xB26))
        have xz27 : w1.heap.size ≤ v27.heap.size := Nat.le_trans xz26 hb27.size
        have xl27 : w1.heap.size ≤ p27 := Nat.le_trans xz26 hlo27
        have x527 := At.keptAll hA26 hb27
        refine hK.out _ _ xs27 (fun hH27 => ?_)
        clear hK K
        refine wpAnyH_ready (rs := [3, 4]) (by kernel_rfl) (by simp) ?_
        refine AllReadyH.cons rfl (fun K hK => ?_) ?_
        · rw [if_pos (by rfl)]
          go_simp
          refine (hin.out _ xB27).mono ?_
          rintro e v28 ⟨p28, hlo28, rfl, hA28, hb28⟩
          have xs28 := keptQ xs27 hb28
          have xB28 := Below.trans xB27 (hb28.mono (Below.size xB27))
          have xz28 : w1.heap.size ≤ v28.heap.size := Nat.le_trans xz27 hb28.size
          have xl28 : w1.heap.size ≤ p28 := Nat.le_trans xz27 hlo28
          have xm28 := At.keptAll hA27 hb28
          have x528 := At.keptAll x527 hb28
          refine hK.out _ _ xs28 (fun hH28 => ?_)
          clear hK K
          refine wpAnyH_ready (rs := [4]) (by kernel_rfl) (by simp) ?_
          refine AllReadyH.cons rfl (fun K hK => ?_) ?_
          · go_simp
            obtain ⟨v29, hv29⟩ : ∃ v, v28.alloc (.cells #[.int .i64 0, .slice none 0 0] 25) = v := ⟨_, rfl⟩
            have hb29 : Below v28.heap.size v28 v29 := by rw [← hv29]; exact (Below.refl _ _).alloc (Nat.le_refl _) _
            have hA29 : At v29 v28.heap.size #[.int .i64 0, .slice none 0 0] 25 := by rw [← hv29]; exact At.new v28 _ _
            rw [hv29]
            have dd := x528.lt
            obtain ⟨p29, hp29⟩ : ∃ p, v28.heap.size = p := ⟨_, rfl⟩
            rw [hp29] at hA29 ⊢
            have hlo29 : v28.heap.size ≤ p29 := by omega
            rw [hp29] at dd
            clear hv29
            have xs29 := keptQ xs28 hb29
            have xB29 := Below.trans xB28 (hb29.mono (Below.size xB28))
            have xz29 : w1.heap.size ≤ v29.heap.size := Nat.le_trans xz28 hb29.size
            have xl29 : w1.heap.size ≤ p29 := Nat.le_trans xz28 hlo29
            have xm29 := At.keptAll xm28 hb29
            have xi29 := At.keptAll hA28 hb29
            have x529 := At.keptAll x528 hb29
            refine hK.out _ _ xs29 (fun hH29 => ?_)
            clear hK K
            have y4 := hA29
            have y5 := x529
            have fin := hid (spB_fin (w := w) hke xm29 xi29 y4 y5 (by omega) (Nat.le_trans hz1 xl29) (Nat.le_trans hz1 xl26) (Nat.le_trans hz1 xl27) (Nat.le_trans hz1 xl28) xs29.1 xs29.2 xB29)
            obtain ⟨c40, c41, f40, f41⟩ := y4.facts
            obtain ⟨c50, c51, f50, f51⟩ := y5.facts
            have e1 := (y5.other (p := ⟨p29, 0, none⟩) (by show p26 ≠ p29; omega) (.int .i64 (s.size : Int))).other (p := ⟨p29, 1, none⟩) (by show p26 ≠ p29; omega) (.slice (some ⟨p27, 0, none⟩) k k)
            obtain ⟨e50, e51, g50, g51⟩ := e1.facts
            refine wpAnyH_ready (rs := [6]) (by kernel_rfl) (by simp) ?_
            refine AllReadyH.cons rfl (fun K hK => ?_) ?_
            · go_simp
              refine hK.out _ _ fin.out.1 (fun _ => ?_)
              clear hK K
              refine wpAnyH_ready (rs := [7]) (by kernel_rfl) (by simp) ?_
              refine AllReadyH.cons rfl (fun K hK => ?_) ?_
              · go_simp
                refine hK.out _ _ fin.out.2.1 (fun _ => ?_)
                clear hK K
                refine wpAnyH_done (by kernel_rfl) ?_ _
                refine hKm _ _ ?_
                refine hJm _ _ ?_
                exact ⟨_, _, _, _, _, _, _, ⟨_, _, _, _, rfl, rfl, fin.out.2.2⟩, rfl⟩
              exact AllReadyH.nil
            exact AllReadyH.nil
          exact AllReadyH.nil
        refine AllReadyH.cons rfl (fun K hK => ?_) ?_
        · go_simp
          obtain ⟨v30, hv30⟩ : ∃ v, v27.alloc (.cells #[.int .i64 0, .slice none 0 0] 25) = v := ⟨_, rfl⟩
          have hb30 : Below v27.heap.size v27 v30 := by rw [← hv30]; exact (Below.refl _ _).alloc (Nat.le_refl _) _
          have hA30 : At v30 v27.heap.size #[.int .i64 0, .slice none 0 0] 25 := by rw [← hv30]; exact At.new v27 _ _
          rw [hv30]
          have dd := x527.lt
          obtain ⟨p30, hp30⟩ : ∃ p, v27.heap.size = p := ⟨_, rfl⟩
          rw [hp30] at hA30 ⊢
          have hlo30 : v27.heap.size ≤ p30 := by omega
          rw [hp30] at dd
          clear hv30
          have xs30 := keptQ xs27 hb30
          have xB30 := Below.trans xB27 (hb30.mono (Below.size xB27))
          have xz30 : w1.heap.size ≤ v30.heap.size := Nat.le_trans xz27 hb30.size
          have xl30 : w1.heap.size ≤ p30 := Nat.le_trans xz27 hlo30
          have xm30 := At.keptAll hA27 hb30
          have x530 := At.keptAll x527 hb30
          refine hK.out _ _ xs30 (fun hH30 => ?_)
          clear hK K
          refine wpAnyH_ready (rs := [3]) (by kernel_rfl) (by simp) ?_
          refine AllReadyH.cons rfl (fun K hK => ?_) ?_
          · rw [if_pos (by rfl)]
            go_simp
            refine (hin.out _ xB30).mono ?_
            rintro e v31 ⟨p31, hlo31, rfl, hA31, hb31⟩
            have xs31 := keptQ xs30 hb31
            have xB31 := Below.trans xB30 (hb31.mono (Below.size xB30))
            have xz31 : w1.heap.size ≤ v31.heap.size := Nat.le_trans xz30 hb31.size
            have xl31 : w1.heap.size ≤ p31 := Nat.le_trans xz30 hlo31
            have xm31 := At.keptAll xm30 hb31
            have x431 := At.keptAll hA30 hb31
            have x531 := At.keptAll x530 hb31
            refine hK.out _ _ xs31 (fun hH31 => ?_)
            clear hK K
            have y4 := x431
            have y5 := x531
            have fin := hid (spB_fin (w := w) hke xm31 hA31 y4 y5 (by omega) (Nat.le_trans hz1 xl30) (Nat.le_trans hz1 xl26) (Nat.le_trans hz1 xl27) (Nat.le_trans hz1 xl31) xs31.1 xs31.2 xB31)
            obtain ⟨c40, c41, f40, f41⟩ := y4.facts
            obtain ⟨c50, c51, f50, f51⟩ := y5.facts
            have e1 := (y5.other (p := ⟨p30, 0, none⟩) (by show p26 ≠ p30; omega) (.int .i64 (s.size : Int))).other (p := ⟨p30, 1, none⟩) (by show p26 ≠ p30; omega) (.slice (some ⟨p27, 0, none⟩) k k)
            obtain ⟨e50, e51, g50, g51⟩ := e1.facts
            refine wpAnyH_ready (rs := [6]) (by kernel_rfl) (by simp) ?_
            refine AllReadyH.cons rfl (fun K hK => ?_) ?_
            · go_simp
              refine hK.out _ _ fin.out.1 (fun _ => ?_)
              clear hK K
              refine wpAnyH_ready (rs := [7]) (by kernel_rfl) (by simp) ?_
              refine AllReadyH.cons rfl (fun K hK => ?_) ?_
              · go_simp
                refine hK.out _ _ fin.out.2.1 (fun _ => ?_)
                clear hK K
                refine wpAnyH_done (by kernel_rfl) ?_ _
                refine hKm _ _ ?_
                refine hJm _ _ ?_
                exact ⟨_, _, _, _, _, _, _, ⟨_, _, _, _, rfl, rfl, fin.out.2.2⟩, rfl⟩
              exact AllReadyH.nil
            exact AllReadyH.nil
          exact AllReadyH.nil
        exact AllReadyH.nil
      refine AllReadyH.cons rfl (fun K hK => ?_) ?_
      · go_simp
        obtain ⟨v32, hv32⟩ : ∃ v, v26.alloc (.cells #[.int .i64 0, .slice none 0 0] 25) = v := ⟨_, rfl⟩
        have hb32 : Below v26.heap.size v26 v32 := by rw [← hv32]; exact (Below.refl _ _).alloc (Nat.le_refl _) _
        have hA32 : At v32 v26.heap.size #[.int .i64 0, .slice none 0 0] 25 := by rw [← hv32]; exact At.new v26 _ _
        rw [hv32]
        have dd := hA26.lt
        obtain ⟨p32, hp32⟩ : ∃ p, v26.heap.size = p := ⟨_, rfl⟩
        rw [hp32] at hA32 ⊢
        have hlo32 : v26.heap.size ≤ p32 := by omega
        rw [hp32] at dd
        clear hv32
        have xs32 := keptQ xs26 hb32
        have xB32 := Below.trans xB26 (hb32.mono (Below.size xB26))
        have xz32 : w1.heap.size ≤ v32.heap.size := Nat.le_trans xz26 hb32.size
        have xl32 : w1.heap.size ≤ p32 := Nat.le_trans xz26 hlo32
        have x532 := At.keptAll hA26 hb32
        refine hK.out _ _ xs32 (fun hH32 => ?_)
        clear hK K
        refine wpAnyH_ready (rs := [1]) (by kernel_rfl) (by simp) ?_
        refine AllReadyH.cons rfl (fun K hK => ?_) ?_
        · rw [if_pos (by rfl)]
          go_simp
          refine (hmk.out _ xB32).mono ?_
          rintro e v33 ⟨p33, hlo33, rfl, hA33, hb33⟩
          have xs33 := keptQ xs32 hb33
          have xB33 := Below.trans xB32 (hb33.mono (Below.size xB32))
          have xz33 : w1.heap.size ≤ v33.heap.size := Nat.le_trans xz32 hb33.size
          have xl33 : w1.heap.size ≤ p33 := Nat.le_trans xz32 hlo33
          have x433 := At.keptAll hA32 hb33
          have x533 := At.keptAll x532 hb33
          refine hK.out _ _ xs33 (fun hH33 => ?_)
          clear hK K
          refine wpAnyH_ready (rs := [3]) (by kernel_rfl) (by simp) ?_
          refine AllReadyH.cons rfl (fun K hK => ?_) ?_
          · rw [if_pos (by rfl)]
            go_simp
            refine (hin.out _ xB33).mono ?_
            rintro e v34 ⟨p34, hlo34, rfl, hA34, hb34⟩
            have xs34 := keptQ xs33 hb34
            have xB34 := Below.trans xB33 (hb34.mono (Below.size xB33))
            have xz34 : w1.heap.size ≤ v34.heap.size := Nat.le_trans xz33 hb34.size
            have xl34 : w1.heap.size ≤ p34 := Nat.le_trans xz33 hlo34
            have xm34 := At.keptAll hA33 hb34
            have x434 := At.keptAll x433 hb34
            have x534 := At.keptAll x533 hb34
            refine hK.out _ _ xs34 (fun hH34 => ?_)
            clear hK K
            have y4 := x434
            have y5 := x534
            have fin := hid (spB_fin (w := w) hke xm34 hA34 y4 y5 (by omega) (Nat.le_trans hz1 xl32) (Nat.le_trans hz1 xl26) (Nat.le_trans hz1 xl33) (Nat.le_trans hz1 xl34) xs34.1 xs34.2 xB34)
            obtain ⟨c40, c41, f40, f41⟩ := y4.facts
            obtain ⟨c50, c51, f50, f51⟩ := y5.facts
            have e1 := (y5.other (p := ⟨p32, 0, none⟩) (by show p26 ≠ p32; omega) (.int .i64 (s.size : Int))).other (p := ⟨p32, 1, none⟩) (by show p26 ≠ p32; omega) (.slice (some ⟨p33, 0, none⟩) k k)
            obtain ⟨e50, e51, g50, g51⟩ := e1.facts
            refine wpAnyH_ready (rs := [6]) (by kernel_rfl) (by simp) ?_
            refine AllReadyH.cons rfl (fun K hK => ?_) ?_
            · go_simp
              refine hK.out _ _ fin.out.1 (fun _ => ?_)
              clear hK K
              refine wpAnyH_ready (rs := [7]) (by kernel_rfl) (by simp) ?_
              refine AllReadyH.cons rfl (fun K hK => ?_) ?_
              · go_simp
                refine hK.out _ _ fin.out.2.1 (fun _ => ?_)
                clear hK K
                refine wpAnyH_done (by kernel_rfl) ?_ _
                refine hKm _ _ ?_
                refine hJm _ _ ?_
                exact ⟨_, _, _, _, _, _, _, ⟨_, _, _, _, rfl, rfl, fin.out.2.2⟩, rfl⟩
              exact AllReadyH.nil
            exact AllReadyH.nil
          exact AllReadyH.nil
        exact AllReadyH.nil
      exact AllReadyH.nil
    exact AllReadyH.nil
  case rest => as_aux_lemma =>
    obtain ⟨b1, b2, g1, g2, rfl, rfl, hSp⟩ := hcut
    clear hA0' hA1' hB1 hz1
    have hSp' := hid hSp
    have s0 := hSp.txt.cell 0
    simp only [List.getElem?_toArray, List.getElem?_cons_zero] at s0
    have s0' := ((hSp.txt.alloc (.cells #[.int .i64 0] 3)).cell 0)
    simp only [List.getElem?_toArray, List.getElem?_cons_zero] at s0'
    clear hSp
    go_wp2_with fail
    have hSpA := hSp'.out.kept ((Below.refl wc.heap.size wc).alloc (Nat.le_refl _) (.cells #[.int .i64 0] 3))
    have hat := At.new wc #[.int .i64 0] 3
    refine Calls.mono (textsQ_calls s (by omega) _ (hT'.out.below hSpA.b hw0) (by simp)) ?_
    rintro e W0 ⟨bm, bs, g, hbm, hbs, hgg, rfl, hX, hb0⟩
    obtain ⟨b5, hb5⟩ : ∃ b5, wc.heap.size = b5 := ⟨_, rfl⟩
    have hSp0 := hSpA.kept hb0
    have hat0 := hat.keptAll hb0
    have hlts := hSp'.out.lt
    rw [hb5] at hat0 hlts ⊢
    simp only [World.size_alloc, hb5] at hbm hbs hgg
    have h5w : w.heap.size + 2 ≤ b5 := by have h1 := hSp'.out.2.2.1; omega
    have hB0 := hSp0.b
    have hX' := hid hX
    have hSp0' := hid hSp0
    have hat0' := hid hat0
    have hz5 : b5 < W0.heap.size := hat0.lt
    clear hSpA hat hX hb0 hSp0 hat0 hSp' s0 s0' hb5
    go_wp2_with fail
    refine (wpIn_wide (n := 3)).1 ?_
    refine range_tell (n := 3) (by decide) (gf := 37) (lb := #[.pointer (some ⟨bm, 0, none⟩), .pointer (some ⟨bs, 0, none⟩)]) rfl (enters_of Tryd.func37 (by kernel_rfl) rfl)
      (texts_tell (3 - 1) bm bs g s (by omega) W0 hX'.out (hT'.out.below hB0 hw0) (by omega)) (Below.refl _ _) (fun _ => rfl) KeepT.trans (keepT_l (w := W0) (by omega))
      (SqI w s b1 b2 g1 g2 b5) (fun _ _ _ => False) (sqI_own hB0.size) (fun _ _ _ _ _ h _ _ => h) ⟨0, spAt_zero s, hSp0'.out, hat0'.out⟩
      (SqA w s b1 b2 b5 bm bs u10 u11 u12 u13) (fun x a' => sqA_own x a') ?assign ?body ?done ?stop
    case assign =>
      intro l x W KK hx hI hKK
      obtain ⟨⟨A, C⟩, hAC⟩ : ∃ y, Hid (spn s x = y) := ⟨_, rfl⟩
      rw [encT, hAC.out]
      have hb : Below W.heap.size W (W.alloc (.cells #[.int .i64 (A : Int), .int .i64 (C : Int)] 36)) := by repeat (first | with_reducible exact Below.refl _ _ | with_reducible refine Below.setCell ?_ (by first | (simp; done) | (simp; omega)) _ | with_reducible refine below_drewN ?_ _ | with_reducible refine Below.alloc ?_ (by first | (simp; done) | (simp; omega)) _ | with_reducible refine Below.drew ?_)
      have hK2 := fun a' => hKK a' _ ((keeps_below hb).from _) (KeepT.of_below hb) (sqI_kept hI hb)
      have hgt : b5 < W.heap.size := by obtain ⟨f, -, -, h⟩ := hI; exact h.lt
      clear hKK hI hb
      gi_wp2
      exact ⟨W.heap.size, A, C, hAC, hgt, At.new W _ _, rfl⟩
    case body =>
      rintro l r a' W hll ⟨rec, hrec⟩ hlt ⟨f, hf, hSq, hfA⟩ ⟨gx, A, C, hAC, hgx, hAt, rfl⟩
      obtain ⟨o, ho⟩ : ∃ o, nxt (markS s) s.size f = o := ⟨_, rfl⟩
      have hon := hf.out.more hlt
      rw [ho] at hon
      have hn := hf.out.step ho hon
      have hsn := hn.spn
      rw [hAC.out] at hsn
      have hAe : A = o + 1 := by cases hsn; rfl
      have hCe : C = nxt (markS s) s.size (o + 1) := by cases hsn; rfl
      rw [← hCe] at hn
      have hn' := hid hn
      have q1 := hn.fo
      have q2 := hn.on
      have q3 := hn.oc
      have q4 := hn.cn
      obtain ⟨D, hD⟩ : ∃ D, Hid (C - o = D) := ⟨_, rfl⟩
      -- what is asked
      have k1 : Hid (cntIn (rowOf (markS s) s.size) s.size (f : Int) (o : Int) = 0) := cnt_none (fun i h1 h2 _ => hn.ahead i h1 h2)
      have k2 : Hid (cntIn (rowOf (inS s) s.size) s.size (f : Int) (o : Int) = 0) := cnt_none (fun i h1 h2 _ => hn.outside i h1 h2)
      have k3 : Hid (cntIn (rowOf (markS s) s.size) s.size (A : Int) (C : Int) = 0) := cnt_none (fun i h1 h2 _ => hn.within i (by omega) h2)
      have k4 : Hid (cntIn (rowOf (inS s) s.size) s.size (o : Int) (C : Int) = D) := by show _ = _; rw [← hD.out]; exact cnt_all (by omega) q4 (fun i h1 h2 => hn.inside i h1 h2)
      have k5 : Hid (getB (rowOf (inS s) s.size) s.size (C : Int) = false) := by
        show _ = _
        by_cases h : C < s.size
        · rw [getB_nat h, rowOf_bit, hn.last h]; simp
        · rw [getB_hi (by omega)]
      have k6 : Hid (getB (rowOf (markS s) s.size) s.size (o : Int) = true) := by show _ = _; rw [getB_nat q2, rowOf_bit, hn.mo, decide_eq_true q2]; rfl
      have k7 : Hid (C < s.size → getB (rowOf (markS s) s.size) s.size (C : Int) = true) := fun h => by rw [getB_nat h, rowOf_bit, hn.mc h, decide_eq_true h]; rfl
      have hoi : (o : Int) ≤ 140737488351232 := by omega
      have hCi : (C : Int) ≤ 140737488351232 := by omega
      have hAi : (A : Int) ≤ 140737488351233 := by omega
      have hfi : (f : Int) ≤ 140737488351233 := by omega
      have c1 := hid (fun (v : World) (h : SqC w s b1 b2 g1 g2 b5 gx f A C v) => cntI (G := markS s) (by omega) (f : Int) (o : Int) (by omega) (by omega) (by omega) (by omega) 0 k1 (some ⟨g1, 0, none⟩) (need s.size) v h.m.wds)
      have c2 := hid (fun (v : World) (h : SqC w s b1 b2 g1 g2 b5 gx f A C v) => cntI (G := inS s) (by omega) (f : Int) (o : Int) (by omega) (by omega) (by omega) (by omega) 0 k2 (some ⟨g2, 0, none⟩) (need s.size) v h.i.wds)
      have c3 := hid (fun (v : World) (h : SqC w s b1 b2 g1 g2 b5 gx f A C v) => cntI (G := markS s) (by omega) (A : Int) (C : Int) (by omega) (by omega) (by omega) (by omega) 0 k3 (some ⟨g1, 0, none⟩) (need s.size) v h.m.wds)
      have c4 := hid (fun (v : World) (h : SqC w s b1 b2 g1 g2 b5 gx f A C v) => cntI (G := inS s) (by omega) (o : Int) (C : Int) (by omega) (by omega) (by omega) (by omega) D k4 (some ⟨g2, 0, none⟩) (need s.size) v h.i.wds)
      have c5 := hid (fun (v : World) (h : SqC w s b1 b2 g1 g2 b5 gx f A C v) => getI (G := inS s) (by omega) (C : Int) (by omega) (by omega) false k5 (some ⟨g2, 0, none⟩) (need s.size) v h.i.wds)
      have c6 := hid (fun (v : World) (h : SqC w s b1 b2 g1 g2 b5 gx f A C v) => getI (G := markS s) (by omega) (o : Int) (by omega) (by omega) true k6 (some ⟨g1, 0, none⟩) (need s.size) v h.m.wds)
      have c7 := hid (fun (hCn : C < s.size) (v : World) (h : SqC w s b1 b2 g1 g2 b5 gx f A C v) => getI (G := markS s) (by omega) (C : Int) (by omega) (by omega) true (k7.out hCn) (some ⟨g1, 0, none⟩) (need s.size) v h.m.wds)
      have eo : (A : Int) - 1 = (o : Int) := by omega
      have hwO : IntKind.i64.wrap (o : Int) = (o : Int) := by rw [IntKind.wrap_i64]; omega
      obtain ⟨E, hE⟩ : ∃ E, Hid (C - A = E) := ⟨_, rfl⟩
      have eE : (C : Int) - (A : Int) = (E : Int) := by have := hE.out; omega
      have eE1 : (E : Int) + 1 = (D : Int) := by have := hE.out; have := hD.out; omega
      have hwE : IntKind.i64.wrap (E : Int) = (E : Int) := by rw [IntKind.wrap_i64]; have := hE.out; omega
      have hwD : IntKind.i64.wrap (D : Int) = (D : Int) := by rw [IntKind.wrap_i64]; have := hD.out; omega
      have eDi : (D : Int) ≤ 140737488351232 := by have := hD.out; omega
      have eD' : ((D : Int) != (D : Int)) = false := by simp
      have n1 : ¬ A = 0 := by omega
      have n1' : decide (A = 0) = false := by simp; omega
      have n1'' : decide ((A : Int) < 1) = false := by rw [decide_eq_false]; omega
      have n2 : decide (A ≤ f) = false := by simp; omega
      have n2' : decide ((A : Int) ≤ (f : Int)) = false := by rw [decide_eq_false]; omega
      have n3 : decide (C < A) = false := by simp; omega
      have n3' : decide ((C : Int) < (A : Int)) = false := by rw [decide_eq_false]; omega
      have n4 : decide (s.size < C) = false := by simp; omega
      have n4' : decide ((s.size : Int) < (C : Int)) = false := by rw [decide_eq_false]; omega
      have hQ := hid (show SqC w s b1 b2 g1 g2 b5 gx f A C W from ⟨hSq, hfA, hAt⟩)
      clear hE hsn hAC ho hCe hn k1 k2 k3 k4 k5 k6 k7 hD hSq hfA hAt hAe q1 q2 q3 q4 hon hlt
      obtain ⟨⟨z1, z2, z3, z4⟩, -⟩ := hQ.out.cells
      obtain ⟨z5, z6⟩ := hQ.out.m.facts
      gi_wp2_with fail
      refine ⟨trivial, ?_⟩
      refine (CallsIn.inRound l (callsIn_wide.2 (c6.out _ hQ.out))).mono ?_
      rintro e wy ⟨rfl, hby⟩
      have hQy := hid (hQ.out.kept hby)
      have hby' := hid hby
      clear c6 hby z1 z2 z3 z4 z5 z6 hQ
      obtain ⟨⟨z1, z2, z3, z4⟩, -⟩ := hQy.out.cells
      obtain ⟨z5, z6⟩ := hQy.out.m.facts
      by_cases hCn : C < s.size
      · have hCni : (C : Int) < (s.size : Int) := by omega
        have c7' := hid (c7.out hCn)
        clear c7
        gi_wp2_with fail
        refine ⟨trivial, ?_⟩
        refine (CallsIn.inRound l (callsIn_wide.2 (c7'.out _ hQy.out))).mono ?_
        rintro e wx ⟨rfl, hbx⟩
        have hPQ := hid (And.intro (hQy.out.kept hbx) (hby'.out.trans (hbx.mono hby'.out.size)))
        clear c7' hbx hby' z1 z2 z3 z4 z5 z6 hQy
        gi_wp2_with fail
        refine wpIn_region_quiet_round (C := (fun w' => (w'.cell? ⟨b5, 0, none⟩ = some (.int .i64 (f : Int)) ∧ w'.cell? ⟨gx, 0, none⟩ = some (.int .i64 (A : Int)) ∧ w'.cell? ⟨gx, 1, none⟩ = some (.int .i64 (C : Int)) ∧ w'.cell? ⟨w.heap.size, 0, none⟩ = some (.string s)) ∧ (SqC w s b1 b2 g1 g2 b5 gx f A C w' ∧ Below W.heap.size W w'))) (by kernel_rfl) (by kernel_rfl) (by kernel_rfl) (sqw_mk hPQ.out) ?_
        dsimp only
        repeat (first
          | (refine wpQuiet_skip (by rfl) ?_; simp only [Act.put, List.setIfInBounds_toArray, List.set_cons_zero, List.set_cons_succ])
          | (refine wpQuiet_load 25 _ (b1) (0) [.int .i64 (s.size : Int), .slice (some ⟨g1, 0, none⟩) (need s.size) (need s.size)] _ (fun wq hq => (SqC.m hq.2.1).range) Tryd.underlying25 sizeBits rfl rfl rfl (by rfl) ?_; simp only [Act.put, List.setIfInBounds_toArray, List.set_cons_zero, List.set_cons_succ])
          | (refine wpQuiet_load 25 _ (b2) (0) [.int .i64 (s.size : Int), .slice (some ⟨g2, 0, none⟩) (need s.size) (need s.size)] _ (fun wq hq => (SqC.i hq.2.1).range) Tryd.underlying25 sizeBits rfl rfl rfl (by rfl) ?_; simp only [Act.put, List.setIfInBounds_toArray, List.set_cons_zero, List.set_cons_succ])
          | (refine' wpQuiet_take (by rfl) ?_ ?_
             rotate_left
             · (intro wq hq; (try dsimp only at hq); go_simp
                first
                  | done
                  | with_reducible rfl
                  | (go_at_call 26; have hzz := c1.out _ hq.2.1; with_reducible refine hzz.mono ?_; clear hzz; rintro e wz ⟨rfl, hb⟩; exact ⟨rfl, sqw_kept hq hb⟩)
                  | (go_at_call 26; have hzz := c2.out _ hq.2.1; with_reducible refine hzz.mono ?_; clear hzz; rintro e wz ⟨rfl, hb⟩; exact ⟨rfl, sqw_kept hq hb⟩)
                  | (go_at_call 26; have hzz := c3.out _ hq.2.1; with_reducible refine hzz.mono ?_; clear hzz; rintro e wz ⟨rfl, hb⟩; exact ⟨rfl, sqw_kept hq hb⟩)
                  | (go_at_call 26; have hzz := c4.out _ hq.2.1; with_reducible refine hzz.mono ?_; clear hzz; rintro e wz ⟨rfl, hb⟩; exact ⟨rfl, sqw_kept hq hb⟩)
                  | (go_at_call 24; have hzz := c5.out _ hq.2.1; with_reducible refine hzz.mono ?_; clear hzz; rintro e wz ⟨rfl, hb⟩; exact ⟨rfl, sqw_kept hq hb⟩)
               )
             simp only [Act.put, List.setIfInBounds_toArray, List.set_cons_zero, List.set_cons_succ]))
        refine wpQuiet_nil ?_
        intro wz hz
        have hz' := hid hz
        clear hz c1 c2 c3 c4 c5
        rename_i Kz hKz
        refine hKz _ _ ?_
        clear hKz Kz
        obtain ⟨hzS, hz5a, -⟩ := hz'.out.2.1
        have c5 := hz5a.cell 0
        have f5 := hz5a.frozen 0
        simp only [List.getElem?_toArray, List.getElem?_cons_zero] at c5
        obtain ⟨-, x1, x2, -⟩ := hz'.out.1
        have hbz := hz'.out.2.2
        clear hz'
        gi_wp2
        refine ⟨((keeps_below hbz).trans (KeepsOthers.setCell _ _ _)).from _, (KeepT.of_below hbz).trans (KeepT.setCell (p := ⟨b5, 0, none⟩) (by show bs ≠ b5; omega) (by show bm ≠ b5; omega) (by show g ≠ b5; omega) (by show 0 < b5; omega) _), C + 1, hn'.out.next, hzS.other (p := ⟨b5, 0, none⟩) (by show b1 ≠ b5; omega) (by show b2 ≠ b5; omega) (by show g1 ≠ b5; omega) (by show g2 ≠ b5; omega) (by show w.heap.size + 2 ≤ b5; omega) _, ?_⟩
        exact hz5a.set 0 _
      · have hCni : ¬ (C : Int) < (s.size : Int) := by omega
        have hPQ := hid (And.intro hQy.out hby'.out)
        clear c7 hby'
        gi_wp2_with fail
        refine ⟨trivial, ?_⟩
        gi_wp2_with fail
        clear z1 z2 z3 z4 z5 z6 hQy
        refine wpIn_region_quiet_round (C := (fun w' => (w'.cell? ⟨b5, 0, none⟩ = some (.int .i64 (f : Int)) ∧ w'.cell? ⟨gx, 0, none⟩ = some (.int .i64 (A : Int)) ∧ w'.cell? ⟨gx, 1, none⟩ = some (.int .i64 (C : Int)) ∧ w'.cell? ⟨w.heap.size, 0, none⟩ = some (.string s)) ∧ (SqC w s b1 b2 g1 g2 b5 gx f A C w' ∧ Below W.heap.size W w'))) (by kernel_rfl) (by kernel_rfl) (by kernel_rfl) (sqw_mk hPQ.out) ?_
        dsimp only
        repeat (first
          | (refine wpQuiet_skip (by rfl) ?_; simp only [Act.put, List.setIfInBounds_toArray, List.set_cons_zero, List.set_cons_succ])
          | (refine wpQuiet_load 25 _ (b1) (0) [.int .i64 (s.size : Int), .slice (some ⟨g1, 0, none⟩) (need s.size) (need s.size)] _ (fun wq hq => (SqC.m hq.2.1).range) Tryd.underlying25 sizeBits rfl rfl rfl (by rfl) ?_; simp only [Act.put, List.setIfInBounds_toArray, List.set_cons_zero, List.set_cons_succ])
          | (refine wpQuiet_load 25 _ (b2) (0) [.int .i64 (s.size : Int), .slice (some ⟨g2, 0, none⟩) (need s.size) (need s.size)] _ (fun wq hq => (SqC.i hq.2.1).range) Tryd.underlying25 sizeBits rfl rfl rfl (by rfl) ?_; simp only [Act.put, List.setIfInBounds_toArray, List.set_cons_zero, List.set_cons_succ])
          | (refine' wpQuiet_take (by rfl) ?_ ?_
             rotate_left
             · (intro wq hq; (try dsimp only at hq); go_simp
                first
                  | done
                  | with_reducible rfl
                  | (go_at_call 26; have hzz := c1.out _ hq.2.1; with_reducible refine hzz.mono ?_; clear hzz; rintro e wz ⟨rfl, hb⟩; exact ⟨rfl, sqw_kept hq hb⟩)
                  | (go_at_call 26; have hzz := c2.out _ hq.2.1; with_reducible refine hzz.mono ?_; clear hzz; rintro e wz ⟨rfl, hb⟩; exact ⟨rfl, sqw_kept hq hb⟩)
                  | (go_at_call 26; have hzz := c3.out _ hq.2.1; with_reducible refine hzz.mono ?_; clear hzz; rintro e wz ⟨rfl, hb⟩; exact ⟨rfl, sqw_kept hq hb⟩)
                  | (go_at_call 26; have hzz := c4.out _ hq.2.1; with_reducible refine hzz.mono ?_; clear hzz; rintro e wz ⟨rfl, hb⟩; exact ⟨rfl, sqw_kept hq hb⟩)
                  | (go_at_call 24; have hzz := c5.out _ hq.2.1; with_reducible refine hzz.mono ?_; clear hzz; rintro e wz ⟨rfl, hb⟩; exact ⟨rfl, sqw_kept hq hb⟩)
               )
             simp only [Act.put, List.setIfInBounds_toArray, List.set_cons_zero, List.set_cons_succ]))
        refine wpQuiet_nil ?_
        intro wz hz
        have hz' := hid hz
        clear hz c1 c2 c3 c4 c5
        rename_i Kz hKz
        refine hKz _ _ ?_
        clear hKz Kz
        obtain ⟨hzS, hz5a, -⟩ := hz'.out.2.1
        have c5 := hz5a.cell 0
        have f5 := hz5a.frozen 0
        simp only [List.getElem?_toArray, List.getElem?_cons_zero] at c5
        obtain ⟨-, x1, x2, -⟩ := hz'.out.1
        have hbz := hz'.out.2.2
        clear hz'
        gi_wp2
        refine ⟨((keeps_below hbz).trans (KeepsOthers.setCell _ _ _)).from _, (KeepT.of_below hbz).trans (KeepT.setCell (p := ⟨b5, 0, none⟩) (by show bs ≠ b5; omega) (by show bm ≠ b5; omega) (by show g ≠ b5; omega) (by show 0 < b5; omega) _), C + 1, hn'.out.next, hzS.other (p := ⟨b5, 0, none⟩) (by show b1 ≠ b5; omega) (by show b2 ≠ b5; omega) (by show g1 ≠ b5; omega) (by show g2 ≠ b5; omega) (by show w.heap.size + 2 ≤ b5; omega) _, ?_⟩
        exact hz5a.set 0 _
    case done =>
      rintro D W hD ⟨f, hf, hSq, hfA⟩ hKD
      have hno : ¬ nxt (markS s) s.size f < s.size := fun h => by have := (hf.out.step rfl h).lt; omega
      obtain ⟨-, hz1, hz2⟩ := hf.out.end hno
      have hfl := hf.out.2.2.1
      have k1 : Hid (cntIn (rowOf (markS s) s.size) s.size (f : Int) (s.size : Int) = 0) := cnt_none (fun i h1 h2 _ => hz1 i h1 h2)
      have k2 : Hid (cntIn (rowOf (inS s) s.size) s.size (f : Int) (s.size : Int) = 0) := cnt_none (fun i h1 h2 _ => hz2 i h1 h2)
      have c1 := hid (fun (v : World) (h : SpB w s b1 b2 g1 g2 v) => cntI (G := markS s) (by omega) (f : Int) (s.size : Int) (by omega) (by omega) (by omega) (by omega) 0 k1 (some ⟨g1, 0, none⟩) (need s.size) v h.m.wds)
      have c2 := hid (fun (v : World) (h : SpB w s b1 b2 g1 g2 v) => cntI (G := inS s) (by omega) (f : Int) (s.size : Int) (by omega) (by omega) (by omega) (by omega) 0 k2 (some ⟨g2, 0, none⟩) (need s.size) v h.i.wds)
      have hzD : D < W.heap.size := (Array.getElem?_eq_some_iff.1 hKD).1
      have m0 := hSq.m.facts
      have m1 := hfA.cell 0
      have m2 := hSq.txt.cell 0
      simp only [List.getElem?_toArray, List.getElem?_cons_zero] at m1 m2
      obtain ⟨m3, m4⟩ := m0
      have hSq' := hid hSq
      have hfA' := hid hfA
      rename_i Kz hKz
      clear hSp0' hat0' hX' hnf k1 k2 hz1 hz2 hno hf hSq hfA
      refine hKz _ _ ?_
      clear hKz
      go_wp2_with fail
      refine Calls.mono (c1.out _ hSq'.out) ?_
      rintro e wa ⟨rfl, hba⟩
      have hSa := hSq'.out.kept hba
      have hfa := hfA'.out.keptAll hba
      have hKa := (hba.block D hzD).trans hKD
      obtain ⟨n3, n4⟩ := hSa.i.facts
      have n1 := hfa.cell 0
      have n2 := hSa.txt.cell 0
      simp only [List.getElem?_toArray, List.getElem?_cons_zero] at n1 n2
      have hSa' := hid hSa
      have hza : D < wa.heap.size := Nat.lt_of_lt_of_le hzD hba.size
      clear c1 hSa hfa hba m1 m2 m3 m4 hSq' hfA' hKD
      go_wp2_with fail
      refine Calls.mono (c2.out _ hSa'.out) ?_
      rintro e wb ⟨rfl, hbb⟩
      have hSb := hSa'.out.kept hbb
      have hKb := (hbb.block D hza).trans hKa
      have r1 := hSb.r
      have c5 := r1.cell 0
      have f5 := r1.frozen 0
      simp only [List.getElem?_toArray, List.getElem?_cons_zero] at c5
      have hB2 := hSb.b.setCell (p := ⟨w.heap.size + 1, 0, none⟩) (by show w.heap.size ≤ w.heap.size + 1; omega) (.bool true)
      have hK' : (wb.setCell ⟨w.heap.size + 1, 0, none⟩ (.bool true)).heap[D]? = some (.deferred (some [])) := (Below.heap_setCell wb ⟨w.heap.size + 1, 0, none⟩ _ D (by show D ≠ w.heap.size + 1; omega)).trans hKb
      clear c2 hSb hbb n1 n2 n3 n4 hSa' hKa
      go_wp2
      refine ⟨by simp, .inl ⟨_, _, rfl, run_takeDeferred hK', ?_⟩⟩
      have hc5 := cell_kept (World.cell?_setCell_same' wb ⟨w.heap.size + 1, 0, none⟩ (.bool true) (by rw [c5]; rfl)) (grownBy_putObj' _ D (.deferred none)) (fun r e => by cases e; exact ⟨_, hK', rfl⟩)
      refine ⟨.bool true, ?_, rfl, hB2.trans (belowK_b (w := w) (Nat.le_refl _) _ D _ _ (by omega) hK' rfl rfl)⟩
      simp [results, Tryd.f8, go_sem, hc5]
    case stop =>
      rintro D c pre W _ _ h _
      exact h.elim
theorem quotesSpans_walk (s : ByteArray) (hs : s.size ≤ reachBytes) (w : World) (hT : Tab w) (h0 : 0 < w.heap.size) :
    Calls Tryd.prog 8 #[.string s] w fun e w' => e = .returned (.bool true) ∧ Below w.heap.size w w' := callsIn_wide.1 (spans_in s hs w hT h0)
end Go.Proofs.YtmjmcdoanolelaaDoor
