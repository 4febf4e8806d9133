/-
  What quarryref04.Both answers.
-/
import Derived.Test.YtmbkcnhkbpaagaaDoorRefKit
import Derived.Deep.RegionHeld
namespace Go.Proofs.YtmbkcnhkbpaagaaDoor
open Go.RowKit

/-- The ways to put two bits together, by their numbers. -/
def HowB (how : Int) (ob : Bool → Bool → Bool) : Prop := (how = 0 ∧ ob = fun x y => x && y) ∨ (how = 1 ∧ ob = fun x y => x || y) ∨ (how = 2 ∧ ob = fun x y => x ^^ y) ∨ (how = 3 ∧ ob = fun x y => x && !y)

/-- What the two calls of Set find. -/
def BothS (w : World) (n m : Int) (ao bo : Option Addr) (k l cap cap' : Nat) (w' : World) : Prop :=
  (w'.cell? ⟨w.heap.size, 0, none⟩ = some (.int .i64 n) ∧ w'.cell? ⟨w.heap.size, 1, none⟩ = some (.slice ao k cap) ∧ w'.cell? ⟨w.heap.size + 1, 0, none⟩ = some (.int .i64 m) ∧ w'.cell? ⟨w.heap.size + 1, 1, none⟩ = some (.slice bo l cap')) ∧
  At w' w.heap.size #[.int .i64 n, .slice ao k cap] 24 ∧ At w' (w.heap.size + 1) #[.int .i64 m, .slice bo l cap'] 24 ∧ At w' (w.heap.size + 2) #[.int .i64 0, .slice none 0 0] 24 ∧ Below w.heap.size w w'
theorem bothS_mk {w : World} {n m : Int} {ao bo : Option Addr} {k l cap cap' : Nat} {w' : World} (h1 : At w' w.heap.size #[.int .i64 n, .slice ao k cap] 24) (h2 : At w' (w.heap.size + 1) #[.int .i64 m, .slice bo l cap'] 24) (h3 : At w' (w.heap.size + 2) #[.int .i64 0, .slice none 0 0] 24) (hb : Below w.heap.size w w') : BothS w n m ao bo k l cap cap' w' :=
  ⟨⟨h1.cell 0, h1.cell 1, h2.cell 0, h2.cell 1⟩, h1, h2, h3, hb⟩
theorem BothS.kept {w : World} {n m : Int} {ao bo : Option Addr} {k l cap cap' : Nat} {w1 w2 : World} (h : BothS w n m ao bo k l cap cap' w1) (hb : Below w1.heap.size w1 w2) : BothS w n m ao bo k l cap cap' w2 :=
  bothS_mk (h.2.1.keptAll hb) (h.2.2.1.keptAll hb) (h.2.2.2.1.keptAll hb) (h.2.2.2.2.trans (hb.mono h.2.2.2.2.size))

set_option maxRecDepth 10000 in
set_option maxHeartbeats 4000000 in
theorem refBoth_calls (how : Int) (ob : Bool → Bool → Bool) (hh : HowB how ob) (n m : Int) (ao bo : Option Addr) (k l cap cap' : Nat) (X Y : Nat → Nat) (E q : Int) (r : Nat) (hn : (Lit.int .i64 n).wf = true) (hm : (Lit.int .i64 m).wf = true) (hk : k ≤ 1048576) (hl : l ≤ 1048576)
    (hE : Hid (joinE n m k l X Y E q r)) (w : World) (hW : Wds w ao k X) (hV : Wds w bo l Y) :
    Calls Tryd.prog 9 #[.int .i64 how, bv n ao k cap, bv m bo l cap'] w fun e w' => RGives E q r (rowOf (fun i => ob (bitAt X i) (bitAt Y i)) n.toNat) w e w' := by
  obtain ⟨FA, hFA⟩ := formedB n k X
  obtain ⟨FB, hFB⟩ := formedB m l Y
  have hfa : Hid _ := fun (w1 : World) (hb : Below w.heap.size w w1) => refFormed_calls n ao k cap X FA hn (by omega) hFA w1 (hW.kept hb)
  have hfb : Hid _ := fun (w1 : World) (hb : Below w.heap.size w w1) => refFormed_calls m bo l cap' Y FB hm (by omega) hFB w1 (hV.kept hb)
  have hh' := hid hh
  clear hn hm hh
  go_enter Tryd.func9, Tryd.ntmps9
  have A0 : Hid (BothS w n m ao bo k l cap cap' (((w.alloc (.cells #[.int .i64 n, .slice ao k cap] 24)).alloc (.cells #[.int .i64 m, .slice bo l cap'] 24)).alloc (.cells #[.int .i64 0, .slice none 0 0] 24))) := by
    refine bothS_mk (((At.new w _ _).alloc _).alloc _) ?_ ?_ (by repeat (first | with_reducible exact Below.refl _ _ | with_reducible refine Below.setCell ?_ (by first | (simp; done) | (simp; omega)) _ | with_reducible refine below_drewN ?_ _ | with_reducible refine Below.alloc ?_ (by first | (simp; done) | (simp; omega)) _ | with_reducible refine Below.drew ?_))
    · have := (At.new (w.alloc (.cells #[.int .i64 n, .slice ao k cap] 24)) #[.int .i64 m, .slice bo l cap'] 24).alloc (.cells #[.int .i64 0, .slice none 0 0] 24)
      simpa using this
    · have := At.new ((w.alloc (.cells #[.int .i64 n, .slice ao k cap] 24)).alloc (.cells #[.int .i64 m, .slice bo l cap'] 24)) #[.int .i64 0, .slice none 0 0] 24
      simpa using this
  go_wp2_with fail
  refine Calls.mono (hfa.out _ A0.out.2.2.2.2) ?_
  rintro e w1 ⟨rfl, hb1⟩
  have A1 := hid (A0.out.kept hb1)
  clear A0 hb1 hfa
  obtain ⟨⟨a10, a11, a20, a21⟩, -, -, h3, hB1⟩ := A1.out
  obtain ⟨a30, a31, f30, f31⟩ := h3.facts
  clear h3
  cases FA
  · obtain ⟨-, rfl, rfl, rfl⟩ : ¬ (formed n k X ∧ formed m l Y) ∧ E = 1 ∧ q = 0 ∧ r = 0 := by
      rcases hE.out with h | ⟨h, _⟩ | ⟨h, _⟩
      · exact h
      · have h' := hFA.out.1 h.1; cases h'
      · have h' := hFA.out.1 h.1; cases h'
    clear hE hFA hFB hW hV hfb
    go_wp2
    exact ret_bits2 rfl rfl A1.out.2.2.2.1.two rfl ⟨(hB1.setCell (p := ⟨w.heap.size + 2, 0, none⟩) (by show w.heap.size ≤ w.heap.size + 2; omega) _).setCell (p := ⟨w.heap.size + 2, 1, none⟩) (by show w.heap.size ≤ w.heap.size + 2; omega) _, none, 0, wdf_none _ _ _ _, rfl⟩
  · go_wp2_with fail
    refine Calls.mono (hfb.out _ hB1) ?_
    rintro e w2 ⟨rfl, hb2⟩
    have A2 := hid (A1.out.kept hb2)
    clear a10 a11 a20 a21 a30 a31 f30 f31 hb2 hfb A1 hB1
    obtain ⟨⟨a10, a11, a20, a21⟩, -, -, h3, hB2⟩ := A2.out
    obtain ⟨a30, a31, f30, f31⟩ := h3.facts
    clear h3
    cases FB
    · obtain ⟨-, rfl, rfl, rfl⟩ : ¬ (formed n k X ∧ formed m l Y) ∧ E = 1 ∧ q = 0 ∧ r = 0 := by
        rcases hE.out with h | ⟨h, _⟩ | ⟨h, _⟩
        · exact h
        · have h' := hFB.out.1 h.2; cases h'
        · have h' := hFB.out.1 h.2; cases h'
      clear hE hFA hFB hW hV
      go_wp2
      exact ret_bits2 rfl rfl A2.out.2.2.2.1.two rfl ⟨(hB2.setCell (p := ⟨w.heap.size + 2, 0, none⟩) (by show w.heap.size ≤ w.heap.size + 2; omega) _).setCell (p := ⟨w.heap.size + 2, 1, none⟩) (by show w.heap.size ≤ w.heap.size + 2; omega) _, none, 0, wdf_none _ _ _ _, rfl⟩
    · have hform : formed n k X ∧ formed m l Y := ⟨hFA.out.2 (by first | rfl | trivial), hFB.out.2 (by first | rfl | trivial)⟩
      clear hFA hFB
      by_cases hnm : n = m
      · obtain ⟨rfl, rfl, rfl⟩ : E = 0 ∧ q = n ∧ r = k := by
          rcases hE.out with ⟨h, _⟩ | ⟨_, h, _⟩ | ⟨_, _, h⟩
          · exact (h hform).elim
          · exact (h hnm).elim
          · exact h
        subst hnm
        obtain rfl : r = l := by rw [hform.1.2.1, hform.2.2.1]
        obtain ⟨N, rfl⟩ := Int.eq_ofNat_of_zero_le hform.1.1
        have hNk : N ≤ 64 * r ∧ 64 * r ≤ N + 63 := by have := hform.1.2.1; simp at this; unfold need at this; omega
        have hneed : Hid (need N = r) := by have := hform.1.2.1; simp at this; exact this.symm
        have hsa : Hid _ := fun (w1 : World) (hb : Below w.heap.size w w1) => refSet_calls N ao r cap X hk hNk.1 w1 (hW.kept hb)
        have hsb : Hid _ := fun (w1 : World) (hb : Below w.heap.size w w1) => refSet_calls N bo r cap' Y hk hNk.1 w1 (hV.kept hb)
        have e1 : ((N : Int) != (N : Int)) = false := by simp
        clear hE hform hW hV a30 a31 f30 f31
        go_wp2
        clear a10 a11 a20 a21
        refine wp_region_held_drew (S := fun w' => BothS w N N ao bo r r cap cap' w') (by kernel_rfl) (A2.out.kept (w2 := w2.drew) (by repeat (first | with_reducible exact Below.refl _ _ | with_reducible refine Below.setCell ?_ (by first | (simp; done) | (simp; omega)) _ | with_reducible refine below_drewN ?_ _ | with_reducible refine Below.alloc ?_ (by first | (simp; done) | (simp; omega)) _ | with_reducible refine Below.drew ?_))) (fun hH => ?_)
        clear A2 hB2
        simp only [BothS]
        (refine' wpAnyH_take (i := 0) rfl (by kernel_rfl) (by kernel_rfl) (by kernel_rfl) (fun _ _ _ h => h) (Or.inl ⟨by rfl, ?_⟩) (by assumption) ?_; rotate_left; (· (intro wq hq; (try dsimp only at hq); go_simp; first | done | with_reducible rfl)); simp only [Act.put, List.getElem_toArray, List.getElem_cons_zero, List.setIfInBounds_toArray, List.set_cons_zero, List.set_cons_succ])
        (refine' wpAnyH_take (i := 2) rfl (by kernel_rfl) (by kernel_rfl) (by kernel_rfl) (fun _ _ _ h => h) (Or.inl ⟨by rfl, ?_⟩) (by assumption) ?_; rotate_left; (· (intro wq hq; (try dsimp only at hq); go_simp; first | done | with_reducible rfl)); simp only [Act.put, List.getElem_toArray, List.getElem_cons_zero, List.getElem_cons_succ, List.setIfInBounds_toArray, List.set_cons_zero, List.set_cons_succ])
        refine wpAnyH_ready (rs := [1]) (by kernel_rfl) (by simp) ?_
        refine AllReadyH.cons rfl (fun K hK => ?_) ?_
        · go_simp
          (go_at_call 38; refine Calls.mono (hsa.out _ hH.2.2.2.2) ?_; rintro e w3 ⟨v1, rfl, hown1, hb3⟩; (try dsimp only))
          obtain ⟨vo1, vc1, rfl, hbo1⟩ := boolsAt_of_row hown1
          refine hK.out _ _ (hH.kept hb3) (fun hH3 => ?_)
          have hlt1 : Hid (0 < N → ∀ g, vo1 = some ⟨g, 0, none⟩ → g < w3.heap.size) := fun hN g hg => by
            obtain ⟨g', cur, h1, h2, h3, h4⟩ := hbo1.got hN
            rw [hg] at h1; cases h1; exact h3.lt
          have hsz3 : w.heap.size + 3 ≤ w2.heap.size := hH.2.2.2.1.lt
          have hbo1' := hid hbo1
          clear hK hb3 hown1 hbo1 hsa hH
          refine wpAnyH_ready (rs := [3]) (by kernel_rfl) (by simp) ?_
          refine AllReadyH.cons rfl (fun K hK => ?_) ?_
          · go_simp
            (go_at_call 38; refine Calls.mono (hsb.out _ hH3.2.2.2.2) ?_; rintro e w4 ⟨v2, rfl, hown2, hb4⟩; (try dsimp only))
            obtain ⟨vo2, vc2, rfl, hbo2⟩ := boolsAt_of_row hown2
            refine hK.out _ _ (BothS.kept hH3 hb4) (fun hH4 => ?_)
            have hbo3 := hid (hbo1'.out.kept hb4)
            have hbo2' := hid hbo2
            clear hK hb4 hown2 hsb hH3 hbo2 hbo1'
            (refine' wpAnyH_take (i := 4) rfl (by kernel_rfl) (by kernel_rfl) (by kernel_rfl) (fun _ _ _ h => h) (Or.inl ⟨by rfl, ?_⟩) (by assumption) ?_; rotate_left; (· (intro wq hq; (try dsimp only at hq); go_simp; first | done | with_reducible rfl)); simp only [Act.put, List.getElem_toArray, List.getElem_cons_zero, List.getElem_cons_succ, List.setIfInBounds_toArray, List.set_cons_zero, List.set_cons_succ])
            (refine' wpAnyH_take (i := 5) rfl (by kernel_rfl) (by kernel_rfl) (by kernel_rfl) (fun _ _ _ h => h) (Or.inl ⟨by rfl, ?_⟩) (by assumption) ?_; rotate_left; (· (intro wq hq; (try dsimp only at hq); go_simp; first | done | with_reducible rfl)); simp only [Act.put, List.getElem_toArray, List.getElem_cons_zero, List.getElem_cons_succ, List.setIfInBounds_toArray, List.set_cons_zero, List.set_cons_succ])
            refine wpAnyH_done (by kernel_rfl) ?_ _
            have b4 := hid hH4.2.2.2.1
            have hB4 := hH4.2.2.2.2
            clear hH4
            go_wp2
            go_loopw [10] (fun ii wr => ∃ i : Nat, i ≤ N ∧ ii = .int .i64 (i : Int) ∧ BoolsAt w2.heap.size wr vo1 N (fun j => if j < i then ob (bitAt X j) (bitAt Y j) else bitAt X j) ∧ BoolsAt w3.heap.size wr vo2 N (bitAt Y) ∧ At wr (w.heap.size + 2) #[.int .i64 0, .slice none 0 0] 24 ∧ Below w.heap.size w wr) (fun ii _ => N - (intOf ii).toNat)
            case atStart => exact ⟨0, Nat.zero_le _, rfl, hbo3.out.congr (fun i _ => by rw [if_neg (by omega)]), hbo2'.out, b4.out, hB4⟩
            case round =>
              obtain ⟨i, hi, rfl, hbi, hbj, bi, hbl⟩ := hrel
              have bi' := hid bi
              have hbi' := hid hbi
              have hbj' := hid hbj
              clear bi hbi hbj hbo3 hbo2' b4
              by_cases hlt : i < N
              · obtain ⟨g, cur, rfl, hg, hat, hcur⟩ := hbi'.out.got hlt
                obtain ⟨g2, cur2, rfl, hg2, hat2, hcur2⟩ := hbj'.out.got hlt
                have hgg : g ≠ g2 := by have := hlt1.out (by omega) g rfl; omega
                rw [if_neg (by omega)] at hcur
                obtain ⟨t, ht⟩ : ∃ t, Hid (bitAt X i = t) := ⟨_, rfl⟩
                obtain ⟨u, hu⟩ : ∃ u, Hid (bitAt Y i = u) := ⟨_, rfl⟩
                have d1 := hat.cell i
                rw [hcur, ht.out] at d1
                have d2 := hat2.cell i
                rw [hcur2, hu.out] at d2
                have f1 := hat.frozen i
                have hnew : ∀ q, Hid (ob t u = q) → BoolsAt w2.heap.size (wr.setCell ⟨g, i, none⟩ (.bool q)) (some ⟨g, 0, none⟩) N (fun j => if j < i + 1 then ob (bitAt X j) (bitAt Y j) else bitAt X j) := fun q hq => by
                  refine (hbi'.out.set i q).congr (fun j _ => ?_)
                  by_cases hji : j = i
                  · subst hji; rw [if_pos rfl, if_pos (by omega), ht.out, hu.out]; exact hq.out.symm
                  · by_cases hl : j < i
                    · rw [if_neg hji, if_pos hl, if_pos (by omega)]
                    · rw [if_neg hji, if_neg hl, if_neg (by omega)]
                have hnew' := hid hnew
                have hoth : ∀ q, BoolsAt w3.heap.size (wr.setCell ⟨g, i, none⟩ (.bool q)) (some ⟨g2, 0, none⟩) N (bitAt Y) := fun q => hbj'.out.other (p := ⟨g, i, none⟩) (fun g' h => by cases h; exact fun e => hgg e.symm) _
                have hoth' := hid hoth
                clear hcur hat hcur2 hat2 hbi' hbj' hnew hoth ht hu
                rcases hh'.out with ⟨rfl, rfl⟩ | ⟨rfl, rfl⟩ | ⟨rfl, rfl⟩ | ⟨rfl, rfl⟩
                all_goals
                  clear hh'
                  cases t <;> cases u
                  all_goals
                    go_wp2
                    try go_region
                    all_goals (try go_wp2)
                    all_goals
                      go_roundw
                      all_goals first
                        | (simp [intOf]; omega; done)
                        | (refine ⟨i + 1, by omega, by simp, hnew'.out _ rfl, hoth'.out _, bi'.out.other (p := ⟨g, i, none⟩) (by show w.heap.size + 2 ≠ g; omega) _, ?_⟩
                           first
                             | exact hbl.setCell (p := ⟨g, i, none⟩) (by show w.heap.size ≤ g; omega) _
                             | exact (Below.drew hbl).setCell (p := ⟨g, i, none⟩) (by show w.heap.size ≤ g; omega) _)
              · obtain rfl : i = N := by omega
                have hbf := hid (hbi'.out.congr (G' := fun j => ob (bitAt X j) (bitAt Y j)) (fun j hj => by rw [if_pos hj]))
                have hoc : Hid _ := of_calls vo1 i vc1 (fun j => ob (bitAt X j) (bitAt Y j)) (by omega) wr hbf.out.bls
                rw [hneed.out] at hoc
                have hsz := hbl.size
                have bs := bi'.out.lt
                clear hbf hbi' hbj'
                go_wp2_with fail
                refine Calls.mono hoc.out ?_
                rintro e w5 ⟨v, rfl, hown, hb5⟩
                obtain ⟨so, c5, rfl, hw5⟩ := wds_of_row hown (fun j _ => rowOf_lt _ _ _)
                have b5 := bi'.out.keptAll hb5
                obtain ⟨d0, d1, f0, f1⟩ := b5.facts
                have hB5 : Below w.heap.size w w5 := hbl.trans (hb5.mono hsz)
                have b5' := hid b5
                have hw5' := hid (row_other (row_other hown (p := ⟨w.heap.size + 2, 0, none⟩) (by show w.heap.size + 2 < wr.heap.size; omega) (.int .i64 (i : Int))) (p := ⟨w.heap.size + 2, 1, none⟩) (by show w.heap.size + 2 < wr.heap.size; omega) (.slice so r c5))
                clear hoc hown b5 bi' hb5 hw5
                go_wp2
                refine ret_bits2 rfl rfl b5'.out.two rfl ⟨(hB5.setCell (p := ⟨w.heap.size + 2, 0, none⟩) (by show w.heap.size ≤ w.heap.size + 2; omega) _).setCell (p := ⟨w.heap.size + 2, 1, none⟩) (by show w.heap.size ≤ w.heap.size + 2; omega) _, so, c5, ?_, rfl⟩
                obtain ⟨so', c5', he, hw6⟩ := wdf_of_row hw5'.out (fun j _ => rowOf_lt _ _ _)
                cases he
                rw [Int.toNat_natCast]
                exact hw6.mono hsz
          · exact AllReadyH.nil
        · exact AllReadyH.nil
      · obtain ⟨rfl, rfl, rfl⟩ : E = 2 ∧ q = 0 ∧ r = 0 := by
          rcases hE.out with ⟨h, _⟩ | ⟨_, _, h⟩ | ⟨_, h, _⟩
          · exact (h hform).elim
          · exact h
          · exact (hnm h).elim
        have e1 : (n != m) = true := by simpa using hnm
        clear hE hform hW hV hnm
        go_wp2
        exact ret_bits2 rfl rfl A2.out.2.2.2.1.two rfl ⟨(hB2.setCell (p := ⟨w.heap.size + 2, 0, none⟩) (by show w.heap.size ≤ w.heap.size + 2; omega) _).setCell (p := ⟨w.heap.size + 2, 1, none⟩) (by show w.heap.size ≤ w.heap.size + 2; omega) _, none, 0, wdf_none _ _ _ _, rfl⟩
end Go.Proofs.YtmbkcnhkbpaagaaDoor
