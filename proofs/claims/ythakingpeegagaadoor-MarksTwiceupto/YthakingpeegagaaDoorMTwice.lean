/-
  The walk of quarrylaw08.MarksTwice.
-/
import Derived.Test.YthakingpeegagaaDoorTwcC
namespace Go.Proofs.YthakingpeegagaaDoor
open Go.RowKit Go.Shelf

attribute [local go_sem] Oper.semAt_some

set_option maxRecDepth 100000 in
set_option maxHeartbeats 8000000 in
theorem mtwice_in (s : ByteArray) (hs : s.size ≤ 1048576) (w : World) (hT : Tab w) (hM : TabM w) (hw1 : 1 < w.heap.size) :
    CallsIn Fence.wide 3 Tryd.prog 4 #[.string s] w fun e w' => e = .returned (.bool true) ∧ Below w.heap.size w w' := by
  have hnf : ∀ (f : Fn) (a b : Array Value) (w : World), Sem.run Tryd.prog (binOp BinOp.eql 31 (.func f a b) .nilFunc) w = .ok (.bool false) w := fun _ _ _ _ => by rfl
  have hT' := hid hT
  have hw0 : 0 < w.heap.size := by omega
  have hTb := hid (fun (W : World) (hb : Below w.heap.size w W) => hT.below hb (by omega))
  have hMb := hid (fun (W : World) (hb : Below w.heap.size w W) => hM.below hb hw1)
  have hz := hid (fun (W : World) (hb : Below w.heap.size w W) => (show 1 < W.heap.size by have := hb.size; omega))
  have haw := hid (fun (W : World) (hb : Below w.heap.size w W) => awake8_calls W (hT.below hb (by omega)) (hM.below hb hw1) (by have := hb.size; omega))
  obtain ⟨k, hk⟩ : ∃ k, Hid (need s.size = k) := ⟨_, rfl⟩
  clear hT hM
  refine callsIn_of_wp_marks Tryd.func4 rfl trivial ?_ rfl
  simp only [Tryd.ntmps4, List.size_toArray, List.length_cons, List.length_nil, Nat.reduceAdd, Nat.reduceSub, Array.replicate_succ, Array.replicate_zero, List.push_toArray, List.append_toArray, List.nil_append, List.cons_append]
  refine wpIn_wide.2 ?_
  go_wp2_with fail
  have hA0 : At ((w.alloc (.cells #[.string s] 9)).alloc (.cells #[.bool false] 4)) w.heap.size #[.string s] 9 := (At.new w _ _).alloc _
  have hA1 : At ((w.alloc (.cells #[.string s] 9)).alloc (.cells #[.bool false] 4)) (w.heap.size + 1) #[.bool false] 4 := by
    have := At.new (w.alloc (.cells #[.string s] 9)) #[.bool false] 4
    simpa using this
  have hB0 : Below w.heap.size w ((w.alloc (.cells #[.string s] 9)).alloc (.cells #[.bool false] 4)) := by repeat (first | with_reducible exact Below.refl _ _ | with_reducible refine Below.setCell ?_ (by first | (simp; done) | (simp; omega)) _ | with_reducible refine below_drewN ?_ _ | with_reducible refine Below.alloc ?_ (by first | (simp; done) | (simp; omega)) _ | with_reducible refine Below.drew ?_)
  have hz0 : ((w.alloc (.cells #[.string s] 9)).alloc (.cells #[.bool false] 4)).heap.size = w.heap.size + 2 := by simp
  refine Calls.mono (haw.out _ hB0) ?_
  rintro e w1 ⟨rfl, hb1⟩
  have hA0' := hid (hA0.keptAll hb1)
  have hA1' := hid (hA1.keptAll hb1)
  have hB1 := hid (hB0.trans (hb1.mono hB0.size))
  have hz1 : w.heap.size + 2 ≤ w1.heap.size := by have := hb1.size; omega
  clear hA0 hA1 hB0 hz0 hb1 haw
  go_wp2_with fail
  go_cut [3, 4] from 15 to 18 (fun p3 p4 wx => ∃ b1 b2 g1 g2, p3 = .pointer (some ⟨b1, 0, none⟩) ∧ p4 = .pointer (some ⟨b2, 0, none⟩) ∧ SpB w s b1 b2 g1 g2 wx)
  case first => as_aux_lemma =>
    rename_i Jm Km hJm hKm
    have hmk := hid (fun (u : World) (hb : Below w.heap.size w u) => marksQ_calls s (by omega) u (hT'.out.below hb hw0) (Nat.lt_of_lt_of_le hw0 hb.size))
    have hin := hid (fun (u : World) (hb : Below w.heap.size w u) => insideQ_calls s (by omega) u (hT'.out.below hb hw0) (Nat.lt_of_lt_of_le hw0 hb.size))
    rw [hk.out] at hmk hin
    obtain ⟨W0, hW0⟩ : ∃ W0, w1.drew = W0 := ⟨_, rfl⟩
    have hB0 : Below w.heap.size w W0 := by rw [← hW0]; exact hB1.out.drew
    have hS0 : At W0 w.heap.size #[.string s] 9 ∧ At W0 (w.heap.size + 1) #[.bool false] 4 := by rw [← hW0]; exact ⟨hA0'.out.drew, hA1'.out.drew⟩
    have hz0 : w1.heap.size ≤ W0.heap.size := by rw [← hW0]; exact Nat.le_refl _
    have hke := hk.out
    refine wp_region_held_only (S := fun W' => At W' w.heap.size #[.string s] 9 ∧ At W' (w.heap.size + 1) #[.bool false] 4) (by kernel_rfl) (by rw [hW0]; exact hS0) (fun hHeld => ?_)
    rw [hW0]
    clear hW0 hHeld
    (refine' wpAnyH_take (i := 0) (v := .string s) rfl (by kernel_rfl) (by kernel_rfl) (by kernel_rfl) (fun _ _ _ h => h) (Or.inl ⟨by rfl, ?_⟩) hS0 ?_; (· (intro wq hq; have c0 := hq.1.cell 0; simp only [List.getElem?_toArray, List.getElem?_cons_zero] at c0; go_simp; first | done | with_reducible rfl)); simp only [Act.put, List.getElem_toArray, List.getElem_cons_zero, List.setIfInBounds_toArray, List.set_cons_zero, List.set_cons_succ])
    (refine' wpAnyH_take (i := 2) (v := .string s) rfl (by kernel_rfl) (by kernel_rfl) (by kernel_rfl) (fun _ _ _ h => h) (Or.inl ⟨by rfl, ?_⟩) hS0 ?_; (· (intro wq hq; have c0 := hq.1.cell 0; simp only [List.getElem?_toArray, List.getElem?_cons_zero] at c0; go_simp; first | done | with_reducible rfl)); simp only [Act.put, List.getElem_toArray, List.getElem_cons_zero, List.getElem_cons_succ, List.setIfInBounds_toArray, List.set_cons_zero, List.set_cons_succ])
    refine wpAnyH_ready (rs := [1, 4, 5]) (by kernel_rfl) (by simp) ?_
    refine AllReadyH.cons rfl (fun K hK => ?_) ?_
    · rw [if_pos (by rfl)]
      go_simp
      refine (hmk.out _ hB0).mono ?_
      rintro e v1 ⟨p1, hlo1, rfl, hA1, hb1⟩
      have xs1 := keptQ hS0 hb1
      have xB1 := Below.trans hB0 (hb1.mono (Below.size hB0))
      have xz1 : w1.heap.size ≤ v1.heap.size := Nat.le_trans hz0 hb1.size
      have xl1 : w1.heap.size ≤ p1 := Nat.le_trans hz0 hlo1
      refine hK.out _ _ xs1 (fun hH1 => ?_)
      clear hK K
      refine wpAnyH_ready (rs := [3, 4, 5]) (by kernel_rfl) (by simp) ?_
      refine AllReadyH.cons rfl (fun K hK => ?_) ?_
      · rw [if_pos (by rfl)]
        go_simp
        refine (hin.out _ xB1).mono ?_
        rintro e v2 ⟨p2, hlo2, rfl, hA2, hb2⟩
        have xs2 := keptQ xs1 hb2
        have xB2 := Below.trans xB1 (hb2.mono (Below.size xB1))
        have xz2 : w1.heap.size ≤ v2.heap.size := Nat.le_trans xz1 hb2.size
        have xl2 : w1.heap.size ≤ p2 := Nat.le_trans xz1 hlo2
        have xm2 := At.keptAll hA1 hb2
        refine hK.out _ _ xs2 (fun hH2 => ?_)
        clear hK K
        refine wpAnyH_ready (rs := [4, 5]) (by kernel_rfl) (by simp) ?_
        refine AllReadyH.cons rfl (fun K hK => ?_) ?_
        · go_simp
          obtain ⟨v3, hv3⟩ : ∃ v, v2.alloc (.cells #[.int .i64 0, .slice none 0 0] 25) = v := ⟨_, rfl⟩
          have hb3 : Below v2.heap.size v2 v3 := by rw [← hv3]; exact (Below.refl _ _).alloc (Nat.le_refl _) _
          have hA3 : At v3 v2.heap.size #[.int .i64 0, .slice none 0 0] 25 := by rw [← hv3]; exact At.new v2 _ _
          rw [hv3]
          obtain ⟨p3, hp3⟩ : ∃ p, v2.heap.size = p := ⟨_, rfl⟩
          rw [hp3] at hA3 ⊢
          have hlo3 : v2.heap.size ≤ p3 := by omega
          clear hv3
          have xs3 := keptQ xs2 hb3
          have xB3 := Below.trans xB2 (hb3.mono (Below.size xB2))
          have xz3 : w1.heap.size ≤ v3.heap.size := Nat.le_trans xz2 hb3.size
          have xl3 : w1.heap.size ≤ p3 := Nat.le_trans xz2 hlo3
          have xm3 := At.keptAll xm2 hb3
          have xi3 := At.keptAll hA2 hb3
          refine hK.out _ _ xs3 (fun hH3 => ?_)
          clear hK K
          refine wpAnyH_ready (rs := [5]) (by kernel_rfl) (by simp) ?_
          refine AllReadyH.cons rfl (fun K hK => ?_) ?_
          · go_simp
            obtain ⟨v4, hv4⟩ : ∃ v, v3.alloc (.cells #[.int .i64 0, .slice none 0 0] 25) = v := ⟨_, rfl⟩
            have hb4 : Below v3.heap.size v3 v4 := by rw [← hv4]; exact (Below.refl _ _).alloc (Nat.le_refl _) _
            have hA4 : At v4 v3.heap.size #[.int .i64 0, .slice none 0 0] 25 := by rw [← hv4]; exact At.new v3 _ _
            rw [hv4]
            have dd := hA3.lt
            obtain ⟨p4, hp4⟩ : ∃ p, v3.heap.size = p := ⟨_, rfl⟩
            rw [hp4] at hA4 ⊢
            have hlo4 : v3.heap.size ≤ p4 := by omega
            rw [hp4] at dd
            clear hv4
            have xs4 := keptQ xs3 hb4
            have xB4 := Below.trans xB3 (hb4.mono (Below.size xB3))
            have xz4 : w1.heap.size ≤ v4.heap.size := Nat.le_trans xz3 hb4.size
            have xl4 : w1.heap.size ≤ p4 := Nat.le_trans xz3 hlo4
            have xm4 := At.keptAll xm3 hb4
            have xi4 := At.keptAll xi3 hb4
            have x44 := At.keptAll hA3 hb4
            refine hK.out _ _ xs4 (fun hH4 => ?_)
            clear hK K
            have y4 := x44
            have y5 := hA4
            have fin := hid (spB_fin (w := w) hke xm4 xi4 y4 y5 (by omega) (Nat.le_trans hz1 xl3) (Nat.le_trans hz1 xl4) (Nat.le_trans hz1 xl1) (Nat.le_trans hz1 xl2) xs4.1 xs4.2 xB4)
            obtain ⟨c40, c41, f40, f41⟩ := y4.facts
            obtain ⟨c50, c51, f50, f51⟩ := y5.facts
            have e1 := (y5.other (p := ⟨p3, 0, none⟩) (by show p4 ≠ p3; omega) (.int .i64 (s.size : Int))).other (p := ⟨p3, 1, none⟩) (by show p4 ≠ p3; omega) (.slice (some ⟨p1, 0, none⟩) k k)
            obtain ⟨e50, e51, g50, g51⟩ := e1.facts
            refine wpAnyH_ready (rs := [6]) (by kernel_rfl) (by simp) ?_
            refine AllReadyH.cons rfl (fun K hK => ?_) ?_
            · go_simp
              refine hK.out _ _ fin.out.1 (fun _ => ?_)
              clear hK K
              refine wpAnyH_ready (rs := [7]) (by kernel_rfl) (by simp) ?_
              refine AllReadyH.cons rfl (fun K hK => ?_) ?_
              · go_simp
                refine hK.out _ _ fin.out.2.1 (fun _ => ?_)
                clear hK K
                refine wpAnyH_done (by kernel_rfl) ?_ _
                refine hKm _ _ ?_
                refine hJm _ _ ?_
                exact ⟨_, _, _, _, _, _, ⟨_, _, _, _, rfl, rfl, fin.out.2.2⟩, rfl⟩
              exact AllReadyH.nil
            exact AllReadyH.nil
          exact AllReadyH.nil
        refine AllReadyH.cons rfl (fun K hK => ?_) ?_
        · go_simp
          obtain ⟨v5, hv5⟩ : ∃ v, v2.alloc (.cells #[.int .i64 0, .slice none 0 0] 25) = v := ⟨_, rfl⟩
          have hb5 : Below v2.heap.size v2 v5 := by rw [← hv5]; exact (Below.refl _ _).alloc (Nat.le_refl _) _
          have hA5 : At v5 v2.heap.size #[.int .i64 0, .slice none 0 0] 25 := by rw [← hv5]; exact At.new v2 _ _
          rw [hv5]
          obtain ⟨p5, hp5⟩ : ∃ p, v2.heap.size = p := ⟨_, rfl⟩
          rw [hp5] at hA5 ⊢
          have hlo5 : v2.heap.size ≤ p5 := by omega
          clear hv5
          have xs5 := keptQ xs2 hb5
          have xB5 := Below.trans xB2 (hb5.mono (Below.size xB2))
          have xz5 : w1.heap.size ≤ v5.heap.size := Nat.le_trans xz2 hb5.size
          have xl5 : w1.heap.size ≤ p5 := Nat.le_trans xz2 hlo5
          have xm5 := At.keptAll xm2 hb5
          have xi5 := At.keptAll hA2 hb5
          refine hK.out _ _ xs5 (fun hH5 => ?_)
          clear hK K
          refine wpAnyH_ready (rs := [4]) (by kernel_rfl) (by simp) ?_
          refine AllReadyH.cons rfl (fun K hK => ?_) ?_
          · go_simp
            obtain ⟨v6, hv6⟩ : ∃ v, v5.alloc (.cells #[.int .i64 0, .slice none 0 0] 25) = v := ⟨_, rfl⟩
            have hb6 : Below v5.heap.size v5 v6 := by rw [← hv6]; exact (Below.refl _ _).alloc (Nat.le_refl _) _
            have hA6 : At v6 v5.heap.size #[.int .i64 0, .slice none 0 0] 25 := by rw [← hv6]; exact At.new v5 _ _
            rw [hv6]
            have dd := hA5.lt
            obtain ⟨p6, hp6⟩ : ∃ p, v5.heap.size = p := ⟨_, rfl⟩
            rw [hp6] at hA6 ⊢
            have hlo6 : v5.heap.size ≤ p6 := by omega
            rw [hp6] at dd
            clear hv6
            have xs6 := keptQ xs5 hb6
            have xB6 := Below.trans xB5 (hb6.mono (Below.size xB5))
            have xz6 : w1.heap.size ≤ v6.heap.size := Nat.le_trans xz5 hb6.size
            have xl6 : w1.heap.size ≤ p6 := Nat.le_trans xz5 hlo6
            have xm6 := At.keptAll xm5 hb6
            have xi6 := At.keptAll xi5 hb6
            have x56 := At.keptAll hA5 hb6
            refine hK.out _ _ xs6 (fun hH6 => ?_)
            clear hK K
            have y4 := hA6
            have y5 := x56
            have fin := hid (spB_fin (w := w) hke xm6 xi6 y4 y5 (by omega) (Nat.le_trans hz1 xl6) (Nat.le_trans hz1 xl5) (Nat.le_trans hz1 xl1) (Nat.le_trans hz1 xl2) xs6.1 xs6.2 xB6)
            obtain ⟨c40, c41, f40, f41⟩ := y4.facts
            obtain ⟨c50, c51, f50, f51⟩ := y5.facts
            have e1 := (y5.other (p := ⟨p6, 0, none⟩) (by show p5 ≠ p6; omega) (.int .i64 (s.size : Int))).other (p := ⟨p6, 1, none⟩) (by show p5 ≠ p6; omega) (.slice (some ⟨p1, 0, none⟩) k k)
            obtain ⟨e50, e51, g50, g51⟩ := e1.facts
            refine wpAnyH_ready (rs := [6]) (by kernel_rfl) (by simp) ?_
            refine AllReadyH.cons rfl (fun K hK => ?_) ?_
            · go_simp
              refine hK.out _ _ fin.out.1 (fun _ => ?_)
              clear hK K
              refine wpAnyH_ready (rs := [7]) (by kernel_rfl) (by simp) ?_
              refine AllReadyH.cons rfl (fun K hK => ?_) ?_
              · go_simp
                refine hK.out _ _ fin.out.2.1 (fun _ => ?_)
                clear hK K
                refine wpAnyH_done (by kernel_rfl) ?_ _
                refine hKm _ _ ?_
                refine hJm _ _ ?_
                exact ⟨_, _, _, _, _, _, ⟨_, _, _, _, rfl, rfl, fin.out.2.2⟩, rfl⟩
              exact AllReadyH.nil
            exact AllReadyH.nil
          exact AllReadyH.nil
        exact AllReadyH.nil
      refine AllReadyH.cons rfl (fun K hK => ?_) ?_
      · go_simp
        obtain ⟨v7, hv7⟩ : ∃ v, v1.alloc (.cells #[.int .i64 0, .slice none 0 0] 25) = v := ⟨_, rfl⟩
        have hb7 : Below v1.heap.size v1 v7 := by rw [← hv7]; exact (Below.refl _ _).alloc (Nat.le_refl _) _
        have hA7 : At v7 v1.heap.size #[.int .i64 0, .slice none 0 0] 25 := by rw [← hv7]; exact At.new v1 _ _
        rw [hv7]
        obtain ⟨p7, hp7⟩ : ∃ p, v1.heap.size = p := ⟨_, rfl⟩
        rw [hp7] at hA7 ⊢
        have hlo7 : v1.heap.size ≤ p7 := by omega
        clear hv7
        have xs7 := keptQ xs1 hb7
        have xB7 := Below.trans xB1 (hb7.mono (Below.size xB1))
        have xz7 : w1.heap.size ≤ v7.heap.size := Nat.le_trans xz1 hb7.size
        have xl7 : w1.heap.size ≤ p7 := Nat.le_trans xz1 hlo7
        have xm7 := At.keptAll hA1 hb7
        refine hK.out _ _ xs7 (fun hH7 => ?_)
        clear hK K
        refine wpAnyH_ready (rs := [3, 5]) (by kernel_rfl) (by simp) ?_
        refine AllReadyH.cons rfl (fun K hK => ?_) ?_
        · rw [if_pos (by rfl)]
          go_simp
          refine (hin.out _ xB7).mono ?_
          rintro e v8 ⟨p8, hlo8, rfl, hA8, hb8⟩
          have xs8 := keptQ xs7 hb8
          have xB8 := Below.trans xB7 (hb8.mono (Below.size xB7))
          have xz8 : w1.heap.size ≤ v8.heap.size := Nat.le_trans xz7 hb8.size
          have xl8 : w1.heap.size ≤ p8 := Nat.le_trans xz7 hlo8
          have xm8 := At.keptAll xm7 hb8
          have x48 := At.keptAll hA7 hb8
          refine hK.out _ _ xs8 (fun hH8 => ?_)
          clear hK K
          refine wpAnyH_ready (rs := [5]) (by kernel_rfl) (by simp) ?_
          refine AllReadyH.cons rfl (fun K hK => ?_) ?_
          · go_simp
            obtain ⟨v9, hv9⟩ : ∃ v, v8.alloc (.cells #[.int .i64 0, .slice none 0 0] 25) = v := ⟨_, rfl⟩
            have hb9 : Below v8.heap.size v8 v9 := by rw [← hv9]; exact (Below.refl _ _).alloc (Nat.le_refl _) _
            have hA9 : At v9 v8.heap.size #[.int .i64 0, .slice none 0 0] 25 := by rw [← hv9]; exact At.new v8 _ _
            rw [hv9]
            have dd := x48.lt
            obtain ⟨p9, hp9⟩ : ∃ p, v8.heap.size = p := ⟨_, rfl⟩
            rw [hp9] at hA9 ⊢
            have hlo9 : v8.heap.size ≤ p9 := by omega
            rw [hp9] at dd
            clear hv9
            have xs9 := keptQ xs8 hb9
            have xB9 := Below.trans xB8 (hb9.mono (Below.size xB8))
            have xz9 : w1.heap.size ≤ v9.heap.size := Nat.le_trans xz8 hb9.size
            have xl9 : w1.heap.size ≤ p9 := Nat.le_trans xz8 hlo9
            have xm9 := At.keptAll xm8 hb9
            have xi9 := At.keptAll hA8 hb9
            have x49 := At.keptAll x48 hb9
            refine hK.out _ _ xs9 (fun hH9 => ?_)
            clear hK K
            have y4 := x49
            have y5 := hA9
            have fin := hid (spB_fin (w := w) hke xm9 xi9 y4 y5 (by omega) (Nat.le_trans hz1 xl7) (Nat.le_trans hz1 xl9) (Nat.le_trans hz1 xl1) (Nat.le_trans hz1 xl8) xs9.1 xs9.2 xB9)
            obtain ⟨c40, c41, f40, f41⟩ := y4.facts
            obtain ⟨c50, c51, f50, f51⟩ := y5.facts
            have e1 := (y5.other (p := ⟨p7, 0, none⟩) (by show p9 ≠ p7; omega) (.int .i64 (s.size : Int))).other (p := ⟨p7, 1, none⟩) (by show p9 ≠ p7; omega) (.slice (some ⟨p1, 0, none⟩) k k)
            obtain ⟨e50, e51, g50, g51⟩ := e1.facts
            refine wpAnyH_ready (rs := [6]) (by kernel_rfl) (by simp) ?_
            refine AllReadyH.cons rfl (fun K hK => ?_) ?_
            · go_simp
              refine hK.out _ _ fin.out.1 (fun _ => ?_)
              clear hK K
              refine wpAnyH_ready (rs := [7]) (by kernel_rfl) (by simp) ?_
              refine AllReadyH.cons rfl (fun K hK => ?_) ?_
              · go_simp
                refine hK.out _ _ fin.out.2.1 (fun _ => ?_)
                clear hK K
                refine wpAnyH_done (by kernel_rfl) ?_ _
                refine hKm _ _ ?_
                refine hJm _ _ ?_
                exact ⟨_, _, _, _, _, _, ⟨_, _, _, _, rfl, rfl, fin.out.2.2⟩, rfl⟩
              exact AllReadyH.nil
            exact AllReadyH.nil
          exact AllReadyH.nil
        refine AllReadyH.cons rfl (fun K hK => ?_) ?_
        · go_simp
          obtain ⟨v10, hv10⟩ : ∃ v, v7.alloc (.cells #[.int .i64 0, .slice none 0 0] 25) = v := ⟨_, rfl⟩
          have hb10 : Below v7.heap.size v7 v10 := by rw [← hv10]; exact (Below.refl _ _).alloc (Nat.le_refl _) _
          have hA10 : At v10 v7.heap.size #[.int .i64 0, .slice none 0 0] 25 := by rw [← hv10]; exact At.new v7 _ _
          rw [hv10]
          have dd := hA7.lt
          obtain ⟨p10, hp10⟩ : ∃ p, v7.heap.size = p := ⟨_, rfl⟩
          rw [hp10] at hA10 ⊢
          have hlo10 : v7.heap.size ≤ p10 := by omega
          rw [hp10] at dd
          clear hv10
          have xs10 := keptQ xs7 hb10
          have xB10 := Below.trans xB7 (hb10.mono (Below.size xB7))
          have xz10 : w1.heap.size ≤ v10.heap.size := Nat.le_trans xz7 hb10.size
          have xl10 : w1.heap.size ≤ p10 := Nat.le_trans xz7 hlo10
          have xm10 := At.keptAll xm7 hb10
          have x410 := At.keptAll hA7 hb10
          refine hK.out _ _ xs10 (fun hH10 => ?_)
          clear hK K
          refine wpAnyH_ready (rs := [3]) (by kernel_rfl) (by simp) ?_
          refine AllReadyH.cons rfl (fun K hK => ?_) ?_
          · rw [if_pos (by rfl)]
            go_simp
            refine (hin.out _ xB10).mono ?_
            rintro e v11 ⟨p11, hlo11, rfl, hA11, hb11⟩
            have xs11 := keptQ xs10 hb11
            have xB11 := Below.trans xB10 (hb11.mono (Below.size xB10))
            have xz11 : w1.heap.size ≤ v11.heap.size := Nat.le_trans xz10 hb11.size
            have xl11 : w1.heap.size ≤ p11 := Nat.le_trans xz10 hlo11
            have xm11 := At.keptAll xm10 hb11
            have x411 := At.keptAll x410 hb11
            have x511 := At.keptAll hA10 hb11
            refine hK.out _ _ xs11 (fun hH11 => ?_)
            clear hK K
            have y4 := x411
            have y5 := x511
            have fin := hid (spB_fin (w := w) hke xm11 hA11 y4 y5 (by omega) (Nat.le_trans hz1 xl7) (Nat.le_trans hz1 xl10) (Nat.le_trans hz1 xl1) (Nat.le_trans hz1 xl11) xs11.1 xs11.2 xB11)
            obtain ⟨c40, c41, f40, f41⟩ := y4.facts
            obtain ⟨c50, c51, f50, f51⟩ := y5.facts
            have e1 := (y5.other (p := ⟨p7, 0, none⟩) (by show p10 ≠ p7; omega) (.int .i64 (s.size : Int))).other (p := ⟨p7, 1, none⟩) (by show p10 ≠ p7; omega) (.slice (some ⟨p1, 0, none⟩) k k)
            obtain ⟨e50, e51, g50, g51⟩ := e1.facts
            refine wpAnyH_ready (rs := [6]) (by kernel_rfl) (by simp) ?_
            refine AllReadyH.cons rfl (fun K hK => ?_) ?_
            · go_simp
              refine hK.out _ _ fin.out.1 (fun _ => ?_)
              clear hK K
              refine wpAnyH_ready (rs := [7]) (by kernel_rfl) (by simp) ?_
              refine AllReadyH.cons rfl (fun K hK => ?_) ?_
              · go_simp
                refine hK.out _ _ fin.out.2.1 (fun _ => ?_)
                clear hK K
                refine wpAnyH_done (by kernel_rfl) ?_ _
                refine hKm _ _ ?_
                refine hJm _ _ ?_
                exact ⟨_, _, _, _, _, _, ⟨_, _, _, _, rfl, rfl, fin.out.2.2⟩, rfl⟩
              exact AllReadyH.nil
            exact AllReadyH.nil
          exact AllReadyH.nil
        exact AllReadyH.nil
      refine AllReadyH.cons rfl (fun K hK => ?_) ?_
      · go_simp
        obtain ⟨v12, hv12⟩ : ∃ v, v1.alloc (.cells #[.int .i64 0, .slice none 0 0] 25) = v := ⟨_, rfl⟩
        have hb12 : Below v1.heap.size v1 v12 := by rw [← hv12]; exact (Below.refl _ _).alloc (Nat.le_refl _) _
        have hA12 : At v12 v1.heap.size #[.int .i64 0, .slice none 0 0] 25 := by rw [← hv12]; exact At.new v1 _ _
        rw [hv12]
        obtain ⟨p12, hp12⟩ : ∃ p, v1.heap.size = p := ⟨_, rfl⟩
        rw [hp12] at hA12 ⊢
        have hlo12 : v1.heap.size ≤ p12 := by omega
        clear hv12
        have xs12 := keptQ xs1 hb12
        have xB12 := Below.trans xB1 (hb12.mono (Below.size xB1))
        have xz12 : w1.heap.size ≤ v12.heap.size := Nat.le_trans xz1 hb12.size
        have xl12 : w1.heap.size ≤ p12 := Nat.le_trans xz1 hlo12
        have xm12 := At.keptAll hA1 hb12
        refine hK.out _ _ xs12 (fun hH12 => ?_)
        clear hK K
        refine wpAnyH_ready (rs := [3, 4]) (by kernel_rfl) (by simp) ?_
        refine AllReadyH.cons rfl (fun K hK => ?_) ?_
        · rw [if_pos (by rfl)]
          go_simp
          refine (hin.out _ xB12).mono ?_
          rintro e v13 ⟨p13, hlo13, rfl, hA13, hb13⟩
          have xs13 := keptQ xs12 hb13
          have xB13 := Below.trans xB12 (hb13.mono (Below.size xB12))
          have xz13 : w1.heap.size ≤ v13.heap.size := Nat.le_trans xz12 hb13.size
          have xl13 : w1.heap.size ≤ p13 := Nat.le_trans xz12 hlo13
          have xm13 := At.keptAll xm12 hb13
          have x513 := At.keptAll hA12 hb13
          refine hK.out _ _ xs13 (fun hH13 => ?_)
          clear hK K
          refine wpAnyH_ready (rs := [4]) (by kernel_rfl) (by simp) ?_
          refine AllReadyH.cons rfl (fun K hK => ?_) ?_
          · go_simp
            obtain ⟨v14, hv14⟩ : ∃ v, v13.alloc (.cells #[.int .i64 0, .slice none 0 0] 25) = v := ⟨_, rfl⟩
            have hb14 : Below v13.heap.size v13 v14 := by rw [← hv14]; exact (Below.refl _ _).alloc (Nat.le_refl _) _
            have hA14 : At v14 v13.heap.size #[.int .i64 0, .slice none 0 0] 25 := by rw [← hv14]; exact At.new v13 _ _
            rw [hv14]
            have dd := x513.lt
            obtain ⟨p14, hp14⟩ : ∃ p, v13.heap.size = p := ⟨_, rfl⟩
            rw [hp14] at hA14 ⊢
            have hlo14 : v13.heap.size ≤ p14 := by omega
            rw [hp14] at dd
            clear hv14
            have xs14 := keptQ xs13 hb14
            have xB14 := Below.trans xB13 (hb14.mono (Below.size xB13))
            have xz14 : w1.heap.size ≤ v14.heap.size := Nat.le_trans xz13 hb14.size
            have xl14 : w1.heap.size ≤ p14 := Nat.le_trans xz13 hlo14
            have xm14 := At.keptAll xm13 hb14
            have xi14 := At.keptAll hA13 hb14
            have x514 := At.keptAll x513 hb14
            refine hK.out _ _ xs14 (fun hH14 => ?_)
            clear hK K
            have y4 := hA14
            have y5 := x514
            have fin := hid (spB_fin (w := w) hke xm14 xi14 y4 y5 (by omega) (Nat.le_trans hz1 xl14) (Nat.le_trans hz1 xl12) (Nat.le_trans hz1 xl1) (Nat.le_trans hz1 xl13) xs14.1 xs14.2 xB14)
            obtain ⟨c40, c41, f40, f41⟩ := y4.facts
            obtain ⟨c50, c51, f50, f51⟩ := y5.facts
            have e1 := (y5.other (p := ⟨p14, 0, none⟩) (by show p12 ≠ p14; omega) (.int .i64 (s.size : Int))).other (p := ⟨p14, 1, none⟩) (by show p12 ≠ p14; omega) (.slice (some ⟨p1, 0, none⟩) k k)
            obtain ⟨e50, e51, g50, g51⟩ := e1.facts
            refine wpAnyH_ready (rs := [6]) (by kernel_rfl) (by simp) ?_
            refine AllReadyH.cons rfl (fun K hK => ?_) ?_
            · go_simp
              refine hK.out _ _ fin.out.1 (fun _ => ?_)
              clear hK K
              refine wpAnyH_ready (rs := [7]) (by kernel_rfl) (by simp) ?_
              refine AllReadyH.cons rfl (fun K hK => ?_) ?_
              · go_simp
                refine hK.out _ _ fin.out.2.1 (fun _ => ?_)
                clear hK K
                refine wpAnyH_done (by kernel_rfl) ?_ _
                refine hKm _ _ ?_
                refine hJm _ _ ?_
                exact ⟨_, _, _, _, _, _, ⟨_, _, _, _, rfl, rfl, fin.out.2.2⟩, rfl⟩
              exact AllReadyH.nil
            exact AllReadyH.nil
          exact AllReadyH.nil
        refine AllReadyH.cons rfl (fun K hK => ?_) ?_
        · go_simp
          obtain ⟨v15, hv15⟩ : ∃ v, v12.alloc (.cells #[.int .i64 0, .slice none 0 0] 25) = v := ⟨_, rfl⟩
          have hb15 : Below v12.heap.size v12 v15 := by rw [← hv15]; exact (Below.refl _ _).alloc (Nat.le_refl _) _
          have hA15 : At v15 v12.heap.size #[.int .i64 0, .slice none 0 0] 25 := by rw [← hv15]; exact At.new v12 _ _
          rw [hv15]
          have dd := hA12.lt
          obtain ⟨p15, hp15⟩ : ∃ p, v12.heap.size = p := ⟨_, rfl⟩
          rw [hp15] at hA15 ⊢
          have hlo15 : v12.heap.size ≤ p15 := by omega
          rw [hp15] at dd
          clear hv15
          have xs15 := keptQ xs12 hb15
          have xB15 := Below.trans xB12 (hb15.mono (Below.size xB12))
          have xz15 : w1.heap.size ≤ v15.heap.size := Nat.le_trans xz12 hb15.size
          have xl15 : w1.heap.size ≤ p15 := Nat.le_trans xz12 hlo15
          have xm15 := At.keptAll xm12 hb15
          have x515 := At.keptAll hA12 hb15
          refine hK.out _ _ xs15 (fun hH15 => ?_)
          clear hK K
          refine wpAnyH_ready (rs := [3]) (by kernel_rfl) (by simp) ?_
          refine AllReadyH.cons rfl (fun K hK => ?_) ?_
          · rw [if_pos (by rfl)]
            go_simp
            refine (hin.out _ xB15).mono ?_
            rintro e v16 ⟨p16, hlo16, rfl, hA16, hb16⟩
            have xs16 := keptQ xs15 hb16
            have xB16 := Below.trans xB15 (hb16.mono (Below.size xB15))
            have xz16 : w1.heap.size ≤ v16.heap.size := Nat.le_trans xz15 hb16.size
            have xl16 : w1.heap.size ≤ p16 := Nat.le_trans xz15 hlo16
            have xm16 := At.keptAll xm15 hb16
            have x416 := At.keptAll hA15 hb16
            have x516 := At.keptAll x515 hb16
            refine hK.out _ _ xs16 (fun hH16 => ?_)
            clear hK K
            have y4 := x416
            have y5 := x516
            have fin := hid (spB_fin (w := w) hke xm16 hA16 y4 y5 (by omega) (Nat.le_trans hz1 xl15) (Nat.le_trans hz1 xl12) (Nat.le_trans hz1 xl1) (Nat.le_trans hz1 xl16) xs16.1 xs16.2 xB16)
            obtain ⟨c40, c41, f40, f41⟩ := y4.facts
            obtain ⟨c50, c51, f50, f51⟩ := y5.facts
            have e1 := (y5.other (p := ⟨p15, 0, none⟩) (by show p12 ≠ p15; omega) (.int .i64 (s.size : Int))).other (p := ⟨p15, 1, none⟩) (by show p12 ≠ p15; omega) (.slice (some ⟨p1, 0, none⟩) k k)
            obtain ⟨e50, e51, g50, g51⟩ := e1.facts
            refine wpAnyH_ready (rs := [6]) (by kernel_rfl) (by simp) ?_
            refine AllReadyH.cons rfl (fun K hK => ?_) ?_
            · go_simp
              refine hK.out _ _ fin.out.1 (fun _ => ?_)
              clear hK K
              refine wpAnyH_ready (rs := [7]) (by kernel_rfl) (by simp) ?_
              refine AllReadyH.cons rfl (fun K hK => ?_) ?_
              · go_simp
                refine hK.out _ _ fin.out.2.1 (fun _ => ?_)
                clear hK K
                refine wpAnyH_done (by kernel_rfl) ?_ _
                refine hKm _ _ ?_
                refine hJm _ _ ?_
                exact ⟨_, _, _, _, _, _, ⟨_, _, _, _, rfl, rfl, fin.out.2.2⟩, rfl⟩
              exact AllReadyH.nil
            exact AllReadyH.nil
          exact AllReadyH.nil
        exact AllReadyH.nil
      exact AllReadyH.nil
    refine AllReadyH.cons rfl (fun K hK => ?_) ?_
    · go_simp
      obtain ⟨v17, hv17⟩ : ∃ v, W0.alloc (.cells #[.int .i64 0, .slice none 0 0] 25) = v := ⟨_, rfl⟩
      have hb17 : Below W0.heap.size W0 v17 := by rw [← hv17]; exact (Below.refl _ _).alloc (Nat.le_refl _) _
      have hA17 : At v17 W0.heap.size #[.int .i64 0, .slice none 0 0] 25 := by rw [← hv17]; exact At.new W0 _ _
      rw [hv17]
      obtain ⟨p17, hp17⟩ : ∃ p, W0.heap.size = p := ⟨_, rfl⟩
      rw [hp17] at hA17 ⊢
      have hlo17 : W0.heap.size ≤ p17 := by omega
      clear hv17
      have xs17 := keptQ hS0 hb17
      have xB17 := Below.trans hB0 (hb17.mono (Below.size hB0))
      have xz17 : w1.heap.size ≤ v17.heap.size := Nat.le_trans hz0 hb17.size
      have xl17 : w1.heap.size ≤ p17 := Nat.le_trans hz0 hlo17
      refine hK.out _ _ xs17 (fun hH17 => ?_)
      clear hK K
      refine wpAnyH_ready (rs := [1, 5]) (by kernel_rfl) (by simp) ?_
      refine AllReadyH.cons rfl (fun K hK => ?_) ?_
      · rw [if_pos (by rfl)]
        go_simp
        refine (hmk.out _ xB17).mono ?_
        rintro e v18 ⟨p18, hlo18, rfl, hA18, hb18⟩
        have xs18 := keptQ xs17 hb18
        have xB18 := Below.trans xB17 (hb18.mono (Below.size xB17))
        have xz18 : w1.heap.size ≤ v18.heap.size := Nat.le_trans xz17 hb18.size
        have xl18 : w1.heap.size ≤ p18 := Nat.le_trans xz17 hlo18
        have x418 := At.keptAll hA17 hb18
        refine hK.out _ _ xs18 (fun hH18 => ?_)
        clear hK K
        refine wpAnyH_ready (rs := [3, 5]) (by kernel_rfl) (by simp) ?_
        refine AllReadyH.cons rfl (fun K hK => ?_) ?_
        · rw [if_pos (by rfl)]
          go_simp
          refine (hin.out _ xB18).mono ?_
          rintro e v19 ⟨p19, hlo19, rfl, hA19, hb19⟩
          have xs19 := keptQ xs18 hb19
          have xB19 := Below.trans xB18 (hb19.mono (Below.size xB18))
          have xz19 : w1.heap.size ≤ v19.heap.size := Nat.le_trans xz18 hb19.size
          have xl19 : w1.heap.size ≤ p19 := Nat.le_trans xz18 hlo19
          have xm19 := At.keptAll hA18 hb19
          have x419 := At.keptAll x418 hb19
          refine hK.out _ _ xs19 (fun hH19 => ?_)
          clear hK K
          refine wpAnyH_ready (rs := [5]) (by kernel_rfl) (by simp) ?_
          refine AllReadyH.cons rfl (fun K hK => ?_) ?_
          · go_simp
            obtain ⟨v20, hv20⟩ : ∃ v, v19.alloc (.cells #[.int .i64 0, .slice none 0 0] 25) = v := ⟨_, rfl⟩
            have hb20 : Below v19.heap.size v19 v20 := by rw [← hv20]; exact (Below.refl _ _).alloc (Nat.le_refl _) _
            have hA20 : At v20 v19.heap.size #[.int .i64 0, .slice none 0 0] 25 := by rw [← hv20]; exact At.new v19 _ _
            rw [hv20]
            have dd := x419.lt
            obtain ⟨p20, hp20⟩ : ∃ p, v19.heap.size = p := ⟨_, rfl⟩
            rw [hp20] at hA20 ⊢
            have hlo20 : v19.heap.size ≤ p20 := by omega
            rw [hp20] at dd
            clear hv20
            have xs20 := keptQ xs19 hb20
            have xB20 := Below.trans xB19 (hb20.mono (Below.size xB19))
            have xz20 : w1.heap.size ≤ v20.heap.size := Nat.le_trans xz19 hb20.size
            have xl20 : w1.heap.size ≤ p20 := Nat.le_trans xz19 hlo20
            have xm20 := At.keptAll xm19 hb20
            have xi20 := At.keptAll hA19 hb20
            have x420 := At.keptAll x419 hb20
            refine hK.out _ _ xs20 (fun hH20 => ?_)
            clear hK K
            have y4 := x420
            have y5 := hA20
            have fin := hid (spB_fin (w := w) hke xm20 xi20 y4 y5 (by omega) (Nat.le_trans hz1 xl17) (Nat.le_trans hz1 xl20) (Nat.le_trans hz1 xl18) (Nat.le_trans hz1 xl19) xs20.1 xs20.2 xB20)
            obtain ⟨c40, c41, f40, f41⟩ := y4.facts
            obtain ⟨c50, c51, f50, f51⟩ := y5.facts
            have e1 := (y5.other (p := ⟨p17, 0, none⟩) (by show p20 ≠ p17; omega) (.int .i64 (s.size : Int))).other (p := ⟨p17, 1, none⟩) (by show p20 ≠ p17; omega) (.slice (some ⟨p18, 0, none⟩) k k)
            obtain ⟨e50, e51, g50, g51⟩ := e1.facts
            refine wpAnyH_ready (rs := [6]) (by kernel_rfl) (by simp) ?_
            refine AllReadyH.cons rfl (fun K hK => ?_) ?_
            · go_simp
              refine hK.out _ _ fin.out.1 (fun _ => ?_)
              clear hK K
              refine wpAnyH_ready (rs := [7]) (by kernel_rfl) (by simp) ?_
              refine AllReadyH.cons rfl (fun K hK => ?_) ?_
              · go_simp
                refine hK.out _ _ fin.out.2.1 (fun _ => ?_)
                clear hK K
                refine wpAnyH_done (by kernel_rfl) ?_ _
                refine hKm _ _ ?_
                refine hJm _ _ ?_
                exact ⟨_, _, _, _, _, _, ⟨_, _, _, _, rfl, rfl, fin.out.2.2⟩, rfl⟩
              exact AllReadyH.nil
            exact AllReadyH.nil
          exact AllReadyH.nil
        refine AllReadyH.cons rfl (fun K hK => ?_) ?_
        · go_simp
          obtain ⟨v21, hv21⟩ : ∃ v, v18.alloc (.cells #[.int .i64 0, .slice none 0 0] 25) = v := ⟨_, rfl⟩
          have hb21 : Below v18.heap.size v18 v21 := by rw [← hv21]; exact (Below.refl _ _).alloc (Nat.le_refl _) _
          have hA21 : At v21 v18.heap.size #[.int .i64 0, .slice none 0 0] 25 := by rw [← hv21]; exact At.new v18 _ _
          rw [hv21]
          have dd := x418.lt
          obtain ⟨p21, hp21⟩ : ∃ p, v18.heap.size = p := ⟨_, rfl⟩
          rw [hp21] at hA21 ⊢
          have hlo21 : v18.heap.size ≤ p21 := by omega
          rw [hp21] at dd
          clear hv21
          have xs21 := keptQ xs18 hb21
          have xB21 := Below.trans xB18 (hb21.mono (Below.size xB18))
          have xz21 : w1.heap.size ≤ v21.heap.size := Nat.le_trans xz18 hb21.size
          have xl21 : w1.heap.size ≤ p21 := Nat.le_trans xz18 hlo21
          have xm21 := At.keptAll hA18 hb21
          have x421 := At.keptAll x418 hb21
          refine hK.out _ _ xs21 (fun hH21 => ?_)
          clear hK K
          refine wpAnyH_ready (rs := [3]) (by kernel_rfl) (by simp) ?_
          refine AllReadyH.cons rfl (fun K hK => ?_) ?_
          · rw [if_pos (by rfl)]
            go_simp
            refine (hin.out _ xB21).mono ?_
            rintro e v22 ⟨p22, hlo22, rfl, hA22, hb22⟩
            have xs22 := keptQ xs21 hb22
            have xB22 := Below.trans xB21 (hb22.mono (Below.size xB21))
            have xz22 : w1.heap.size ≤ v22.heap.size := Nat.le_trans xz21 hb22.size
            have xl22 : w1.heap.size ≤ p22 := Nat.le_trans xz21 hlo22
            have xm22 := At.keptAll xm21 hb22
            have x422 := At.keptAll x421 hb22
            have x522 := At.keptAll hA21 hb22
            refine hK.out _ _ xs22 (fun hH22 => ?_)
            clear hK K
            have y4 := x422
            have y5 := x522
            have fin := hid (spB_fin (w := w) hke xm22 hA22 y4 y5 (by omega) (Nat.le_trans hz1 xl17) (Nat.le_trans hz1 xl21) (Nat.le_trans hz1 xl18) (Nat.le_trans hz1 xl22) xs22.1 xs22.2 xB22)
            obtain ⟨c40, c41, f40, f41⟩ := y4.facts
            obtain ⟨c50, c51, f50, f51⟩ := y5.facts
            have e1 := (y5.other (p := ⟨p17, 0, none⟩) (by show p21 ≠ p17; omega) (.int .i64 (s.size : Int))).other (p := ⟨p17, 1, none⟩) (by show p21 ≠ p17; omega) (.slice (some ⟨p18, 0, none⟩) k k)
            obtain ⟨e50, e51, g50, g51⟩ := e1.facts
            refine wpAnyH_ready (rs := [6]) (by kernel_rfl) (by simp) ?_
            refine AllReadyH.cons rfl (fun K hK => ?_) ?_
            · go_simp
              refine hK.out _ _ fin.out.1 (fun _ => ?_)
              clear hK K
              refine wpAnyH_ready (rs := [7]) (by kernel_rfl) (by simp) ?_
              refine AllReadyH.cons rfl (fun K hK => ?_) ?_
              · go_simp
                refine hK.out _ _ fin.out.2.1 (fun _ => ?_)
                clear hK K
                refine wpAnyH_done (by kernel_rfl) ?_ _
                refine hKm _ _ ?_
                refine hJm _ _ ?_
                exact ⟨_, _, _, _, _, _, ⟨_, _, _, _, rfl, rfl, fin.out.2.2⟩, rfl⟩
              exact AllReadyH.nil
            exact AllReadyH.nil
          exact AllReadyH.nil
        exact AllReadyH.nil
      refine AllReadyH.cons rfl (fun K hK => ?_) ?_
      · go_simp
        obtain ⟨v23, hv23⟩ : ∃ v, v17.alloc (.cells #[.int .i64 0, .slice none 0 0] 25) = v := ⟨_, rfl⟩
        have hb23 : Below v17.heap.size v17 v23 := by rw [← hv23]; exact (Below.refl _ _).alloc (Nat.le_refl _) _
        have hA23 : At v23 v17.heap.size #[.int .i64 0, .slice none 0 0] 25 := by rw [← hv23]; exact At.new v17 _ _
        rw [hv23]
        have dd := hA17.lt
        obtain ⟨p23, hp23⟩ : ∃ p, v17.heap.size = p := ⟨_, rfl⟩
        rw [hp23] at hA23 ⊢
        have hlo23 : v17.heap.size ≤ p23 := by omega
        rw [hp23] at dd
        clear hv23
        have xs23 := keptQ xs17 hb23
        have xB23 := Below.trans xB17 (hb23.mono (Below.size xB17))
        have xz23 : w1.heap.size ≤ v23.heap.size := Nat.le_trans xz17 hb23.size
        have xl23 : w1.heap.size ≤ p23 := Nat.le_trans xz17 hlo23
        have x423 := At.keptAll hA17 hb23
        refine hK.out _ _ xs23 (fun hH23 => ?_)
        clear hK K
        refine wpAnyH_ready (rs := [1]) (by kernel_rfl) (by simp) ?_
        refine AllReadyH.cons rfl (fun K hK => ?_) ?_
        · rw [if_pos (by rfl)]
          go_simp
          refine (hmk.out _ xB23).mono ?_
          rintro e v24 ⟨p24, hlo24, rfl, hA24, hb24⟩
          have xs24 := keptQ xs23 hb24
          have xB24 := Below.trans xB23 (hb24.mono (Below.size xB23))
          have xz24 : w1.heap.size ≤ v24.heap.size := Nat.le_trans xz23 hb24.size
          have xl24 : w1.heap.size ≤ p24 := Nat.le_trans xz23 hlo24
          have x424 := At.keptAll x423 hb24
          have x524 := At.keptAll hA23 hb24
          refine hK.out _ _ xs24 (fun hH24 => ?_)
          clear hK K
          refine wpAnyH_ready (rs := [3]) (by kernel_rfl) (by simp) ?_
          refine AllReadyH.cons rfl (fun K hK => ?_) ?_
          · rw [if_pos (by rfl)]
            go_simp
            refine (hin.out _ xB24).mono ?_
            rintro e v25 ⟨p25, hlo25, rfl, hA25, hb25⟩
            have xs25 := keptQ xs24 hb25
            have xB25 := Below.trans xB24 (hb25.mono (Below.size xB24))
            have xz25 : w1.heap.size ≤ v25.heap.size := Nat.le_trans xz24 hb25.size
            have xl25 : w1.heap.size ≤ p25 := Nat.le_trans xz24 hlo25
            have xm25 := At.keptAll hA24 hb25
            have x425 := At.keptAll x424 hb25
            have x525 := At.keptAll x524 hb25
            refine hK.out _ _ xs25 (fun hH25 => ?_)
            clear hK K
            have y4 := x425
            have y5 := x525
            have fin := hid (spB_fin (w := w) hke xm25 hA25 y4 y5 (by omega) (Nat.le_trans hz1 xl17) (Nat.le_trans hz1 xl23) (Nat.le_trans hz1 xl24) (Nat.le_trans hz1 xl25) xs25.1 xs25.2 xB25)
            obtain ⟨c40, c41, f40, f41⟩ := y4.facts
            obtain ⟨c50, c51, f50, f51⟩ := y5.facts
            have e1 := (y5.other (p := ⟨p17, 0, none⟩) (by show p23 ≠ p17; omega) (.int .i64 (s.size : Int))).other (p := ⟨p17, 1, none⟩) (by show p23 ≠ p17; omega) (.slice (some ⟨p24, 0, none⟩) k k)
            obtain ⟨e50, e51, g50, g51⟩ := e1.facts
            refine wpAnyH_ready (rs := [6]) (by kernel_rfl) (by simp) ?_
            refine AllReadyH.cons rfl (fun K hK => ?_) ?_
            · go_simp
              refine hK.out _ _ fin.out.1 (fun _ => ?_)
              clear hK K
              refine wpAnyH_ready (rs := [7]) (by kernel_rfl) (by simp) ?_
              refine AllReadyH.cons rfl (fun K hK => ?_) ?_
              · go_simp
                refine hK.out _ _ fin.out.2.1 (fun _ => ?_)
                clear hK K
                refine wpAnyH_done (by kernel_rfl) ?_ _
                refine hKm _ _ ?_
                refine hJm _ _ ?_
                exact ⟨_, _, _, _, _, _, ⟨_, _, _, _, rfl, rfl, fin.out.2.2⟩, rfl⟩
              exact AllReadyH.nil
            exact AllReadyH.nil
          exact AllReadyH.nil
        exact AllReadyH.nil
      exact AllReadyH.nil
    refine AllReadyH.cons rfl (fun K hK => ?_) ?_
    · go_simp
      obtain ⟨v26, hv26⟩ : ∃ v, W0.alloc (.cells #[.int .i64 0, .slice none 0 0] 25) = v := ⟨_, rfl⟩
      have hb26 : Below W0.heap.size W0 v26 := by rw [← hv26]; exact (Below.refl _ _).alloc (Nat.le_refl _) _
      have hA26 : At v26 W0.heap.size #[.int .i64 0, .slice none 0 0] 25 := by rw [← hv26]; exact At.new W0 _ _
      rw [hv26]
      obtain ⟨p26, hp26⟩ : ∃ p, W0.heap.size = p := ⟨_, rfl⟩
      rw [hp26] at hA26 ⊢
      have hlo26 : W0.heap.size ≤ p26 := by omega
      clear hv26
      have xs26 := keptQ hS0 hb26
      have xB26 := Below.trans hB0 (hb26.mono (Below.size hB0))
      have xz26 : w1.heap.size ≤ v26.heap.size := Nat.le_trans hz0 hb26.size
      have xl26 : w1.heap.size ≤ p26 := Nat.le_trans hz0 hlo26
      refine hK.out _ _ xs26 (fun hH26 => ?_)
      clear hK K
      refine wpAnyH_ready (rs := [1, 4]) (by kernel_rfl) (by simp) ?_
      refine AllReadyH.cons rfl (fun K hK => ?_) ?_
      · rw [if_pos (by rfl)]
        go_simp
        refine (hmk.out _ xB26).mono ?_
        rintro e v27 ⟨p27, hlo27, rfl, hA27, hb27⟩
        have xs27 := keptQ xs26 hb27
        have xB27 := Below.trans xB26 (hb27.mono (Below.size xB26))
        have xz27 : w1.heap.size ≤ v27.heap.size := Nat.le_trans xz26 hb27.size
        have xl27 : w1.heap.size ≤ p27 := Nat.le_trans xz26 hlo27
        have x527 := At.keptAll hA26 hb27
        refine hK.out _ _ xs27 (fun hH27 => ?_)
        clear hK K
        refine wpAnyH_ready (rs := [3, 4]) (by kernel_rfl) (by simp) ?_
        refine AllReadyH.cons rfl (fun K hK => ?_) ?_
        · rw [if_pos (by rfl)]
          go_simp
          refine (hin.out _ xB27).mono ?_
          rintro e v28 ⟨p28, hlo28, rfl, hA28, hb28⟩
          have xs28 := keptQ xs27 hb28
          have xB28 := Below.trans xB27 (hb28.mono (Below.size xB27))
          have xz28 : w1.heap.size ≤ v28.heap.size := Nat.le_trans xz27 hb28.size
          have xl28 : w1.heap.size ≤ p28 := Nat.le_trans xz27 hlo28
          have xm28 := At.keptAll hA27 hb28
          have x528 := At.keptAll x527 hb28
          refine hK.out _ _ xs28 (fun hH28 => ?_)
          clear hK K
          refine wpAnyH_ready (rs := [4]) (by kernel_rfl) (by simp) ?_
          refine AllReadyH.cons rfl (fun K hK => ?_) ?_
          · go_simp
            obtain ⟨v29, hv29⟩ : ∃ v, v28.alloc (.cells #[.int .i64 0, .slice none 0 0] 25) = v := ⟨_, rfl⟩
            have hb29 : Below v28.heap.size v28 v29 := by rw [← hv29]; exact (Below.refl _ _).alloc (Nat.le_refl _) _
            have hA29 : At v29 v28.heap.size #[.int .i64 0, .slice none 0 0] 25 := by rw [← hv29]; exact At.new v28 _ _
            rw [hv29]
            have dd := x528.lt
            obtain ⟨p29, hp29⟩ : ∃ p, v28.heap.size = p := ⟨_, rfl⟩
            rw [hp29] at hA29 ⊢
            have hlo29 : v28.heap.size ≤ p29 := by omega
            rw [hp29] at dd
            clear hv29
            have xs29 := keptQ xs28 hb29
            have xB29 := Below.trans xB28 (hb29.mono (Below.size xB28))
            have xz29 : w1.heap.size ≤ v29.heap.size := Nat.le_trans xz28 hb29.size
            have xl29 : w1.heap.size ≤ p29 := Nat.le_trans xz28 hlo29
            have xm29 := At.keptAll xm28 hb29
            have xi29 := At.keptAll hA28 hb29
            have x529 := At.keptAll x528 hb29
            refine hK.out _ _ xs29 (fun hH29 => ?_)
            clear hK K
            have y4 := hA29
            have y5 := x529
            have fin := hid (spB_fin (w := w) hke xm29 xi29 y4 y5 (by omega) (Nat.le_trans hz1 xl29) (Nat.le_trans hz1 xl26) (Nat.le_trans hz1 xl27) (Nat.le_trans hz1 xl28) xs29.1 xs29.2 xB29)
            obtain ⟨c40, c41, f40, f41⟩ := y4.facts
            obtain ⟨c50, c51, f50, f51⟩ := y5.facts
            have e1 := (y5.other (p := ⟨p29, 0, none⟩) (by show p26 ≠ p29; omega) (.int .i64 (s.size : Int))).other (p := ⟨p29, 1, none⟩) (by show p26 ≠ p29; omega) (.slice (some ⟨p27, 0, none⟩) k k)
            obtain ⟨e50, e51, g50, g51⟩ := e1.facts
            refine wpAnyH_ready (rs := [6]) (by kernel_rfl) (by simp) ?_
            refine AllReadyH.cons rfl (fun K hK => ?_) ?_
            · go_simp
              refine hK.out _ _ fin.out.1 (fun _ => ?_)
              clear hK K
              refine wpAnyH_ready (rs := [7]) (by kernel_rfl) (by simp) ?_
              refine AllReadyH.cons rfl (fun K hK => ?_) ?_
              · go_simp
                refine hK.out _ _ fin.out.2.1 (fun _ => ?_)
                clear hK K
                refine wpAnyH_done (by kernel_rfl) ?_ _
                refine hKm _ _ ?_
                refine hJm _ _ ?_
                exact ⟨_, _, _, _, _, _, ⟨_, _, _, _, rfl, rfl, fin.out.2.2⟩, rfl⟩
              exact AllReadyH.nil
            exact AllReadyH.nil
          exact AllReadyH.nil
        refine AllReadyH.cons rfl (fun K hK => ?_) ?_
        · go_simp
          obtain ⟨v30, hv30⟩ : ∃ v, v27.alloc (.cells #[.int .i64 0, .slice none 0 0] 25) = v := ⟨_, rfl⟩
          have hb30 : Below v27.heap.size v27 v30 := by rw [← hv30]; exact (Below.refl _ _).alloc (Nat.le_refl _) _
          have hA30 : At v30 v27.heap.size #[.int .i64 0, .slice none 0 0] 25 := by rw [← hv30]; exact At.new v27 _ _
          rw [hv30]
          have dd := x527.lt
          obtain ⟨p30, hp30⟩ : ∃ p, v27.heap.size = p := ⟨_, rfl⟩
          rw [hp30] at hA30 ⊢
          have hlo30 : v27.heap.size ≤ p30 := by omega
          rw [hp30] at dd
          clear hv30
          have xs30 := keptQ xs27 hb30
          have xB30 := Below.trans xB27 (hb30.mono (Below.size xB27))
          have xz30 : w1.heap.size ≤ v30.heap.size := Nat.le_trans xz27 hb30.size
          have xl30 : w1.heap.size ≤ p30 := Nat.le_trans xz27 hlo30
          have xm30 := At.keptAll hA27 hb30
          have x530 := At.keptAll x527 hb30
          refine hK.out _ _ xs30 (fun hH30 => ?_)
          clear hK K
          refine wpAnyH_ready (rs := [3]) (by kernel_rfl) (by simp) ?_
          refine AllReadyH.cons rfl (fun K hK => ?_) ?_
          · rw [if_pos (by rfl)]
            go_simp
            refine (hin.out _ xB30).mono ?_
            rintro e v31 ⟨p31, hlo31, rfl, hA31, hb31⟩
            have xs31 := keptQ xs30 hb31
            have xB31 := Below.trans xB30 (hb31.mono (Below.size xB30))
            have xz31 : w1.heap.size ≤ v31.heap.size := Nat.le_trans xz30 hb31.size
            have xl31 : w1.heap.size ≤ p31 := Nat.le_trans xz30 hlo31
            have xm31 := At.keptAll xm30 hb31
            have x431 := At.keptAll hA30 hb31
            have x531 := At.keptAll x530 hb31
            refine hK.out _ _ xs31 (fun hH31 => ?_)
            clear hK K
            have y4 := x431
            have y5 := x531
            have fin := hid (spB_fin (w := w) hke xm31 hA31 y4 y5 (by omega) (Nat.le_trans hz1 xl30) (Nat.le_trans hz1 xl26) (Nat.le_trans hz1 xl27) (Nat.le_trans hz1 xl31) xs31.1 xs31.2 xB31)
            obtain ⟨c40, c41, f40, f41⟩ := y4.facts
            obtain ⟨c50, c51, f50, f51⟩ := y5.facts
            have e1 := (y5.other (p := ⟨p30, 0, none⟩) (by show p26 ≠ p30; omega) (.int .i64 (s.size : Int))).other (p := ⟨p30, 1, none⟩) (by show p26 ≠ p30; omega) (.slice (some ⟨p27, 0, none⟩) k k)
            obtain ⟨e50, e51, g50, g51⟩ := e1.facts
            refine wpAnyH_ready (rs := [6]) (by kernel_rfl) (by simp) ?_
            refine AllReadyH.cons rfl (fun K hK => ?_) ?_
            · go_simp
              refine hK.out _ _ fin.out.1 (fun _ => ?_)
              clear hK K
              refine wpAnyH_ready (rs := [7]) (by kernel_rfl) (by simp) ?_
              refine AllReadyH.cons rfl (fun K hK => ?_) ?_
              · go_simp
                refine hK.out _ _ fin.out.2.1 (fun _ => ?_)
                clear hK K
                refine wpAnyH_done (by kernel_rfl) ?_ _
                refine hKm _ _ ?_
                refine hJm _ _ ?_
                exact ⟨_, _, _, _, _, _, ⟨_, _, _, _, rfl, rfl, fin.out.2.2⟩, rfl⟩
              exact AllReadyH.nil
            exact AllReadyH.nil
          exact AllReadyH.nil
        exact AllReadyH.nil
      refine AllReadyH.cons rfl (fun K hK => ?_) ?_
      · go_simp
        obtain ⟨v32, hv32⟩ : ∃ v, v26.alloc (.cells #[.int .i64 0, .slice none 0 0] 25) = v := ⟨_, rfl⟩
        have hb32 : Below v26.heap.size v26 v32 := by rw [← hv32]; exact (Below.refl _ _).alloc (Nat.le_refl _) _
        have hA32 : At v32 v26.heap.size #[.int .i64 0, .slice none 0 0] 25 := by rw [← hv32]; exact At.new v26 _ _
        rw [hv32]
        have dd := hA26.lt
        obtain ⟨p32, hp32⟩ : ∃ p, v26.heap.size = p := ⟨_, rfl⟩
        rw [hp32] at hA32 ⊢
        have hlo32 : v26.heap.size ≤ p32 := by omega
        rw [hp32] at dd
        clear hv32
        have xs32 := keptQ xs26 hb32
        have xB32 := Below.trans xB26 (hb32.mono (Below.size xB26))
        have xz32 : w1.heap.size ≤ v32.heap.size := Nat.le_trans xz26 hb32.size
        have xl32 : w1.heap.size ≤ p32 := Nat.le_trans xz26 hlo32
        have x532 := At.keptAll hA26 hb32
        refine hK.out _ _ xs32 (fun hH32 => ?_)
        clear hK K
        refine wpAnyH_ready (rs := [1]) (by kernel_rfl) (by simp) ?_
        refine AllReadyH.cons rfl (fun K hK => ?_) ?_
        · rw [if_pos (by rfl)]
          go_simp
          refine (hmk.out _ xB32).mono ?_
          rintro e v33 ⟨p33, hlo33, rfl, hA33, hb33⟩
          have xs33 := keptQ xs32 hb33
          have xB33 := Below.trans xB32 (hb33.mono (Below.size xB32))
          have xz33 : w1.heap.size ≤ v33.heap.size := Nat.le_trans xz32 hb33.size
          have xl33 : w1.heap.size ≤ p33 := Nat.le_trans xz32 hlo33
          have x433 := At.keptAll hA32 hb33
          have x533 := At.keptAll x532 hb33
          refine hK.out _ _ xs33 (fun hH33 => ?_)
          clear hK K
          refine wpAnyH_ready (rs := [3]) (by kernel_rfl) (by simp) ?_
          refine AllReadyH.cons rfl (fun K hK => ?_) ?_
          · rw [if_pos (by rfl)]
            go_simp
            refine (hin.out _ xB33).mono ?_
            rintro e v34 ⟨p34, hlo34, rfl, hA34, hb34⟩
            have xs34 := keptQ xs33 hb34
            have xB34 := Below.trans xB33 (hb34.mono (Below.size xB33))
            have xz34 : w1.heap.size ≤ v34.heap.size := Nat.le_trans xz33 hb34.size
            have xl34 : w1.heap.size ≤ p34 := Nat.le_trans xz33 hlo34
            have xm34 := At.keptAll hA33 hb34
            have x434 := At.keptAll x433 hb34
            have x534 := At.keptAll x533 hb34
            refine hK.out _ _ xs34 (fun hH34 => ?_)
            clear hK K
            have y4 := x434
            have y5 := x534
            have fin := hid (spB_fin (w := w) hke xm34 hA34 y4 y5 (by omega) (Nat.le_trans hz1 xl32) (Nat.le_trans hz1 xl26) (Nat.le_trans hz1 xl33) (Nat.le_trans hz1 xl34) xs34.1 xs34.2 xB34)
            obtain ⟨c40, c41, f40, f41⟩ := y4.facts
            obtain ⟨c50, c51, f50, f51⟩ := y5.facts
            have e1 := (y5.other (p := ⟨p32, 0, none⟩) (by show p26 ≠ p32; omega) (.int .i64 (s.size : Int))).other (p := ⟨p32, 1, none⟩) (by show p26 ≠ p32; omega) (.slice (some ⟨p33, 0, none⟩) k k)
            obtain ⟨e50, e51, g50, g51⟩ := e1.facts
            refine wpAnyH_ready (rs := [6]) (by kernel_rfl) (by simp) ?_
            refine AllReadyH.cons rfl (fun K hK => ?_) ?_
            · go_simp
              refine hK.out _ _ fin.out.1 (fun _ => ?_)
              clear hK K
              refine wpAnyH_ready (rs := [7]) (by kernel_rfl) (by simp) ?_
              refine AllReadyH.cons rfl (fun K hK => ?_) ?_
              · go_simp
                refine hK.out _ _ fin.out.2.1 (fun _ => ?_)
                clear hK K
                refine wpAnyH_done (by kernel_rfl) ?_ _
                refine hKm _ _ ?_
                refine hJm _ _ ?_
                exact ⟨_, _, _, _, _, _, ⟨_, _, _, _, rfl, rfl, fin.out.2.2⟩, rfl⟩
              exact AllReadyH.nil
            exact AllReadyH.nil
          exact AllReadyH.nil
        exact AllReadyH.nil
      exact AllReadyH.nil
    exact AllReadyH.nil
  case rest => as_aux_lemma =>
    obtain ⟨b1, b2, g1, g2, rfl, rfl, hSp⟩ := hcut
    clear hA0' hA1' hB1 hz1
    have hSp' := hid hSp
    have s0 := hSp.txt.cell 0
    simp only [List.getElem?_toArray, List.getElem?_cons_zero] at s0
    obtain ⟨m0, m1⟩ := hSp.m.facts
    obtain ⟨m2, m3⟩ := hSp.i.facts
    have hsi : (s.size : Int) ≤ 1048576 := by omega
    clear hSp
    go_wp2
    clear s0 m0 m1 m2 m3
    go_loopw [5] (fun ii wr => ∃ i : Nat, i ≤ s.size ∧ ii = .int .i64 (i : Int) ∧ Hid (SpB w s b1 b2 g1 g2 wr) ∧ Hid (∀ k, k < i → slash s k = true → inS s k = true)) (fun ii _ => s.size - (intOf ii).toNat)
    case atStart => exact ⟨0, Nat.zero_le _, rfl, hSp', fun k hk => by omega⟩
    case round =>
      obtain ⟨i, hi, rfl, hL, hbs⟩ := hrel
      have s0 := hL.out.txt.cell 0
      simp only [List.getElem?_toArray, List.getElem?_cons_zero] at s0
      clear hSp'
      by_cases hlt : i < s.size
      · have hli : (i : Int) < (s.size : Int) := by omega
        obtain ⟨x, hx⟩ : ∃ x, s[i].toNat = x := ⟨_, rfl⟩
        have hsl := slash_at s i hlt
        rw [hx] at hsl
        by_cases x92 : x = 92
        · subst x92
          have hsl' : slash s i = true := by rw [hsl]; rfl
          have hM0 : Hid (markS s i = false) := by show _ = _; unfold markS; rw [slash_quo hsl']; rfl
          obtain ⟨I, hI⟩ : ∃ b, Hid (inS s i = b) := ⟨_, rfl⟩
          have hgi := hid (fun (u : World) (h : SpB w s b1 b2 g1 g2 u) => getI (G := inS s) (by omega) (i : Int) (by omega) (by omega) I (by show _ = _; rw [getB_nat hlt, rowOf_bit, decide_eq_true hlt, hI.out]; rfl) (some ⟨g2, 0, none⟩) (need s.size) u h.i.wds)
          have hgm := hid (fun (u : World) (h : SpB w s b1 b2 g1 g2 u) => getI (G := markS s) (by omega) (i : Int) (by omega) (by omega) false (by show _ = _; rw [getB_nat hlt, rowOf_bit, decide_eq_true hlt, hM0.out]; rfl) (some ⟨g1, 0, none⟩) (need s.size) u h.m.wds)
          have hsl2 := hid hsl'
          obtain ⟨m2, m3⟩ := hL.out.i.facts
          clear hsl hsl' hM0
          go_wp2_with fail
          refine Calls.mono (hgi.out _ hL.out) ?_
          rintro e wa ⟨rfl, ha⟩
          have hLa := hid (hL.out.kept ha)
          clear hL ha m2 m3 s0
          cases I with
          | true =>
            go_wp2
            go_roundw
            case rel => exact ⟨i + 1, hlt, by go_num, hLa, fun k hk hs2 => by
              by_cases e : k = i
              · rw [e]; exact hI.out
              · exact hbs.out k (by omega) hs2⟩
            case measure => simp [intOf]; omega
          | false =>
            obtain ⟨m0, m1⟩ := hLa.out.m.facts
            go_wp2_with fail
            refine Calls.mono (hgm.out _ hLa.out) ?_
            rintro e wb ⟨rfl, hb⟩
            have hLb := hid (hLa.out.kept hb)
            have r1 := hLb.out.r
            have c5 := r1.cell 0
            have f5 := r1.frozen 0
            simp only [List.getElem?_toArray, List.getElem?_cons_zero] at c5
            clear hLa hb m0 m1
            have hB2 := hLb.out.b.setCell (p := ⟨w.heap.size + 1, 0, none⟩) (by show w.heap.size ≤ w.heap.size + 1; omega) (.bool true)
            have hc5 := World.cell?_setCell_same' wb ⟨w.heap.size + 1, 0, none⟩ (.bool true) (by rw [c5]; rfl)
            go_wp2
            refine ⟨.bool true, ?_, rfl, hB2⟩
            simp [results, Tryd.f4, go_sem, hc5]
        · have hne : ((x : Int) == 92) = false := by simp; omega
          have hsl' : slash s i = false := by rw [hsl]; exact decide_eq_false x92
          have hsl2 := hid hsl'
          clear hsl hsl' x92
          go_wp2
          go_roundw
          case rel => exact ⟨i + 1, hlt, by go_num, hL, fun k hk hs2 => by
            by_cases e : k = i
            · rw [e, hsl2.out] at hs2; cases hs2
            · exact hbs.out k (by omega) hs2⟩
          case measure => simp [intOf]; omega
      · obtain rfl : i = s.size := by omega
        go_wp2_with fail
        refine Calls.mono (minify8_calls s (by omega) wr (hTb.out _ hL.out.b) (hMb.out _ hL.out.b) (hz.out _ hL.out.b)) ?_
        rintro e wm ⟨rfl, hbm⟩
        obtain ⟨t, ht⟩ : ∃ t, minS s = t := ⟨_, rfl⟩
        have htz : t.size ≤ s.size := by rw [← ht, minS_size]; exact jS_le s s.size
        have htt : Hid (minS t = t) := by show _ = _; rw [← ht]; exact min_twice hbs.out
        have htn : Hid (∀ k, k < t.size → blankS t k = false) := fun k hk => by rw [← ht] at hk ⊢; exact min_none hbs.out k hk
        have htN : Hid ((spansS t).length = (spansS s).length) := by show _ = _; rw [← ht]; exact spans_count hbs.out
        have htb : Hid (∀ r, r ≤ (spansS s).length → btw t r = btw s r) := fun r hr => by rw [← ht]; exact btw_min hbs.out hr
        have hLm := hid (hL.out.kept hbm)
        rw [ht]
        clear hL hbm s0 hbs ht
        have a0 := hid (At.new wm #[.string t] 9)
        have hLn := hid (hLm.out.kept ((Below.refl _ _).alloc (Nat.le_refl _) (.cells #[.string t] 9)))
        go_wp2_with fail
        obtain ⟨bt, hbt⟩ : ∃ b, wm.heap.size = b := ⟨_, rfl⟩
        have hlt0 := hid (show (b1 < bt ∧ b2 < bt ∧ g1 < bt ∧ g2 < bt) ∧ w.heap.size + 1 < bt from hbt ▸ ⟨hLm.out.lt, hLm.out.r.lt⟩)
        obtain ⟨Wn, hWn⟩ : ∃ W, wm.alloc (.cells #[.string t] 9) = W := ⟨_, rfl⟩
        rw [hWn, hbt] at a0 ⊢
        rw [hWn] at hLn
        clear hLm hWn hbt
        rename_i Kw hKw
        refine wp_region_held_only (S := fun W' => SpB w s b1 b2 g1 g2 W' ∧ At W' bt #[.string t] 9) (by kernel_rfl) ⟨hLn.out.kept (Below.refl _ _).drew, a0.out.drew⟩ (fun hHeld => ?_)
        obtain ⟨v0, hv0⟩ : ∃ v, World.drew Wn = v := ⟨_, rfl⟩
        rw [hv0] at hHeld ⊢
        clear hv0 hLn a0
        (refine' wpAnyH_take (i := 0) (v := .string t) rfl (by kernel_rfl) (by kernel_rfl) (by kernel_rfl) (fun _ _ _ h => h) (Or.inl ⟨by rfl, ?_⟩) hHeld ?_; (· (intro wq hq; have c0 := hq.2.cell 0; simp only [List.getElem?_toArray, List.getElem?_cons_zero] at c0; go_simp; first | done | with_reducible rfl)); simp only [Act.put, List.getElem_toArray, List.getElem_cons_zero, List.setIfInBounds_toArray, List.set_cons_zero, List.set_cons_succ])
        (refine' wpAnyH_take (i := 2) (v := .string t) rfl (by kernel_rfl) (by kernel_rfl) (by kernel_rfl) (fun _ _ _ h => h) (Or.inl ⟨by rfl, ?_⟩) hHeld ?_; (· (intro wq hq; have c0 := hq.2.cell 0; simp only [List.getElem?_toArray, List.getElem?_cons_zero] at c0; go_simp; first | done | with_reducible rfl)); simp only [Act.put, List.getElem_toArray, List.getElem_cons_zero, List.getElem_cons_succ, List.setIfInBounds_toArray, List.set_cons_zero, List.set_cons_succ])
        refine wpAnyH_ready (rs := [1]) (by kernel_rfl) (by simp) ?_
        refine AllReadyH.cons rfl (fun K hK => ?_) ?_
        · rw [if_pos (by rfl)]
          go_simp
          refine (minify8_calls t (by omega) v0 (hTb.out _ hHeld.1.b) (hMb.out _ hHeld.1.b) (hz.out _ hHeld.1.b)).mono ?_
          rintro e v1 ⟨rfl, hb1⟩
          have hH1 : SpB w s b1 b2 g1 g2 v1 ∧ At v1 bt #[.string t] 9 := ⟨hHeld.1.kept hb1, hHeld.2.keptAll hb1⟩
          refine hK.out _ _ hH1 (fun _ => ?_)
          rw [htt.out]
          clear hK K hHeld hb1
          have hHeld := hH1
          (refine' wpAnyH_take (i := 3) (v := .bool false) rfl (by kernel_rfl) (by kernel_rfl) (by kernel_rfl) (fun _ _ _ h => h) (Or.inl ⟨by rfl, ?_⟩) hHeld ?_; (· (intro wq hq; go_simp; first | done | with_reducible rfl)); simp only [Act.put, List.getElem_toArray, List.getElem_cons_zero, List.getElem_cons_succ, List.setIfInBounds_toArray, List.set_cons_zero, List.set_cons_succ])
          (refine' wpAnyH_take (i := 4) (v := .bool false) rfl (by kernel_rfl) (by kernel_rfl) (by kernel_rfl) (fun _ _ _ h => h) (Or.inl ⟨by rfl, ?_⟩) hHeld ?_; (· (intro wq hq; go_simp; first | done | with_reducible rfl)); simp only [Act.put, List.getElem_toArray, List.getElem_cons_zero, List.getElem_cons_succ, List.setIfInBounds_toArray, List.set_cons_zero, List.set_cons_succ])
          (refine' wpAnyH_take (i := 5) (v := .string t) rfl (by kernel_rfl) (by kernel_rfl) (by kernel_rfl) (fun _ _ _ h => h) (Or.inl ⟨by rfl, ?_⟩) hHeld ?_; (· (intro wq hq; have c0 := hq.2.cell 0; simp only [List.getElem?_toArray, List.getElem?_cons_zero] at c0; go_simp; first | done | with_reducible rfl)); simp only [Act.put, List.getElem_toArray, List.getElem_cons_zero, List.getElem_cons_succ, List.setIfInBounds_toArray, List.set_cons_zero, List.set_cons_succ])
          refine wpAnyH_ready (rs := [6]) (by kernel_rfl) (by simp) ?_
          refine AllReadyH.cons rfl (fun K hK => ?_) ?_
          · rw [if_pos (by rfl)]
            go_simp
            refine (blanks8_calls t (by omega) v1 (hTb.out _ hH1.1.b) (hMb.out _ hH1.1.b) (hz.out _ hH1.1.b)).mono ?_
            rintro e v2 ⟨gt, -, rfl, hAt, hb2⟩
            have hH2 : SpB w s b1 b2 g1 g2 v2 ∧ At v2 bt #[.string t] 9 := ⟨hH1.1.kept hb2, hH1.2.keptAll hb2⟩
            refine hK.out _ _ hH2 (fun _ => ?_)
            clear hK K hHeld hH1 hb2
            refine wpAnyH_ready (rs := [7]) (by kernel_rfl) (by simp) ?_
            refine AllReadyH.cons rfl (fun K hK => ?_) ?_
            · rw [if_pos (by rfl)]
              go_simp
              refine (next6 (G := blankS t) (by omega) 0 (by omega) (-1) (.inr ⟨rfl, fun p _ hp => by rw [rowOf_bit, htn.out p hp]; simp⟩) gt v2 (hTb.out _ hH2.1.b) (by have := hz.out _ hH2.1.b; omega) hAt).mono ?_
              rintro e v3 ⟨rfl, hb3⟩
              have hH3 : SpB w s b1 b2 g1 g2 v3 ∧ At v3 bt #[.string t] 9 := ⟨hH2.1.kept hb3, hH2.2.keptAll hb3⟩
              refine hK.out _ _ hH3 (fun _ => ?_)
              clear hK K hH2 hb3 hAt
              have hHeld := hH3
              (refine' wpAnyH_take (i := 8) (v := .bool false) rfl (by kernel_rfl) (by kernel_rfl) (by kernel_rfl) (fun _ _ _ h => h) (Or.inl ⟨by rfl, ?_⟩) hHeld ?_; (· (intro wq hq; go_simp; first | done | with_reducible rfl)); simp only [Act.put, List.getElem_toArray, List.getElem_cons_zero, List.getElem_cons_succ, List.setIfInBounds_toArray, List.set_cons_zero, List.set_cons_succ])
              (refine' wpAnyH_take (i := 9) (v := .bool false) rfl (by kernel_rfl) (by kernel_rfl) (by kernel_rfl) (fun _ _ _ h => h) (Or.inl ⟨by rfl, ?_⟩) hHeld ?_; (· (intro wq hq; go_simp; first | done | with_reducible rfl)); simp only [Act.put, List.getElem_toArray, List.getElem_cons_zero, List.getElem_cons_succ, List.setIfInBounds_toArray, List.set_cons_zero, List.set_cons_succ])
              refine wpAnyH_done (by kernel_rfl) ?_ _
              refine hKw _ _ ?_
              clear hKw
              have hS3 := hid hHeld
              clear hHeld hH3
              have s0 := ((hS3.out.1.txt.alloc (.cells #[.slice none 0 0] 44)).alloc (.cells #[.slice none 0 0] 44)).cell 0
              simp only [List.getElem?_toArray, List.getElem?_cons_zero] at s0
              go_wp2_with fail
              clear s0
              obtain ⟨ba, hba⟩ : ∃ b, v3.heap.size = b := ⟨_, rfl⟩
              obtain ⟨Y, hY⟩ : ∃ Y, (v3.alloc (.cells #[.slice none 0 0] 44)).alloc (.cells #[.slice none 0 0] 44) = Y := ⟨_, rfl⟩
              have bY : Below v3.heap.size v3 Y := by rw [← hY]; repeat (first | with_reducible exact Below.refl _ _ | with_reducible refine Below.setCell ?_ (by first | (simp; done) | (simp; omega)) _ | with_reducible refine below_drewN ?_ _ | with_reducible refine Below.alloc ?_ (by first | (simp; done) | (simp; omega)) _ | with_reducible refine Below.drew ?_)
              have aY : At Y ba #[.slice none 0 0] 44 := by rw [← hY, ← hba]; exact (At.new v3 _ _).alloc _
              have cY : At Y (ba + 1) #[.slice none 0 0] 44 := by
                rw [← hY, ← hba]
                have h := At.new (v3.alloc (.cells #[.slice none 0 0] 44)) #[.slice none 0 0] 44
                simpa using h
              have pY := hS3.out.1.kept bY
              have tY := hS3.out.2.keptAll bY
              have htba : bt < ba := hba ▸ hS3.out.2.lt
              rw [hY, hba]
              refine Calls.mono (textsQ_calls s (by omega) Y (hTb.out _ pY.b) (by have := hz.out _ pY.b; omega)) ?_
              rintro e W0 ⟨bm, bs, g, hbm, hbs, hgg, rfl, hX, hb0⟩
              have hQ0 := hid (show SpB w s b1 b2 g1 g2 W0 ∧ At W0 bt #[.string t] 9 ∧ At W0 ba #[.slice none 0 0] 44 ∧ At W0 (ba + 1) #[.slice none 0 0] 44 from ⟨pY.kept hb0, tY.keptAll hb0, aY.keptAll hb0, cY.keptAll hb0⟩)
              have hX' := hid hX
              have hlo := hid (show ba + 1 < bm ∧ ba + 1 < bs ∧ ba + 1 < g from ⟨Nat.lt_of_lt_of_le cY.lt hbm, Nat.lt_of_lt_of_le cY.lt hbs, Nat.lt_of_lt_of_le cY.lt hgg⟩)
              clear hba hY bY aY cY pY tY hb0 hX hbm hbs hgg hS3
              go_wp2_with fail
              have hQ := hQ0.out
              have B0 := hQ.1.b
              have lbs := hX'.out.1.lt
              have z0 := hz.out _ B0
              have hI0 : TwI w s t b1 b2 g1 g2 bt ba W0.heap.size (ba + 1) W0.heap.size (.slice none 0 0) [] [] (btw s) 0 W0 := ⟨hQ.1, hQ.2.1, GathT.nil hQ.2.2.1, ⟨hQ.2.2.2, ⟨rfl, .inl ⟨rfl, rfl⟩⟩, fun gg h => by cases h⟩, (fun d hd => by cases hd), Nat.le_refl _⟩
              have lq := hQ.2.2.2.lt
              have lo1 := hlo.out
              have lt1 := hlt0.out
              refine (wpIn_wide (n := 3)).1 ?_
              refine range_tell (n := 3) (by decide) (gf := 40) (lb := #[.pointer (some ⟨bm, 0, none⟩), .pointer (some ⟨bs, 0, none⟩)]) rfl (enters_of Tryd.func40 (by kernel_rfl) rfl)
                (texts_tell (3 - 1) bm bs g s (by omega) W0 hX'.out (hTb.out _ B0) (by omega)) (Below.refl _ _) (fun _ => rfl) KeepT.trans (keepT_l (w := W0) (by omega))
                (TwI w s t b1 b2 g1 g2 bt ba W0.heap.size (ba + 1) W0.heap.size (.slice none 0 0) [] [] (btw s)) (fun _ _ _ => False) (twI_own B0.size (by simp)) (fun _ _ _ _ _ h _ _ => h) hI0
                (TwA (ba + 1) s (fun gx A C => { tmps := #[Value.string s, Value.pointer (some ⟨w.heap.size, 0, none⟩), Value.pointer (some ⟨w.heap.size + 1, 0, none⟩), Value.pointer (some ⟨b1, 0, none⟩), Value.pointer (some ⟨b2, 0, none⟩), Value.int .i64 (s.size : Int), Value.pointer (some ⟨bt, 0, none⟩), Value.pointer (some ⟨ba, 0, none⟩), Value.pointer (some ⟨ba + 1, 0, none⟩), Value.func (.func 40) #[] #[Value.pointer (some ⟨bm, 0, none⟩), Value.pointer (some ⟨bs, 0, none⟩)], .pointer (some ⟨gx, 0, none⟩), undef, undef, Value.bool true, Value.bool false, u15, u16, u17, u18, Value.pointer (some ⟨b1, 0, none⟩), Value.int .i64 (s.size : Int), Value.string s, Value.int .i64 (s.size : Int), Value.bool false, Value.bool false, Value.pointer (some ⟨b2, 0, none⟩), Value.int .i64 (s.size : Int), Value.string s, Value.int .i64 (s.size : Int), Value.bool false, Value.bool false, Value.int .i64 (s.size : Int), Value.string s, Value.int .i64 (s.size : Int), Value.bool false, u35, u36, u37, u38, u39, u40, u41, u42, u43, u44, u45, u46, u47, u48, u49, u50, u51, u52, Value.string s, Value.string t, Value.string t, Value.string t, Value.string t, Value.bool false, Value.bool false, Value.string t, Value.agg #[Value.int .i64 (t.size : Int), Value.slice (some ⟨gt, 0, none⟩) (need t.size) (need t.size)], Value.int .i64 (-1), Value.bool false, Value.bool false, Value.string s, Value.func (.func 40) #[] #[Value.pointer (some ⟨bm, 0, none⟩), Value.pointer (some ⟨bs, 0, none⟩)], Value.func (.func 40) #[] #[Value.pointer (some ⟨bm, 0, none⟩), Value.pointer (some ⟨bs, 0, none⟩)], Value.bool false, Value.func (.func 40) #[] #[Value.pointer (some ⟨bm, 0, none⟩), Value.pointer (some ⟨bs, 0, none⟩)], .agg #[.int .i64 (A : Int), .int .i64 (C : Int)], undef, undef, undef, undef, undef, undef, undef, undef, undef, undef, undef, undef, undef, undef, undef, undef, undef, undef, undef, undef, undef, undef, undef, undef, undef, undef, undef, undef, undef, undef, undef, undef, undef, undef, undef, undef, undef, undef, undef, undef, undef, undef, undef, undef, undef, undef, undef, undef, undef, undef, undef, undef, undef, undef, undef, undef, undef, undef, undef, undef, undef], defers := [] })) (fun x a' => twA_own x a') ?assign ?body ?done ?stop
              case assign =>
                intro l x W KK hx hI hKK
                obtain ⟨⟨A, C⟩, hAC⟩ : ∃ y, Hid (spn s x = y) := ⟨_, rfl⟩
                rw [encT, hAC.out]
                have hb : Below W.heap.size W (W.alloc (.cells #[.int .i64 (A : Int), .int .i64 (C : Int)] 34)) := by repeat (first | with_reducible exact Below.refl _ _ | with_reducible refine Below.setCell ?_ (by first | (simp; done) | (simp; omega)) _ | with_reducible refine below_drewN ?_ _ | with_reducible refine Below.alloc ?_ (by first | (simp; done) | (simp; omega)) _ | with_reducible refine Below.drew ?_)
                have hgt : ba + 1 < W.heap.size := by exact hI.2.2.2.1.1.lt
                have hK2 := fun a' => hKK a' _ ((keeps_below hb).from _) (KeepT.of_below hb) (twI_kept hI hb)
                clear hKK hI hb
                gi_wp2
                exact ⟨W.heap.size, A, C, hAC, hgt, At.new W _ _, rfl⟩
              case body =>
                rintro l r a' W hll ⟨rec, hrec⟩ hlt hI ⟨gx, A, C, hAC, hgx, hAt, rfl⟩
                have hok := spn_ok hlt
                rw [hAC.out] at hok
                have hA1 : A ≤ C := hok.1
                have hA2 : C ≤ s.size := hok.2
                obtain ⟨p, hp⟩ : ∃ p, s.extract A C = p := ⟨_, rfl⟩
                have hLr : Hid (btw s (r + 1) = btw s r ++ [p]) := by show _ = _; rw [btw_succ, hAC.out, ← hp]
                have hNr := hid (show r < 2000000 by have := spansS_len s; omega)
                obtain ⟨Wd, hWd⟩ : ∃ V, World.drew W = V := ⟨_, rfl⟩
                have hbd := hid (show Below W.heap.size W Wd from hWd ▸ (Below.refl _ W).drew)
                have hId := hid (twI_kept hI hbd.out)
                obtain ⟨v, hv, hrow⟩ := hId.out.2.2.1
                have hTx := hId.out.1.txt
                have hAx := hAt.keptAll hbd.out
                have n1 : decide ((C : Int) < (A : Int)) = false := by rw [decide_eq_false]; omega
                have n1' : decide (C < A) = false := by simp; omega
                have n2 : decide ((s.size : Int) < (C : Int)) = false := by rw [decide_eq_false]; omega
                have n2' : decide (s.size < C) = false := by simp; omega
                have i1 : (A : Int) ≤ (C : Int) := by omega
                have i2 : (C : Int) ≤ (s.size : Int) := by omega
                have x0 := hAt.cell 0
                have x1 := hAt.cell 1
                have cs := hI.1.txt.cell 0
                simp only [List.getElem?_toArray, List.getElem?_cons_zero, List.getElem?_cons_succ] at x0 x1 cs
                have hs0 := hid (show Wd.cell? ⟨w.heap.size, 0, none⟩ = some (.string s) ∧ Wd.cell? ⟨gx, 0, none⟩ = some (.int .i64 (A : Int)) ∧ Wd.cell? ⟨gx, 1, none⟩ = some (.int .i64 (C : Int)) from ⟨hTx.cell 0, hAx.cell 0, hAx.cell 1⟩)
                have hs1 := hid (show (Wd.alloc (.cells #[.string p] 9)).cell? ⟨w.heap.size, 0, none⟩ = some (.string s) ∧ (Wd.alloc (.cells #[.string p] 9)).cell? ⟨gx, 0, none⟩ = some (.int .i64 (A : Int)) ∧ (Wd.alloc (.cells #[.string p] 9)).cell? ⟨gx, 1, none⟩ = some (.int .i64 (C : Int)) from ⟨(hTx.alloc _).cell 0, (hAx.alloc _).cell 0, (hAx.alloc _).cell 1⟩)
                have vc := hv.cell 0
                have vd := (hv.alloc (.cells #[.string p] 9)).cell 0
                simp only [List.getElem?_toArray, List.getElem?_cons_zero] at vc vd
                clear hAC hok hI hAt hI0
                gi_wp2_with fail
                refine wpIn_region_round (S := fun w' => w'.cell? ⟨w.heap.size, 0, none⟩ = some (.string s) ∧ w'.cell? ⟨gx, 0, none⟩ = some (.int .i64 (A : Int)) ∧ w'.cell? ⟨gx, 1, none⟩ = some (.int .i64 (C : Int))) (by kernel_rfl) (by kernel_rfl) (fun _ _ h => h) (by rw [hWd]; exact hs0.out) (fun hHeld => ?_)
                rw [hWd] at hHeld ⊢
                clear x0 x1 cs
                (refine' wpAnyH_take (i := 1) rfl (by kernel_rfl) (by kernel_rfl) (by kernel_rfl) (fun _ _ _ h => h) (Or.inl ⟨by rfl, ?_⟩) (by assumption) ?_; rotate_left; (· (intro wq hq; (try dsimp only at hq); go_simp; first | done | with_reducible rfl)); simp only [Act.put, List.getElem_toArray, List.getElem_cons_zero, List.getElem_cons_succ, List.setIfInBounds_toArray, List.set_cons_zero, List.set_cons_succ])
                (refine' wpAnyH_take (i := 2) rfl (by kernel_rfl) (by kernel_rfl) (by kernel_rfl) (fun _ _ _ h => h) (Or.inl ⟨by rfl, ?_⟩) (by assumption) ?_; rotate_left; (· (intro wq hq; (try dsimp only at hq); go_simp; first | done | with_reducible rfl)); simp only [Act.put, List.getElem_toArray, List.getElem_cons_zero, List.getElem_cons_succ, List.setIfInBounds_toArray, List.set_cons_zero, List.set_cons_succ])
                (refine' wpAnyH_take (i := 3) rfl (by kernel_rfl) (by kernel_rfl) (by kernel_rfl) (fun _ _ _ h => h) (Or.inl ⟨by rfl, ?_⟩) (by assumption) ?_; rotate_left; (· (intro wq hq; (try dsimp only at hq); go_simp; first | done | with_reducible rfl)); simp only [Act.put, List.getElem_toArray, List.getElem_cons_zero, List.getElem_cons_succ, List.setIfInBounds_toArray, List.set_cons_zero, List.set_cons_succ])
                (refine' wpAnyH_take (i := 4) rfl (by kernel_rfl) (by kernel_rfl) (by kernel_rfl) (fun _ _ _ h => h) (Or.inl ⟨by rfl, ?_⟩) (by assumption) ?_; rotate_left; (· (intro wq hq; (try dsimp only at hq); go_simp; first | done | with_reducible rfl)); simp only [Act.put, List.getElem_toArray, List.getElem_cons_zero, List.getElem_cons_succ, List.setIfInBounds_toArray, List.set_cons_zero, List.set_cons_succ])
                (refine' wpAnyH_take (i := 5) rfl (by kernel_rfl) (by kernel_rfl) (by kernel_rfl) (fun _ _ _ h => h) (Or.inl ⟨by rfl, ?_⟩) (by assumption) ?_; rotate_left; (· (intro wq hq; (try dsimp only at hq); go_simp; first | done | with_reducible rfl)); simp only [Act.put, List.getElem_toArray, List.getElem_cons_zero, List.getElem_cons_succ, List.setIfInBounds_toArray, List.set_cons_zero, List.set_cons_succ])
                (refine' wpAnyH_take (i := 6) rfl (by kernel_rfl) (by kernel_rfl) (by kernel_rfl) (fun _ _ _ h => h) (Or.inl ⟨by rfl, ?_⟩) (by assumption) ?_; rotate_left; (· (intro wq hq; (try dsimp only at hq); go_simp; first | done | with_reducible rfl)); simp only [Act.put, List.getElem_toArray, List.getElem_cons_zero, List.getElem_cons_succ, List.setIfInBounds_toArray, List.set_cons_zero, List.set_cons_succ])
                refine wpAnyH_ready (rs := [0, 7]) (by kernel_rfl) (by simp) ?_
                refine AllReadyH.cons rfl (fun K hK => ?_) ?_
                · go_simp
                  refine hK.out _ _ hs0.out (fun _ => ?_)
                  clear hK K
                  refine wpAnyH_ready (rs := [7]) (by kernel_rfl) (by simp) ?_
                  refine AllReadyH.cons rfl (fun K hK => ?_) ?_
                  · go_simp
                    refine hK.out _ _ hs1.out (fun _ => ?_)
                    clear hK K
                    refine wpAnyH_ready (rs := [8]) (by kernel_rfl) (by simp) ?_
                    refine AllReadyH.cons rfl (fun K hK => ?_) ?_
                    · rw [if_pos (by rfl)]
                      refine wp_gatherT (W := Wd) (v := v) (L := btw s r) (p := p) rfl rfl rfl hrow (by have := hNr.out; rw [btw_len]; omega) hId.out.2.2.2.2.2 ?_
                      intro g' cap w2 hown' hgr
                      obtain ⟨u1, u2, u3, u4, u5⟩ := twI_push (bm := bm) (bs := bs) (g := g) (s' := s) hId.out hv hrow (by omega) (by omega) (by omega) (by omega) (by omega) (by omega) hLr.out (by simp) hown' hgr (by omega)
                      have y1 := u5 _ _ _ hTx (by omega) (.inr (by omega))
                      have y2 := u5 _ _ _ hAx (by omega) (.inl (by decide))
                      have c1 := u4.cell 0
                      have f1 := u4.frozen 0
                      simp only [List.getElem?_toArray, List.getElem?_cons_zero] at c1
                      refine hK.out _ _ ⟨y1.1.cell 0, y2.1.cell 0, y2.1.cell 1⟩ (fun _ => ?_)
                      clear hK K
                      refine wpAnyH_ready (rs := [9]) (by kernel_rfl) (by simp) ?_
                      refine AllReadyH.cons rfl (fun K hK => ?_) ?_
                      · go_simp
                        refine hK.out _ _ ⟨y1.2.cell 0, y2.2.cell 0, y2.2.cell 1⟩ (fun _ => ?_)
                        clear hK K
                        refine wpAnyH_done (by kernel_rfl) ?_ _
                        have hfin := hid (show KeepsFrom W0.heap.size W _ ∧ KeepT s bm bs g W _ ∧ _ from ⟨((keeps_below hbd.out).trans u1).from _, (KeepT.of_below hbd.out).trans u2, u3⟩)
                        clear u1 u2 u3 u4 u5 y1 y2 c1 f1 hown' hgr
                        exact hfin.out
                      exact AllReadyH.nil
                    exact AllReadyH.nil
                  exact AllReadyH.nil
                refine AllReadyH.cons rfl (fun K hK => ?_) ?_
                · go_simp
                  refine hK.out _ _ hs1.out (fun _ => ?_)
                  clear hK K
                  refine wpAnyH_ready (rs := [0]) (by kernel_rfl) (by simp) ?_
                  refine AllReadyH.cons rfl (fun K hK => ?_) ?_
                  · go_simp
                    refine hK.out _ _ hs1.out (fun _ => ?_)
                    clear hK K
                    refine wpAnyH_ready (rs := [8]) (by kernel_rfl) (by simp) ?_
                    refine AllReadyH.cons rfl (fun K hK => ?_) ?_
                    · rw [if_pos (by rfl)]
                      refine wp_gatherT (W := Wd) (v := v) (L := btw s r) (p := p) rfl rfl rfl hrow (by have := hNr.out; rw [btw_len]; omega) hId.out.2.2.2.2.2 ?_
                      intro g' cap w2 hown' hgr
                      obtain ⟨u1, u2, u3, u4, u5⟩ := twI_push (bm := bm) (bs := bs) (g := g) (s' := s) hId.out hv hrow (by omega) (by omega) (by omega) (by omega) (by omega) (by omega) hLr.out (by simp) hown' hgr (by omega)
                      have y1 := u5 _ _ _ hTx (by omega) (.inr (by omega))
                      have y2 := u5 _ _ _ hAx (by omega) (.inl (by decide))
                      have c1 := u4.cell 0
                      have f1 := u4.frozen 0
                      simp only [List.getElem?_toArray, List.getElem?_cons_zero] at c1
                      refine hK.out _ _ ⟨y1.1.cell 0, y2.1.cell 0, y2.1.cell 1⟩ (fun _ => ?_)
                      clear hK K
                      refine wpAnyH_ready (rs := [9]) (by kernel_rfl) (by simp) ?_
                      refine AllReadyH.cons rfl (fun K hK => ?_) ?_
                      · go_simp
                        refine hK.out _ _ ⟨y1.2.cell 0, y2.2.cell 0, y2.2.cell 1⟩ (fun _ => ?_)
                        clear hK K
                        refine wpAnyH_done (by kernel_rfl) ?_ _
                        have hfin := hid (show KeepsFrom W0.heap.size W _ ∧ KeepT s bm bs g W _ ∧ _ from ⟨((keeps_below hbd.out).trans u1).from _, (KeepT.of_below hbd.out).trans u2, u3⟩)
                        clear u1 u2 u3 u4 u5 y1 y2 c1 f1 hown' hgr
                        exact hfin.out
                      exact AllReadyH.nil
                    exact AllReadyH.nil
                  exact AllReadyH.nil
                exact AllReadyH.nil
              case stop =>
                rintro D c r W _ _ h _
                exact h.elim
              case done =>
                rintro D W hD hI hKD
                have hI' := hid hI
                have hKD' := hid hKD
                rename_i Ky hKy
                have c0 := hI.2.1.cell 0
                simp only [List.getElem?_toArray, List.getElem?_cons_zero] at c0
                clear hI hKD hI0 hQ hQ0
                refine hKy _ _ ?_
                clear hKy
                go_wp2_with fail
                clear c0
                refine Calls.mono (textsQ_calls t (by omega) W (hTb.out _ hI'.out.1.b) (by have := hz.out _ hI'.out.1.b; omega)) ?_
                rintro e W2 ⟨bm2, bs2, gg2, hbm2, hbs2, hgg2, rfl, hXt, hb2⟩
                obtain ⟨va, hva, hra⟩ := hI'.out.2.2.1
                have hR0 := hid (show SpB w s b1 b2 g1 g2 W2 ∧ At W2 bt #[.string t] 9 ∧ At W2 ba #[va] 44 ∧ W2.ownsRow W0.heap.size 9 1 va (btw s (spansS s).length).length (strs8 (btw s (spansS s).length)) ∧ At W2 (ba + 1) #[.slice none 0 0] 44 ∧ W2.heap[D]? = some (.deferred (some [])) from ⟨hI'.out.1.kept hb2, hI'.out.2.1.keptAll hb2, hva.keptAll hb2, row_keptAll hra hb2, hI'.out.2.2.2.1.1.keptAll hb2, (hb2.block D (Array.getElem?_eq_some_iff.1 hKD'.out).1).trans hKD'.out⟩)
                have hX2 := hid hXt
                have hlo2 := hid (show W.heap.size ≤ bm2 ∧ W.heap.size ≤ bs2 ∧ W.heap.size ≤ gg2 from ⟨hbm2, hbs2, hgg2⟩)
                have hWz := hid (show ba + 1 < W.heap.size ∧ W0.heap.size ≤ W.heap.size ∧ D < W.heap.size from ⟨hI'.out.2.2.2.1.1.lt, hI'.out.2.2.2.2.2, (Array.getElem?_eq_some_iff.1 hKD'.out).1⟩)
                have hWb := hid (show w.heap.size + 1 < W0.heap.size by omega)
                have hDb := hid (show W0.heap.size ≤ D from hD)
                clear hI' hKD' hXt hb2 hva hra hbm2 hbs2 hgg2 hD B0 z0 lbs hX'
                go_wp2_with fail
                have hQ := hR0.out
                have B0 := hQ.1.b
                have lbs := hX2.out.1.lt
                have z0 := hz.out _ B0
                have hI0 : TwI w s t b1 b2 g1 g2 bt (ba + 1) W2.heap.size ba W0.heap.size va (btw s (spansS s).length) [D] (btw t) 0 W2 := ⟨hQ.1, hQ.2.1, GathT.nil hQ.2.2.2.2.1, ⟨hQ.2.2.1, hQ.2.2.2.1, fun gg h => (hQ.2.2.2.1.lt gg h).2⟩, (fun d hd => by (obtain rfl : d = D := by simpa using hd); exact hQ.2.2.2.2.2), Nat.le_refl _⟩
                have lq := hQ.2.2.2.2.1.lt
                have ltd := (Array.getElem?_eq_some_iff.1 hQ.2.2.2.2.2).1
                have lo2 := hlo2.out
                have lw2 := hWz.out
                have hWbo := hWb.out
                have hDbo := hDb.out
                have lt1 := hlt0.out
                have hR2 := hid (show D < W2.heap.size from ltd)
                refine (wpIn_wide (n := 3)).1 ?_
                refine range_tell (n := 3) (by decide) (gf := 40) (lb := #[.pointer (some ⟨bm2, 0, none⟩), .pointer (some ⟨bs2, 0, none⟩)]) rfl (enters_of Tryd.func40 (by kernel_rfl) rfl)
                  (texts_tell (3 - 1) bm2 bs2 gg2 t (by omega) W2 hX2.out (hTb.out _ B0) (by omega)) (Below.refl _ _) (fun _ => rfl) KeepT.trans (keepT_l (w := W2) (by omega))
                  (TwI w s t b1 b2 g1 g2 bt (ba + 1) W2.heap.size ba W0.heap.size va (btw s (spansS s).length) [D] (btw t)) (fun _ _ _ => False) (twI_own B0.size (fun d hd => by (obtain rfl : d = D := by simpa using hd); exact ltd)) (fun _ _ _ _ _ h _ _ => h) hI0
                  (TwA (ba + 1) t (fun gx A C => { tmps := #[Value.string s, Value.pointer (some ⟨w.heap.size, 0, none⟩), Value.pointer (some ⟨w.heap.size + 1, 0, none⟩), Value.pointer (some ⟨b1, 0, none⟩), Value.pointer (some ⟨b2, 0, none⟩), Value.int .i64 (s.size : Int), Value.pointer (some ⟨bt, 0, none⟩), Value.pointer (some ⟨ba, 0, none⟩), Value.pointer (some ⟨ba + 1, 0, none⟩), Value.func (.func 40) #[] #[Value.pointer (some ⟨bm, 0, none⟩), Value.pointer (some ⟨bs, 0, none⟩)], undef, Value.func (.func 40) #[] #[Value.pointer (some ⟨bm2, 0, none⟩), Value.pointer (some ⟨bs2, 0, none⟩)], .pointer (some ⟨gx, 0, none⟩), Value.bool true, Value.bool false, u15, u16, u17, u18, Value.pointer (some ⟨b1, 0, none⟩), Value.int .i64 (s.size : Int), Value.string s, Value.int .i64 (s.size : Int), Value.bool false, Value.bool false, Value.pointer (some ⟨b2, 0, none⟩), Value.int .i64 (s.size : Int), Value.string s, Value.int .i64 (s.size : Int), Value.bool false, Value.bool false, Value.int .i64 (s.size : Int), Value.string s, Value.int .i64 (s.size : Int), Value.bool false, u35, u36, u37, u38, u39, u40, u41, u42, u43, u44, u45, u46, u47, u48, u49, u50, u51, u52, Value.string s, Value.string t, Value.string t, Value.string t, Value.string t, Value.bool false, Value.bool false, Value.string t, Value.agg #[Value.int .i64 (t.size : Int), Value.slice (some ⟨gt, 0, none⟩) (need t.size) (need t.size)], Value.int .i64 (-1), Value.bool false, Value.bool false, Value.string s, Value.func (.func 40) #[] #[Value.pointer (some ⟨bm, 0, none⟩), Value.pointer (some ⟨bs, 0, none⟩)], Value.func (.func 40) #[] #[Value.pointer (some ⟨bm, 0, none⟩), Value.pointer (some ⟨bs, 0, none⟩)], Value.bool false, Value.func (.func 40) #[] #[Value.pointer (some ⟨bm, 0, none⟩), Value.pointer (some ⟨bs, 0, none⟩)], undef, undef, undef, undef, undef, undef, undef, undef, undef, undef, undef, undef, undef, undef, undef, undef, undef, undef, undef, undef, undef, undef, undef, undef, undef, undef, undef, Value.string t, Value.func (.func 40) #[] #[Value.pointer (some ⟨bm2, 0, none⟩), Value.pointer (some ⟨bs2, 0, none⟩)], Value.func (.func 40) #[] #[Value.pointer (some ⟨bm2, 0, none⟩), Value.pointer (some ⟨bs2, 0, none⟩)], Value.bool false, Value.func (.func 40) #[] #[Value.pointer (some ⟨bm2, 0, none⟩), Value.pointer (some ⟨bs2, 0, none⟩)], .agg #[.int .i64 (A : Int), .int .i64 (C : Int)], undef, undef, undef, undef, undef, undef, undef, undef, undef, undef, undef, undef, undef, undef, undef, undef, undef, undef, undef, undef, undef, undef, undef, undef, undef, undef, undef, undef, undef], defers := [] })) (fun x a' => twA_own x a') ?assign ?body ?done ?stop
                case assign =>
                  intro l x W KK hx hI hKK
                  obtain ⟨⟨A, C⟩, hAC⟩ : ∃ y, Hid (spn t x = y) := ⟨_, rfl⟩
                  rw [encT, hAC.out]
                  have hb : Below W.heap.size W (W.alloc (.cells #[.int .i64 (A : Int), .int .i64 (C : Int)] 34)) := by repeat (first | with_reducible exact Below.refl _ _ | with_reducible refine Below.setCell ?_ (by first | (simp; done) | (simp; omega)) _ | with_reducible refine below_drewN ?_ _ | with_reducible refine Below.alloc ?_ (by first | (simp; done) | (simp; omega)) _ | with_reducible refine Below.drew ?_)
                  have hgt : ba + 1 < W.heap.size := by obtain ⟨v, h1, -⟩ := hI.2.2.1; exact h1.lt
                  have hK2 := fun a' => hKK a' _ ((keeps_below hb).from _) (KeepT.of_below hb) (twI_kept hI hb)
                  clear hKK hI hb
                  gi_wp2
                  exact ⟨W.heap.size, A, C, hAC, hgt, At.new W _ _, rfl⟩
                case body =>
                  rintro l r a' W hll ⟨rec, hrec⟩ hlt hI ⟨gx, A, C, hAC, hgx, hAt, rfl⟩
                  have hok := spn_ok hlt
                  rw [hAC.out] at hok
                  have hA1 : A ≤ C := hok.1
                  have hA2 : C ≤ t.size := hok.2
                  obtain ⟨p, hp⟩ : ∃ p, t.extract A C = p := ⟨_, rfl⟩
                  have hLr : Hid (btw t (r + 1) = btw t r ++ [p]) := by show _ = _; rw [btw_succ, hAC.out, ← hp]
                  have hNr := hid (show r < 2000000 by have := spansS_len t; omega)
                  obtain ⟨Wd, hWd⟩ : ∃ V, World.drew W = V := ⟨_, rfl⟩
                  have hbd := hid (show Below W.heap.size W Wd from hWd ▸ (Below.refl _ W).drew)
                  have hId := hid (twI_kept hI hbd.out)
                  obtain ⟨v, hv, hrow⟩ := hId.out.2.2.1
                  have hTx := hId.out.2.1
                  have hAx := hAt.keptAll hbd.out
                  have n1 : decide ((C : Int) < (A : Int)) = false := by rw [decide_eq_false]; omega
                  have n1' : decide (C < A) = false := by simp; omega
                  have n2 : decide ((t.size : Int) < (C : Int)) = false := by rw [decide_eq_false]; omega
                  have n2' : decide (t.size < C) = false := by simp; omega
                  have i1 : (A : Int) ≤ (C : Int) := by omega
                  have i2 : (C : Int) ≤ (t.size : Int) := by omega
                  have x0 := hAt.cell 0
                  have x1 := hAt.cell 1
                  have cs := hI.2.1.cell 0
                  simp only [List.getElem?_toArray, List.getElem?_cons_zero, List.getElem?_cons_succ] at x0 x1 cs
                  have hs0 := hid (show Wd.cell? ⟨bt, 0, none⟩ = some (.string t) ∧ Wd.cell? ⟨gx, 0, none⟩ = some (.int .i64 (A : Int)) ∧ Wd.cell? ⟨gx, 1, none⟩ = some (.int .i64 (C : Int)) from ⟨hTx.cell 0, hAx.cell 0, hAx.cell 1⟩)
                  have hs1 := hid (show (Wd.alloc (.cells #[.string p] 9)).cell? ⟨bt, 0, none⟩ = some (.string t) ∧ (Wd.alloc (.cells #[.string p] 9)).cell? ⟨gx, 0, none⟩ = some (.int .i64 (A : Int)) ∧ (Wd.alloc (.cells #[.string p] 9)).cell? ⟨gx, 1, none⟩ = some (.int .i64 (C : Int)) from ⟨(hTx.alloc _).cell 0, (hAx.alloc _).cell 0, (hAx.alloc _).cell 1⟩)
                  have vc := hv.cell 0
                  have vd := (hv.alloc (.cells #[.string p] 9)).cell 0
                  simp only [List.getElem?_toArray, List.getElem?_cons_zero] at vc vd
                  clear hAC hok hI hAt hI0
                  gi_wp2_with fail
                  refine wpIn_region_round (S := fun w' => w'.cell? ⟨bt, 0, none⟩ = some (.string t) ∧ w'.cell? ⟨gx, 0, none⟩ = some (.int .i64 (A : Int)) ∧ w'.cell? ⟨gx, 1, none⟩ = some (.int .i64 (C : Int))) (by kernel_rfl) (by kernel_rfl) (fun _ _ h => h) (by rw [hWd]; exact hs0.out) (fun hHeld => ?_)
                  rw [hWd] at hHeld ⊢
                  clear x0 x1 cs
                  (refine' wpAnyH_take (i := 1) rfl (by kernel_rfl) (by kernel_rfl) (by kernel_rfl) (fun _ _ _ h => h) (Or.inl ⟨by rfl, ?_⟩) (by assumption) ?_; rotate_left; (· (intro wq hq; (try dsimp only at hq); go_simp; first | done | with_reducible rfl)); simp only [Act.put, List.getElem_toArray, List.getElem_cons_zero, List.getElem_cons_succ, List.setIfInBounds_toArray, List.set_cons_zero, List.set_cons_succ])
                  (refine' wpAnyH_take (i := 2) rfl (by kernel_rfl) (by kernel_rfl) (by kernel_rfl) (fun _ _ _ h => h) (Or.inl ⟨by rfl, ?_⟩) (by assumption) ?_; rotate_left; (· (intro wq hq; (try dsimp only at hq); go_simp; first | done | with_reducible rfl)); simp only [Act.put, List.getElem_toArray, List.getElem_cons_zero, List.getElem_cons_succ, List.setIfInBounds_toArray, List.set_cons_zero, List.set_cons_succ])
                  (refine' wpAnyH_take (i := 3) rfl (by kernel_rfl) (by kernel_rfl) (by kernel_rfl) (fun _ _ _ h => h) (Or.inl ⟨by rfl, ?_⟩) (by assumption) ?_; rotate_left; (· (intro wq hq; (try dsimp only at hq); go_simp; first | done | with_reducible rfl)); simp only [Act.put, List.getElem_toArray, List.getElem_cons_zero, List.getElem_cons_succ, List.setIfInBounds_toArray, List.set_cons_zero, List.set_cons_succ])
                  (refine' wpAnyH_take (i := 4) rfl (by kernel_rfl) (by kernel_rfl) (by kernel_rfl) (fun _ _ _ h => h) (Or.inl ⟨by rfl, ?_⟩) (by assumption) ?_; rotate_left; (· (intro wq hq; (try dsimp only at hq); go_simp; first | done | with_reducible rfl)); simp only [Act.put, List.getElem_toArray, List.getElem_cons_zero, List.getElem_cons_succ, List.setIfInBounds_toArray, List.set_cons_zero, List.set_cons_succ])
                  (refine' wpAnyH_take (i := 5) rfl (by kernel_rfl) (by kernel_rfl) (by kernel_rfl) (fun _ _ _ h => h) (Or.inl ⟨by rfl, ?_⟩) (by assumption) ?_; rotate_left; (· (intro wq hq; (try dsimp only at hq); go_simp; first | done | with_reducible rfl)); simp only [Act.put, List.getElem_toArray, List.getElem_cons_zero, List.getElem_cons_succ, List.setIfInBounds_toArray, List.set_cons_zero, List.set_cons_succ])
                  (refine' wpAnyH_take (i := 6) rfl (by kernel_rfl) (by kernel_rfl) (by kernel_rfl) (fun _ _ _ h => h) (Or.inl ⟨by rfl, ?_⟩) (by assumption) ?_; rotate_left; (· (intro wq hq; (try dsimp only at hq); go_simp; first | done | with_reducible rfl)); simp only [Act.put, List.getElem_toArray, List.getElem_cons_zero, List.getElem_cons_succ, List.setIfInBounds_toArray, List.set_cons_zero, List.set_cons_succ])
                  refine wpAnyH_ready (rs := [0, 7]) (by kernel_rfl) (by simp) ?_
                  refine AllReadyH.cons rfl (fun K hK => ?_) ?_
                  · go_simp
                    refine hK.out _ _ hs0.out (fun _ => ?_)
                    clear hK K
                    refine wpAnyH_ready (rs := [7]) (by kernel_rfl) (by simp) ?_
                    refine AllReadyH.cons rfl (fun K hK => ?_) ?_
                    · go_simp
                      refine hK.out _ _ hs1.out (fun _ => ?_)
                      clear hK K
                      refine wpAnyH_ready (rs := [8]) (by kernel_rfl) (by simp) ?_
                      refine AllReadyH.cons rfl (fun K hK => ?_) ?_
                      · rw [if_pos (by rfl)]
                        refine wp_gatherT (W := Wd) (v := v) (L := btw t r) (p := p) rfl rfl rfl hrow (by have := hNr.out; rw [btw_len]; omega) hId.out.2.2.2.2.2 ?_
                        intro g' cap w2 hown' hgr
                        obtain ⟨u1, u2, u3, u4, u5⟩ := twI_push (bm := bm2) (bs := bs2) (g := gg2) (s' := t) hId.out hv hrow (by omega) (by omega) (by omega) (by omega) (by omega) (by omega) hLr.out (fun d hd => by (obtain rfl : d = D := by simpa using hd); omega) hown' hgr (by omega)
                        have y1 := u5 _ _ _ hTx (by omega) (.inr (by omega))
                        have y2 := u5 _ _ _ hAx (by omega) (.inl (by decide))
                        have c1 := u4.cell 0
                        have f1 := u4.frozen 0
                        simp only [List.getElem?_toArray, List.getElem?_cons_zero] at c1
                        refine hK.out _ _ ⟨y1.1.cell 0, y2.1.cell 0, y2.1.cell 1⟩ (fun _ => ?_)
                        clear hK K
                        refine wpAnyH_ready (rs := [9]) (by kernel_rfl) (by simp) ?_
                        refine AllReadyH.cons rfl (fun K hK => ?_) ?_
                        · go_simp
                          refine hK.out _ _ ⟨y1.2.cell 0, y2.2.cell 0, y2.2.cell 1⟩ (fun _ => ?_)
                          clear hK K
                          refine wpAnyH_done (by kernel_rfl) ?_ _
                          have hfin := hid (show KeepsFrom W2.heap.size W _ ∧ KeepT t bm2 bs2 gg2 W _ ∧ _ from ⟨((keeps_below hbd.out).trans u1).from _, (KeepT.of_below hbd.out).trans u2, u3⟩)
                          clear u1 u2 u3 u4 u5 y1 y2 c1 f1 hown' hgr
                          exact hfin.out
                        exact AllReadyH.nil
                      exact AllReadyH.nil
                    exact AllReadyH.nil
                  refine AllReadyH.cons rfl (fun K hK => ?_) ?_
                  · go_simp
                    refine hK.out _ _ hs1.out (fun _ => ?_)
                    clear hK K
                    refine wpAnyH_ready (rs := [0]) (by kernel_rfl) (by simp) ?_
                    refine AllReadyH.cons rfl (fun K hK => ?_) ?_
                    · go_simp
                      refine hK.out _ _ hs1.out (fun _ => ?_)
                      clear hK K
                      refine wpAnyH_ready (rs := [8]) (by kernel_rfl) (by simp) ?_
                      refine AllReadyH.cons rfl (fun K hK => ?_) ?_
                      · rw [if_pos (by rfl)]
                        refine wp_gatherT (W := Wd) (v := v) (L := btw t r) (p := p) rfl rfl rfl hrow (by have := hNr.out; rw [btw_len]; omega) hId.out.2.2.2.2.2 ?_
                        intro g' cap w2 hown' hgr
                        obtain ⟨u1, u2, u3, u4, u5⟩ := twI_push (bm := bm2) (bs := bs2) (g := gg2) (s' := t) hId.out hv hrow (by omega) (by omega) (by omega) (by omega) (by omega) (by omega) hLr.out (fun d hd => by (obtain rfl : d = D := by simpa using hd); omega) hown' hgr (by omega)
                        have y1 := u5 _ _ _ hTx (by omega) (.inr (by omega))
                        have y2 := u5 _ _ _ hAx (by omega) (.inl (by decide))
                        have c1 := u4.cell 0
                        have f1 := u4.frozen 0
                        simp only [List.getElem?_toArray, List.getElem?_cons_zero] at c1
                        refine hK.out _ _ ⟨y1.1.cell 0, y2.1.cell 0, y2.1.cell 1⟩ (fun _ => ?_)
                        clear hK K
                        refine wpAnyH_ready (rs := [9]) (by kernel_rfl) (by simp) ?_
                        refine AllReadyH.cons rfl (fun K hK => ?_) ?_
                        · go_simp
                          refine hK.out _ _ ⟨y1.2.cell 0, y2.2.cell 0, y2.2.cell 1⟩ (fun _ => ?_)
                          clear hK K
                          refine wpAnyH_done (by kernel_rfl) ?_ _
                          have hfin := hid (show KeepsFrom W2.heap.size W _ ∧ KeepT t bm2 bs2 gg2 W _ ∧ _ from ⟨((keeps_below hbd.out).trans u1).from _, (KeepT.of_below hbd.out).trans u2, u3⟩)
                          clear u1 u2 u3 u4 u5 y1 y2 c1 f1 hown' hgr
                          exact hfin.out
                        exact AllReadyH.nil
                      exact AllReadyH.nil
                    exact AllReadyH.nil
                  exact AllReadyH.nil
                case stop =>
                  rintro D c r W _ _ h _
                  exact h.elim
                case done =>
                  rintro D2 W hD2 hI hK2
                  obtain ⟨vb, hvb, hrb⟩ := hI.2.2.1
                  have hra := hI.2.2.2.1
                  have hKd := hI.2.2.2.2.1 D (by simp)
                  have hSB := hid hI.1
                  obtain ⟨N, hN⟩ : ∃ N, (spansS s).length = N := ⟨_, rfl⟩
                  have hNt : (spansS t).length = N := by rw [htN.out, hN]
                  have hbt2 : btw t N = btw s N := htb.out N (by omega)
                  have hNl : N ≤ 2000000 := by have := spansS_len s; omega
                  rw [hNt, hbt2, btw_len] at hrb
                  have hra1 := hra.2.1
                  rw [hN, btw_len] at hra1
                  obtain ⟨aoA, capA, rfl, hA⟩ := txts_row hra1
                  obtain ⟨aoB, capB, rfl, hB⟩ := txts_row hrb
                  have va0 := hra.1.cell 0
                  have vb0 := hvb.cell 0
                  simp only [List.getElem?_toArray, List.getElem?_cons_zero] at va0 vb0
                  have hA' := hid hA
                  have hB' := hid hB
                  have hKd' := hid hKd
                  have hK2' := hid hK2
                  rename_i Ky hKy
                  clear hI hra hvb hrb hra1 hA hB hKd hK2 hI0 hR0 hQ hX2
                  refine hKy _ _ ?_
                  clear hKy
                  go_wp2_with fail
                  refine Calls.mono (sameT_calls (btw s N) N (btw_len s N) (by omega) aoA aoB capA capB W hA'.out hB'.out) ?_
                  rintro e W4 ⟨rfl, hb4⟩
                  have hS4 := hSB.out.kept hb4
                  have r1 := hS4.r
                  have c1 := r1.cell 0
                  have f1 := r1.frozen 0
                  simp only [List.getElem?_toArray, List.getElem?_cons_zero] at c1
                  have hd1 : w.heap.size + 1 < D := by have := hDb.out; have := hWb.out; omega
                  have hd2 : D < D2 := by have := hWz.out; have := hR2.out; omega
                  have hk2 : W4.heap[D2]? = some (.deferred (some [])) := (hb4.block D2 (Array.getElem?_eq_some_iff.1 hK2'.out).1).trans hK2'.out
                  have hk1 : W4.heap[D]? = some (.deferred (some [])) := (hb4.block D (Array.getElem?_eq_some_iff.1 hKd'.out).1).trans hKd'.out
                  have k2 : (W4.setCell ⟨w.heap.size + 1, 0, none⟩ (.bool true)).heap[D2]? = some (.deferred (some [])) := (Below.heap_setCell W4 ⟨w.heap.size + 1, 0, none⟩ _ D2 (by show D2 ≠ w.heap.size + 1; omega)).trans hk2
                  have k1 : (W4.setCell ⟨w.heap.size + 1, 0, none⟩ (.bool true)).heap[D]? = some (.deferred (some [])) := (Below.heap_setCell W4 ⟨w.heap.size + 1, 0, none⟩ _ D (by show D ≠ w.heap.size + 1; omega)).trans hk1
                  have cr := World.cell?_setCell_same' W4 ⟨w.heap.size + 1, 0, none⟩ (.bool true) (by rw [c1]; rfl)
                  have hBe := hS4.b.setCell (p := ⟨w.heap.size + 1, 0, none⟩) (by show w.heap.size ≤ w.heap.size + 1; omega) (.bool true)
                  have k1' : ((W4.setCell ⟨w.heap.size + 1, 0, none⟩ (.bool true)).putObj D2 (.deferred none)).heap[D]? = some (.deferred (some [])) := (World.putObj_heap_other (by omega)).trans k1
                  have cr2 := cell_kept cr (grownBy_putObj' _ D2 (.deferred none)) (fun r e => by cases e; exact ⟨_, k2, rfl⟩)
                  have cr3 := cell_kept cr2 (grownBy_putObj' _ D (.deferred none)) (fun r e => by cases e; exact ⟨_, k1', rfl⟩)
                  have hBe2 := hBe.trans (belowK_b (w := w) (Nat.le_refl _) _ D2 _ (.deferred none) (by omega) k2 rfl rfl)
                  have hBe3 := hBe2.trans (belowK_b (w := w) (Nat.le_refl _) _ D _ (.deferred none) (by omega) k1' rfl rfl)
                  clear hSB hS4 r1 hb4 va0 vb0
                  go_wp2
                  refine ⟨by simp, .inl ⟨_, _, rfl, run_takeDeferred k2, ?_⟩⟩
                  refine ⟨by simp, .inl ⟨_, _, rfl, run_takeDeferred k1', ?_⟩⟩
                  refine ⟨.bool true, ?_, rfl, hBe3⟩
                  simp [results, Tryd.f4, go_sem, cr3]
            exact AllReadyH.nil
          exact AllReadyH.nil
        exact AllReadyH.nil
theorem marksTwice_walk (s : ByteArray) (hs : s.size ≤ 1048576) (w : World) (hT : Tab w) (hM : TabM w) (h0 : 1 < w.heap.size) :
    Calls Tryd.prog 4 #[.string s] w fun e w' => e = .returned (.bool true) ∧ Below w.heap.size w w' := callsIn_wide.1 (mtwice_in s hs w hT hM h0)
end Go.Proofs.YthakingpeegagaaDoor
