/-
  The walk of quarrylaw08.MarksIndexes.
-/
import Derived.Test.YtmgbgphlkhkldaaDoorMkIndex
import Derived.Test.YtmgbgphlkhkldaaDoorMKinds
namespace Go.Proofs.YtmgbgphlkhkldaaDoor
open Go.RowKit Go.Shelf

theorem idx_small : idxS smB = [0, 1, 7, 9, 10, 11, 12, 16, 17] := by decide +kernel
/-- The list that the law writes out. -/
theorem small_at {w : World} {g : Nat} (h : At w g #[.int .i64 0, .int .i64 1, .int .i64 7, .int .i64 9, .int .i64 10, .int .i64 11, .int .i64 12, .int .i64 16, .int .i64 17] 3) : IntsAt w (some ⟨g, 0, none⟩) [0, 1, 7, 9, 10, 11, 12, 16, 17] := fun j p hj => by
  refine ⟨g, rfl, h.lt, ?_⟩
  rw [h.cell j]
  match j, hj with
  | 0, hj => simp at hj; subst hj; rfl
  | 1, hj => simp at hj; subst hj; rfl
  | 2, hj => simp at hj; subst hj; rfl
  | 3, hj => simp at hj; subst hj; rfl
  | 4, hj => simp at hj; subst hj; rfl
  | 5, hj => simp at hj; subst hj; rfl
  | 6, hj => simp at hj; subst hj; rfl
  | 7, hj => simp at hj; subst hj; rfl
  | 8, hj => simp at hj; subst hj; rfl
  | j + 9, hj => simp at hj
theorem indexC_calls (w : World) (hT : Tab w) (hM : TabM w) (hw0 : 1 < w.heap.size) :
    Calls Tryd.prog 10 #[.string smB] w fun e w' => ∃ ao cap, e = .returned (.slice ao 9 cap) ∧ IntsAt w' ao [0, 1, 7, 9, 10, 11, 12, 16, 17] ∧ Below w.heap.size w w' := by
  refine (index8_calls smB (by decide) w hT hM hw0).mono ?_
  rintro e w' ⟨v, rfl, hr, hb⟩
  rw [idx_small] at hr
  obtain ⟨ao, cap, rfl, h⟩ := ints_row hr
  exact ⟨ao, cap, rfl, h, hb⟩

set_option maxRecDepth 10000 in
set_option maxHeartbeats 4000000 in
theorem marksIndexes_walk (s : ByteArray) (hs : s.size ≤ 1048576) (w : World) (hT : Tab w) (hM : TabM w) (h0 : 1 < w.heap.size) :
    Calls Tryd.prog 3 #[.string s] w fun e w' => e = .returned (.bool true) ∧ Below w.heap.size w w' := by
  have hS := hid (fun (w1 : World) (hb : Below w.heap.size w w1) => index8_calls s (by omega) w1 (hT.below hb (by omega)) (hM.below hb h0) (by have := hb.size; omega))
  have hC := hid (indexC_calls w hT hM h0)
  have hlen : (idxS s).length ≤ 1048576 := by have := idxTo_len s s.size; unfold idxS; omega
  clear hT hM
  go_enter Tryd.func3, Tryd.ntmps3
  go_wp2_with fail
  refine Calls.mono hC.out ?_
  rintro e w1 ⟨ao1, cap1, rfl, hi1, hb1⟩
  have hi1' := hid hi1
  have hb1' := hid hb1
  clear hi1 hb1 hC
  go_wp2_with fail
  refine Calls.mono (sameI_calls [0, 1, 7, 9, 10, 11, 12, 16, 17] 9 rfl (by decide) ao1 _ cap1 _ _ (hi1'.out.kept (Nat.le_refl _) (by repeat (first | with_reducible exact Below.refl _ _ | with_reducible refine Below.setCell ?_ (by first | (simp; done) | (simp; omega)) _ | with_reducible refine below_drewN ?_ _ | with_reducible refine Below.alloc ?_ (by first | (simp; done) | (simp; omega)) _ | with_reducible refine Below.drew ?_))) (small_at (At.new w1 _ _))) ?_
  rintro e w2 ⟨rfl, hb2⟩
  have hB2 : Below w.heap.size w w2 := (hb1'.out.alloc hb1'.out.size _).trans (hb2.mono (hb1'.out.alloc hb1'.out.size _).size)
  clear hi1' hb1' hb2
  go_wp2_with fail
  refine Calls.mono (hS.out _ hB2) ?_
  rintro e w3 ⟨v3, rfl, hr3, hb3⟩
  obtain ⟨ao3, cap3, rfl, hi3⟩ := ints_row hr3
  have hi3' := hid hi3
  have hB3 := hid (hB2.trans (hb3.mono hB2.size))
  clear hi3 hr3 hb3 hB2 hS
  go_wp2_with fail
  refine Calls.mono (refIndex_calls s hs w3) ?_
  rintro e w4 ⟨v4, rfl, hr4, hb4⟩
  obtain ⟨ao4, cap4, rfl, hi4⟩ := ints_row hr4
  have hi4' := hid hi4
  have hi5 := hid (hi3'.out.kept (Nat.le_refl _) hb4)
  have hB4 := hid (hB3.out.trans (hb4.mono hB3.out.size))
  clear hi4 hr4 hb4 hB3 hi3'
  go_wp2_with fail
  refine Calls.mono (sameI_calls (idxS s) _ rfl (by omega) ao3 ao4 cap3 cap4 w4 hi5.out hi4'.out) ?_
  rintro e w5 ⟨rfl, hb5⟩
  have hB5 := hB4.out.trans (hb5.mono hB4.out.size)
  clear hi4' hi5 hB4 hb5
  go_wp2
  go_ret
  exact ⟨rfl, hB5⟩
end Go.Proofs.YtmgbgphlkhkldaaDoor
