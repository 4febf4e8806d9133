/-
  The walk of quarrylaw08.MarksIndexes.
-/
import Derived.Test.YtomeaejjdjidlaaDoorMkIndex
import Derived.Test.YtomeaejjdjidlaaDoorMKinds
namespace Go.Proofs.YtomeaejjdjidlaaDoor
open Go.RowKit Go.Shelf

theorem idx_small : idxS smB = [0, 1, 7, 9, 10, 11, 12, 16, 17] := by decide +kernel
/-- The list that the law writes out. -/
theorem small_at {w : World} {g : Nat} (h : At w g #[.int .i64 0, .int .i64 1, .int .i64 7, .int .i64 9, .int .i64 10, .int .i64 11, .int .i64 12, .int .i64 16, .int .i64 17] 3) : IntsAt w (some ⟨g, 0, none⟩) [0, 1, 7, 9, 10, 11, 12, 16, 17] := fun j p hj => by
  refine ⟨g, rfl, h.lt, ?_⟩
  rw [h.cell j]
  match j, hj with
  | 0, hj => simp at hj; subst hj; rfl
  | 1, hj => simp at hj; subst hj; rfl
  | 2, hj => simp at hj; subst hj; rfl
  | 3, hj => simp at hj; subst hj; rfl
  | 4, hj => simp at hj; subst hj; rfl
  | 5, hj => simp at hj; subst hj; rfl
  | 6, hj => simp at hj; subst hj; rfl
  | 7, hj => simp at hj; subst hj; rfl
  | 8, hj => simp at hj; subst hj; rfl
  | j + 9, hj => simp at hj
theorem indexC_calls (w : World) (hT : Tab w) (hM : TabM w) (hw0 : 1 < w.heap.size) :
    Calls Tryd.prog 11 #[.string smB] w fun e w' => ∃ ao cap, e = .returned (.slice ao 9 cap) ∧ IntsAt w' ao [0, 1, 7, 9, 10, 11, 12, 16, 17] ∧ Below w.heap.size w w' := by
  refine (index8_calls smB (by decide) w hT hM hw0).mono ?_
  rintro e w' ⟨v, rfl, hr, hb⟩
  rw [idx_small] at hr
  obtain ⟨ao, cap, rfl, h⟩ := ints_row hr
  exact ⟨ao, cap, rfl, h, hb⟩

end Go.Proofs.YtomeaejjdjidlaaDoor
