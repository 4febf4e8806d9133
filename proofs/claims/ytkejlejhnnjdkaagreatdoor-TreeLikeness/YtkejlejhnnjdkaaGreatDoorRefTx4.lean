/-
 What the reference's one and Escape answer.
-/
import Derived.Test.YtkejlejhnnjdkaaGreatDoorPack6
import Derived.Test.YtkejlejhnnjdkaaGreatDoorTxBack
import Derived.BigQuiet
namespace Go.Proofs.YtkejlejhnnjdkaaGreatDoor
open Go.RowKit Go.Shelf
theorem oneL_lt {c : Nat} (h : c < 256) : (∀ x ∈ oneL c, x < 256) ∧ 1 ≤ (oneL c).length ∧ (oneL c).length ≤ 6 := by
 unfold oneL
 repeat' split
 all_goals refine ⟨?_, by simp, by simp⟩
 all_goals intro x hx; simp at hx
 all_goals first
  | omega
  | (rcases hx with rfl | rfl | rfl | rfl | rfl | rfl <;> first | omega | (unfold hexC; split <;> omega))
end Go.Proofs.YtkejlejhnnjdkaaGreatDoor
