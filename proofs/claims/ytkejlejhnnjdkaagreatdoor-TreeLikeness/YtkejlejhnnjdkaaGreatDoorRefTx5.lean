/-
 What the reference's Same and End answer.
-/
import Derived.Test.YtkejlejhnnjdkaaGreatDoorRefTx4
import Derived.Test.YtkejlejhnnjdkaaGreatDoorPack1
import Derived.Laws.AppendOwn
namespace Go.Proofs.YtkejlejhnnjdkaaGreatDoor
open Go.RowKit Go.Shelf
/-- Where a text ends: the place, and the refusal. -/
def IsEnd (s : ByteArray) (f : Int) (n E : Int) : Prop :=
 ((f < 0 ∨ (s.size : Int) < f) ∧ n = 0 ∧ E = 2) ∨ ∃ k : Nat, f = (k : Int) ∧ k ≤ s.size ∧
  ((∃ i : Nat, i < s.size - k ∧ bAt s (k + i) = 34 ∧ escG (slash (s.extract k s.size)) false i = false ∧ (∀ j, j < i → ¬ (bAt s (k + j) = 34 ∧ escG (slash (s.extract k s.size)) false j = false)) ∧ n = ((k + i : Nat) : Int) ∧ E = 0) ∨
   ((∀ j, j < s.size - k → ¬ (bAt s (k + j) = 34 ∧ escG (slash (s.extract k s.size)) false j = false)) ∧ n = 0 ∧ E = 150))
theorem bAt_from (s : ByteArray) (k i : Nat) : bAt (s.extract k s.size) i = bAt s (k + i) := by
 rw [bAt_lb, bAt_lb, (byts_from s k).1, lb_drop]
end Go.Proofs.YtkejlejhnnjdkaaGreatDoor
