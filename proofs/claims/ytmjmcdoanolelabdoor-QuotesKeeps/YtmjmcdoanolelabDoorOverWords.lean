/-
  What quarrykit.OverWords leaves: all words of a lent list, and those behind its end, are laid over.
-/
import Derived.Test.YtmjmcdoanolelabDoorLentWords
import Derived.Test.YtmjmcdoanolelabDoorGivesKit
namespace Go.Proofs.YtmjmcdoanolelabDoor
open Go.RowKit

/-- The first i words of block g are marks; all else is as it was. -/
def OverI (w : World) (g c i : Nat) (wr : World) : Prop :=
  (∃ cur, At wr g cur 33 ∧ cur.size = c ∧ ∀ j, j < i → cur[j]? = some (.int .u64 (9000027 + (j : Int)))) ∧ Below g w wr ∧ (∀ b cs t, b ≠ g → At w b cs t → At wr b cs t) ∧ wr.heap.size = w.heap.size
theorem OverI.step {w wr : World} {g c i : Nat} (h : OverI w g c i wr) (hi : i < c) : OverI w g c (i + 1) (wr.setCell ⟨g, i, none⟩ (.int .u64 (9000027 + (i : Int)))) := by
  obtain ⟨⟨cur, h1, h2, h3⟩, h4, h5, h6⟩ := h
  refine ⟨⟨_, h1.set i _, by simp [h2], fun j hj => ?_⟩, h4.setCell (p := ⟨g, i, none⟩) (Nat.le_refl _) _, fun b cs t hb ha => (h5 b cs t hb ha).other (p := ⟨g, i, none⟩) hb _, by simp [h6]⟩
  by_cases e : j = i
  · subst e
    simp [h2, hi]
  · have := h3 j (by omega)
    simpa [Array.getElem?_setIfInBounds, show i ≠ j from fun h => e h.symm] using this

end Go.Proofs.YtmjmcdoanolelabDoor
