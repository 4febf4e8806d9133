/-
  What quarryref04.Set and quarryref04.Places answer.
-/
import Derived.Test.YtkdcloiepeenoaaDoorBoolRow
namespace Go.Proofs.YtkdcloiepeenoaaDoor
open Go.RowKit

/-- The first i truths, as cells. -/
def bl (G : Nat → Bool) (i : Nat) : List Value := (List.range i).map fun j => Value.bool (G j)
theorem bl_succ (G : Nat → Bool) (i : Nat) : bl G i ++ [.bool (G i)] = bl G (i + 1) := by simp [bl, List.range_succ]

/-- What Set has made. -/
theorem bools_of_row {W : World} {v : Value} {B N : Nat} {G : Nat → Bool} (h : W.ownsRow B 4 1 v N (bl G N)) : ∃ ao cap, v = .slice ao N cap ∧ (∀ j, j < N → ∃ g cur, ao = some ⟨g, 0, none⟩ ∧ B ≤ g ∧ At W g cur 4 ∧ N ≤ cur.size ∧ ∀ i, i < N → cur[i]? = some (.bool (G i))) := by
  rcases h.2 with ⟨rfl, h0⟩ | ⟨g, cap, cur, rfl, hb, hgb, h3, h4, h5, h6⟩
  · exact ⟨none, 0, by rw [h0], fun j hj => by omega⟩
  · refine ⟨_, cap, rfl, fun j hj => ⟨g, cur, rfl, hb, hgb, by omega, fun i hi => ?_⟩⟩
    have : (cur.toList.take (N * 1))[i]? = (bl G N)[i]? := by rw [h6]
    rw [List.getElem?_take, if_pos (by omega)] at this
    simp only [Array.getElem?_toList] at this
    rw [this]; simp [bl, hi]
end Go.Proofs.YtkdcloiepeenoaaDoor
