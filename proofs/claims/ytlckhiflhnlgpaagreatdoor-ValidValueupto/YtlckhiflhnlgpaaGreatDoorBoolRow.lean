/-
  Rows of truths that are made.
-/
import Derived.Test.YtlckhiflhnlgpaaGreatDoorRefOf
namespace Go.Proofs.YtlckhiflhnlgpaaGreatDoor
open Go.RowKit

/-- The truths as cells. -/
def boolCells (K : Nat) (G : Nat → Bool) : Array Value := ((List.range K).map fun j => Value.bool (G j)).toArray
theorem boolCells_size (K : Nat) (G : Nat → Bool) : (boolCells K G).size = K := by simp [boolCells]
theorem boolCells_get {K j : Nat} (G : Nat → Bool) (h : j < K) : (boolCells K G)[j]? = some (.bool (G j)) := by simp [boolCells, h]
theorem boolCells_set (K j : Nat) (x : Bool) (G : Nat → Bool) : (boolCells K G).setIfInBounds j (.bool x) = boolCells K (fun i => if i = j then x else G i) := by
  apply Array.ext_getElem?
  intro i
  by_cases hi : i < K
  · rw [boolCells_get _ hi]
    by_cases hij : i = j
    · subst hij
      rw [Array.getElem?_setIfInBounds_self_of_lt (by rw [boolCells_size]; exact hi)]
      simp
    · rw [Array.getElem?_setIfInBounds_ne (by omega), boolCells_get _ hi]
      simp [hij]
  · rw [Array.getElem?_eq_none (by simp [boolCells_size]; omega), Array.getElem?_eq_none (by rw [boolCells_size]; omega)]
theorem boolCells_congr {K : Nat} {G G' : Nat → Bool} (h : ∀ j, j < K → G j = G' j) : boolCells K G = boolCells K G' := by
  unfold boolCells
  congr 1
  apply List.map_congr_left
  intro j hj
  rw [h j (by simpa using hj)]
theorem boolCells_zero (K : Nat) : madeCells #[.bool false] K = boolCells K (fun _ => false) := by
  apply Array.ext_getElem?
  intro i
  by_cases hi : i < K
  · rw [boolCells_get _ hi]
    simp [madeCells, hi, Nat.mod_one]
  · rw [Array.getElem?_eq_none (by simp [madeCells]; omega), Array.getElem?_eq_none (by rw [boolCells_size]; omega)]
theorem infoB : (Tryz.prog.info? 4).map (fun i => (i.zero, i.size, i.bytes)) = some (some (.bool false), 1, 1) := by kernel_rfl
end Go.Proofs.YtlckhiflhnlgpaaGreatDoor
