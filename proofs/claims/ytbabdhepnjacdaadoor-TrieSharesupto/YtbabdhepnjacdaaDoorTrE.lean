/-
 quarryref17.First: the place of the first member of a name.
-/
import Derived.Test.YtbabdhepnjacdaaDoorTrAA
namespace Go.Proofs.YtbabdhepnjacdaaDoor
open Go.RowKit Go.Shelf
/-- The first place of a name among names; -1: there is none. -/
def IsFst (ks : List ByteArray) (nm : ByteArray) (f : Int) : Prop := (f = -1 ∧ ∀ j : Nat, ks[j]? ≠ some nm) ∨ ∃ i : Nat, f = (i : Int) ∧ ks[i]? = some nm ∧ ∀ j, j < i → ks[j]? ≠ some nm
theorem IsFst.uniq {ks : List ByteArray} {nm : ByteArray} {f g : Int} (h : IsFst ks nm f) (h' : IsFst ks nm g) : f = g := by
 rcases h with ⟨rfl, h⟩ | ⟨i, rfl, h1, h2⟩ <;> rcases h' with ⟨rfl, h'⟩ | ⟨i', rfl, h1', h2'⟩
 ·rfl
 ·exact absurd h1' (h i')
 ·exact absurd h1 (h' i)
 ·by_cases hlt : i < i'
  ·exact absurd h1 (h2' i hlt)
  ·by_cases hgt : i' < i
   ·exact absurd h1' (h2 i' hgt)
   ·have : i = i' := by omega
    rw [this]
end Go.Proofs.YtbabdhepnjacdaaDoor
