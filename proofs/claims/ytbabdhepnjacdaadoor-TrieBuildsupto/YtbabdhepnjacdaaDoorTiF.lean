/-
 trie.ended.
-/
import Derived.Test.YtbabdhepnjacdaaDoorTiD
namespace Go.Proofs.YtbabdhepnjacdaaDoor
open Go.RowKit Go.Shelf
/-- The greatest one of a list; below all numbers, if there is none. -/
def GrtP (L : List Int) (g : Int) : Prop := (∀ x ∈ L, x ≤ g) ∧ (g = -1 ∨ g ∈ L)
theorem GrtP.app {A C : List Int} {g l : Int} (ha : GrtP A g) (hc : GrtP C l) : GrtP (A ++ C) (if g ≤ l then l else g) := by
 obtain ⟨a1, a2⟩ := ha
 obtain ⟨c1, c2⟩ := hc
 split
 ·next h =>
  refine ⟨fun x hx => ?_, ?_⟩
  ·rcases List.mem_append.1 hx with hx | hx
   ·have := a1 x hx; omega
   ·exact c1 x hx
  ·rcases c2 with e | e
   ·exact .inl e
   ·exact .inr (List.mem_append.2 (.inr e))
 ·next h =>
  refine ⟨fun x hx => ?_, ?_⟩
  ·rcases List.mem_append.1 hx with hx | hx
   ·exact a1 x hx
   ·have := c1 x hx; omega
  ·rcases a2 with e | e
   ·exact .inl e
   ·exact .inr (List.mem_append.2 (.inl e))
end Go.Proofs.YtbabdhepnjacdaaDoor
