/-
 quarryref00.leftOfValue and BeyondValue: what is left of a budget behind a value and all its parts.
-/
import Derived.Test.YtjlcliicdclooaaDoorTrAA
import Derived.Deep.Cut
namespace Go.Proofs.YtjlcliicdclooaaDoor
open Go.RowKit Go.Shelf
theorem drop_some {α : Type} {L : List α} {i : Nat} {x : α} (h : L[i]? = some x) : L.drop i = x :: L.drop (i + 1) := by
 obtain ⟨h1, h2⟩ := List.getElem?_eq_some_iff.mp h
 rw [List.drop_eq_getElem_cons h1, h2]
end Go.Proofs.YtjlcliicdclooaaDoor
