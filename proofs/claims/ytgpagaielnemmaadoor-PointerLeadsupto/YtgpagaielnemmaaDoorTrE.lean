/-
 quarryref17.First: the place of the first member of a name.
-/
import Derived.Test.YtgpagaielnemmaaDoorPack1
namespace Go.Proofs.YtgpagaielnemmaaDoor
open Go.RowKit Go.Shelf
/-- The first place of a name among names; -1: there is none. -/
def IsFst (ks : List ByteArray) (nm : ByteArray) (f : Int) : Prop := (f = -1 ∧ ∀ j : Nat, ks[j]? ≠ some nm) ∨ ∃ i : Nat, f = (i : Int) ∧ ks[i]? = some nm ∧ ∀ j, j < i → ks[j]? ≠ some nm
end Go.Proofs.YtgpagaielnemmaaDoor
