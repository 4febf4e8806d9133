/-
 A range over an iterator that turns variables of its own between the rounds: what its caller says speaks of no block that was laid since the iterator was called.
-/
import Derived.Test.YtlmjiocdhobopaaGreatDoorPack1
namespace Go.Proofs.YtlmjiocdhobopaaGreatDoor
open Go.RowKit Go.Shelf
/-- What is said of a world speaks of no block from B on. -/
def FreeFrom {β : Type} (B : Nat) (I : β → World → Prop) : Prop := ∀ s W W' row, I s W → W.grownBy W' row → (∀ r, row = some r → B ≤ r) → I s W'
theorem FreeFrom.own {β : Type} {B : Nat} {I : β → World → Prop} (h : FreeFrom B I) : OwnFrom B I := fun s W W' row hs hg hr => h s W W' row hs hg (fun r e => (hr r e).1)
section
variable {P : Program}
end
end Go.Proofs.YtlmjiocdhobopaaGreatDoor
