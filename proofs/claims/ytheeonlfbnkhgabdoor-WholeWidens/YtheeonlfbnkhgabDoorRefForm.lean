/-
  What the reference's Formed answers.
-/
import Derived.Test.YtheeonlfbnkhgabDoorDecForm
namespace Go.Proofs.YtheeonlfbnkhgabDoor
open Go.RowKit Go.Shelf

end Go.Proofs.YtheeonlfbnkhgabDoor
