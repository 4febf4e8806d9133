/-
  What the reference's Formed answers.
-/
import Derived.Test.YteaambonlohcgabDoorDecForm
namespace Go.Proofs.YteaambonlohcgabDoor
open Go.RowKit Go.Shelf

end Go.Proofs.YteaambonlohcgabDoor
