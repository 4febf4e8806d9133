/-
  What quarryref00.SameBits answers.
-/
import Derived.Test.YtkdcloiepeenoabDoorFormedWalk
namespace Go.Proofs.YtkdcloiepeenoabDoor
open Go.RowKit

end Go.Proofs.YtkdcloiepeenoabDoor
