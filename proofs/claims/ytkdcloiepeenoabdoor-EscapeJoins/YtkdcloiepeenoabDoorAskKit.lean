/-
  What the calls that ask a row of bits have in common.
-/
import Derived.Test.YtkdcloiepeenoabDoorJoinWalk
import Derived.Test.YtkdcloiepeenoabDoorSelectWalk
import Derived.Test.YtkdcloiepeenoabDoorLen64Walk
namespace Go.Proofs.YtkdcloiepeenoabDoor
open Go.RowKit Go.Shelf

end Go.Proofs.YtkdcloiepeenoabDoor
