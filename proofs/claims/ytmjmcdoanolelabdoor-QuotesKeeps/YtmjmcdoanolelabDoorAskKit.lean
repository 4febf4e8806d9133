/-
  What the calls that ask a row of bits have in common.
-/
import Derived.Test.YtmjmcdoanolelabDoorJoinWalk
import Derived.Test.YtmjmcdoanolelabDoorSelectWalk
import Derived.Test.YtmjmcdoanolelabDoorLen64Walk
namespace Go.Proofs.YtmjmcdoanolelabDoor
open Go.RowKit Go.Shelf

end Go.Proofs.YtmjmcdoanolelabDoor
