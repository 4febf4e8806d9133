/-
  What bitmap.And, Or, Xor and Minus answer.
-/
import Derived.Test.YtmjmcdoanolelabDoorJoinWalk
import Derived.Shelf.Abstract
namespace Go.Proofs.YtmjmcdoanolelabDoor
open Go.RowKit Go.Shelf

end Go.Proofs.YtmjmcdoanolelabDoor
