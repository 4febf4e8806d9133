/-
  What bitmap.changed and bitmap.Not answer of a row that isn't one.
-/
import Derived.Test.YtmjmcdoanolelabDoorBitsB
namespace Go.Proofs.YtmjmcdoanolelabDoor
open Go.RowKit

end Go.Proofs.YtmjmcdoanolelabDoor
