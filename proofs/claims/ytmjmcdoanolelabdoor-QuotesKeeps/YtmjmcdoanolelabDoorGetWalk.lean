/-
  What bitmap.Get answers.
-/
import Derived.Test.YtmjmcdoanolelabDoorAskKit
import Derived.Test.YtmjmcdoanolelabDoorPack1
namespace Go.Proofs.YtmjmcdoanolelabDoor
open Go.RowKit Go.Shelf

end Go.Proofs.YtmjmcdoanolelabDoor
