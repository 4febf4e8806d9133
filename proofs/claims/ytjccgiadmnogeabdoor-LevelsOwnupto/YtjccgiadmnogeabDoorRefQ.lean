/-
  What quarryref07.Marks, Inside, Open and Control answer.
-/
import Derived.Test.YtjccgiadmnogeabDoorQuoA
import Derived.Test.YtjccgiadmnogeabDoorBoolRow
namespace Go.Proofs.YtjccgiadmnogeabDoor
open Go.RowKit

end Go.Proofs.YtjccgiadmnogeabDoor
