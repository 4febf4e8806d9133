/-
  What quarryref07.Marks, Inside, Open and Control answer.
-/
import Derived.Test.YtmgbgphlkhkldabDoorQuoA
import Derived.Test.YtmgbgphlkhkldabDoorBoolRow
namespace Go.Proofs.YtmgbgphlkhkldabDoor
open Go.RowKit

end Go.Proofs.YtmgbgphlkhkldabDoor
