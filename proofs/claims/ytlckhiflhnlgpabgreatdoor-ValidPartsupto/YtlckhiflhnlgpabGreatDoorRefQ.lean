/-
  What quarryref07.Marks, Inside, Open and Control answer.
-/
import Derived.Test.YtlckhiflhnlgpabGreatDoorQuoE
import Derived.Test.YtlckhiflhnlgpabGreatDoorBoolRow
namespace Go.Proofs.YtlckhiflhnlgpabGreatDoor
open Go.RowKit

end Go.Proofs.YtlckhiflhnlgpabGreatDoor
