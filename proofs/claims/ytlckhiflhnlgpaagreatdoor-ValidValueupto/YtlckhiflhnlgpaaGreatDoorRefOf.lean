/-
  What quarryref04.Of answers; rows of truths.
-/
import Derived.Test.YtlckhiflhnlgpaaGreatDoorRefFormed
import Derived.Test.YtlckhiflhnlgpaaGreatDoorBitsB
namespace Go.Proofs.YtlckhiflhnlgpaaGreatDoor
open Go.RowKit

end Go.Proofs.YtlckhiflhnlgpaaGreatDoor
