/-
  What quarryref04.need, quarryref04.bit and quarryref04.Formed answer.
-/
import Derived.Test.YtlckhiflhnlgpaaGreatDoorFormedWalk
namespace Go.Proofs.YtlckhiflhnlgpaaGreatDoor
open Go.RowKit

end Go.Proofs.YtlckhiflhnlgpaaGreatDoor
