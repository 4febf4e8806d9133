/-
  What quarryref00.SameBits answers.
-/
import Derived.Test.YtlckhiflhnlgpaaGreatDoorFormedWalk
namespace Go.Proofs.YtlckhiflhnlgpaaGreatDoor
open Go.RowKit

end Go.Proofs.YtlckhiflhnlgpaaGreatDoor
