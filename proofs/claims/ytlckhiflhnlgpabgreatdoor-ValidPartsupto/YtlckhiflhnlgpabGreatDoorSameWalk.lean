/-
  What quarryref00.SameBits answers.
-/
import Derived.Test.YtlckhiflhnlgpabGreatDoorFormedWalk
namespace Go.Proofs.YtlckhiflhnlgpabGreatDoor
open Go.RowKit

end Go.Proofs.YtlckhiflhnlgpabGreatDoor
