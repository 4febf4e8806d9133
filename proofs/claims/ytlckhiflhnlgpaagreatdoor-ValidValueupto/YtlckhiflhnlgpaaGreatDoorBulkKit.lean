/-
  What the second form's bound gives of a row of bits and of a list of numbers.
-/
import Derived.Test.YtlckhiflhnlgpaaGreatDoorBitOpen
import Derived.Test.YtlckhiflhnlgpaaGreatDoorRows
namespace Go.Proofs.YtlckhiflhnlgpaaGreatDoor

end Go.Proofs.YtlckhiflhnlgpaaGreatDoor
