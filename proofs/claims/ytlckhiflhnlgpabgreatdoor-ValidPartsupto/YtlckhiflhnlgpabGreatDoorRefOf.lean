/-
  What quarryref04.Of answers; rows of truths.
-/
import Derived.Test.YtlckhiflhnlgpabGreatDoorRefFormed
import Derived.Test.YtlckhiflhnlgpabGreatDoorBitsB
namespace Go.Proofs.YtlckhiflhnlgpabGreatDoor
open Go.RowKit

theorem hiB_step (g : Nat → Bool) (t : Nat) (ht : t < 64) : 2 * hiB g t < 18446744073709551616 ∧ 2 * hiB g t + 1 < 18446744073709551616 := by
  have h1 := hiB_lt g t
  have h2 : 2 ^ t ≤ 2 ^ 63 := Nat.pow_le_pow_right (by decide) (by omega)
  omega

end Go.Proofs.YtlckhiflhnlgpabGreatDoor
