/-
  What quarryref04.need, quarryref04.bit and quarryref04.Formed answer.
-/
import Derived.Test.YtlckhiflhnlgpabGreatDoorFormedWalk
namespace Go.Proofs.YtlckhiflhnlgpabGreatDoor
open Go.RowKit

theorem mod2_bit (x r : Nat) : (((x : Int) / 2 ^ r).tmod 2 == 1) = x.testBit r := by
  have h0 : 0 ≤ (x : Int) / 2 ^ r := Int.ediv_nonneg (by omega) (Int.le_of_lt (Int.pow_pos (by decide)))
  rw [Nat.testBit_eq_decide_div_mod_eq, Int.tmod_eq_emod_of_nonneg h0]
  have : ((x : Int) / 2 ^ r) % 2 = ((x / 2 ^ r % 2 : Nat) : Int) := by simp
  rw [this]
  by_cases h : x / 2 ^ r % 2 = 1
  · simp [h]
  · rw [decide_eq_false h]
    simp; omega

end Go.Proofs.YtlckhiflhnlgpabGreatDoor
