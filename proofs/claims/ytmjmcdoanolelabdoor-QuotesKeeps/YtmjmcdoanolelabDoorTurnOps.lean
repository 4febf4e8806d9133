/-
  What bitmap.Not and bitmap.Prefix answer.
-/
import Derived.Test.YtmjmcdoanolelabDoorChangeWalk
import Derived.Test.YtmjmcdoanolelabDoorGivesKit
import Derived.Test.YtmjmcdoanolelabDoorPrefixOnly
namespace Go.Proofs.YtmjmcdoanolelabDoor
open Go.RowKit Go.Shelf

theorem not_eq {x : Nat} (h : x < 18446744073709551616) : bits BinOp.xor IntKind.u64 (if IntKind.u64.signed = true then -1 else IntKind.u64.max) (x : Int) = ((18446744073709551615 ^^^ x : Nat) : Int) := by
  rw [show (if IntKind.u64.signed = true then (-1 : Int) else IntKind.u64.max) = ((18446744073709551615 : Nat) : Int) by decide]
  exact bits_xor_nat 18446744073709551615 x (by decide) h
theorem not_bit (v i : Nat) (hi : i < 64) : (18446744073709551615 ^^^ v).testBit i = !v.testBit i := by
  rw [Nat.testBit_xor, show (18446744073709551615 : Nat) = 2 ^ 64 - 1 by decide, Nat.testBit_two_pow_sub_one]
  simp [hi]

/-- What Prefix has kept behind j words. -/
def odW (X : Nat → Nat) (j : Nat) : Nat := if oddB X (64 * j) then 18446744073709551615 else 0
theorem odW_lt (X : Nat → Nat) (j : Nat) : odW X j < 18446744073709551616 := by unfold odW; split <;> decide
theorem odW_bit (X : Nat → Nat) (j r : Nat) (hr : r < 64) : (odW X j).testBit r = oddB X (64 * j) := by
  unfold odW
  split
  · rename_i h
    rw [show (18446744073709551615 : Nat) = 2 ^ 64 - 1 by decide, Nat.testBit_two_pow_sub_one, h]
    simp [hr]
  · rename_i h
    have : oddB X (64 * j) = false := by simpa using h
    rw [this]; simp
theorem prefC_bit (X : Nat → Nat) (j r : Nat) (hr : r < 64) : (prefW (X j) ^^^ odW X j).testBit r = oddB X (64 * j + r + 1) := by
  rw [Nat.testBit_xor, prefW_bit _ _ hr, odW_bit _ _ _ hr, show 64 * j + r + 1 = 64 * j + (r + 1) by omega, oddB_word X j (r + 1) (by omega), Bool.xor_comm]
theorem odW_next {X : Nat → Nat} {j p : Nat} (hp : prefW (X j) ^^^ odW X j = p) : IntKind.u64.wrap (-((p : Int) / 2 ^ 63)) = ((odW X (j + 1) : Nat) : Int) := by
  have hl : p < 18446744073709551616 := hp ▸ Nat.xor_lt_two_pow (n := 64) (prefW_lt _) (odW_lt _ _)
  have hb := prefC_bit X j 63 (by decide)
  rw [hp, show 64 * j + 63 + 1 = 64 * (j + 1) by omega, Nat.testBit_eq_decide_div_mod_eq] at hb
  have e : ((p : Int) / 2 ^ 63) = ((p / 2 ^ 63 : Nat) : Int) := by simp
  rw [e, IntKind.wrap_u64, odW, ← hb]
  simp only [Nat.reducePow, decide_eq_true_eq]
  split <;> omega

end Go.Proofs.YtmjmcdoanolelabDoor
