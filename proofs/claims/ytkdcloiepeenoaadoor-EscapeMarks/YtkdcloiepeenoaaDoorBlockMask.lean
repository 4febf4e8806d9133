/-
  What block.Mask and block.Equal answer.
-/
import Derived.Test.YtkdcloiepeenoaaDoorBlockOf
import Derived.Test.YtkdcloiepeenoaaDoorLanesLoadOnly
import Derived.Test.YtkdcloiepeenoaaDoorLanesEqualOnly
namespace Go.Proofs.YtkdcloiepeenoaaDoor
open Go.RowKit

/-- 64 cells that hold the bytes f 0 to f 63. -/
def arr64 (f : Nat → Nat) : Array Value := Array.ofFn (n := 64) fun j => .int .u8 ((f j.val : Nat) : Int)
theorem arr64_at (f : Nat → Nat) (k : Nat) (h : k < 64) : (arr64 f)[k]? = some (.int .u8 ((f k : Nat) : Int)) := by
  simp [arr64, h]
theorem arr64_size (f : Nat → Nat) : (arr64 f).size = 64 := by simp [arr64]
theorem arr64_congr {f g : Nat → Nat} (h : ∀ j, j < 64 → f j = g j) : arr64 f = arr64 g := by
  unfold arr64
  congr 1
  funext j
  rw [h j.val j.isLt]

theorem arr64_list (f : Nat → Nat) : ∃ L : List Value, L.toArray = arr64 f ∧ L.length = 64 := ⟨(arr64 f).toList, by simp, by simp [arr64]⟩
theorem arr64_one (f : Nat → Nat) {L : List Value} (hL : L.toArray = arr64 f) : ∀ v ∈ L, v.oneCell' = true := by
  intro v hv
  have h1 : v ∈ arr64 f := by rw [← hL]; simpa using hv
  obtain ⟨j, rfl⟩ := (Array.mem_ofFn.1 h1)
  rfl
theorem info64 : (Tryd.prog.info? 63).map (·.size) = some 64 := by kernel_rfl

theorem pow_shift (B k : Nat) (hk : k < 64) (hB : B < 2) : IntKind.u64.wrap (((B : Nat) : Int) * 2 ^ k) = ((B * 2 ^ k : Nat) : Int) := by
  have e : ((B : Nat) : Int) * 2 ^ k = ((B * 2 ^ k : Nat) : Int) := by simp
  have h : B * 2 ^ k < 18446744073709551616 := by
    have h1 : (2 : Nat) ^ k < 2 ^ 64 := Nat.pow_lt_pow_right (by decide) hk
    have h2 : B * 2 ^ k ≤ 1 * 2 ^ k := Nat.mul_le_mul_right _ (by omega)
    have h3 : (2 : Nat) ^ 64 = 18446744073709551616 := by decide
    omega
  rw [e, IntKind.wrap_u64]
  generalize B * 2 ^ k = X at *
  omega
theorem mk_step (q : Nat → Bool) (k : Nat) (hk : k < 64) : bits BinOp.or IntKind.u64 ((mk q k : Nat) : Int) (IntKind.u64.wrap (((if q k then 1 else 0 : Nat) : Int) * 2 ^ k)) = ((mk q (k + 1) : Nat) : Int) := by
  rw [pow_shift _ k hk (by split <;> omega), u64_or_nat _ _ (mk_lt64 q k (by omega)) ?_, mk_succ]
  · congr 2
    split <;> simp
  · have h1 : (2 : Nat) ^ k < 2 ^ 64 := Nat.pow_lt_pow_right (by decide) hk
    split <;> omega
theorem bit_nat' (W i : Nat) (hW : W < 18446744073709551616) : bits BinOp.and IntKind.u64 ((W : Int) / 2 ^ i) 1 = ((if W.testBit i then 1 else 0 : Nat) : Int) := by
  have e : (W : Int) / 2 ^ i = ((W / 2 ^ i : Nat) : Int) := by simp
  have hl : W / 2 ^ i < 18446744073709551616 := Nat.lt_of_le_of_lt (Nat.div_le_self _ _) hW
  rw [e, show (1 : Int) = ((1 : Nat) : Int) from rfl, u64_and_nat _ _ hl (by decide), Nat.and_one_is_mod]
  congr 1
  rw [Nat.testBit_eq_decide_div_mod_eq]
  have := Nat.mod_two_eq_zero_or_one (W / 2 ^ i)
  by_cases h : W / 2 ^ i % 2 = 1
  · simp [h]
  · simp [h]; omega

end Go.Proofs.YtkdcloiepeenoaaDoor
