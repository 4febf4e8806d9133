/-
  What words.Prefix comes to.
-/
import Derived.Test.YtmjmcdoanolelaaDoorWordsA
import Derived.Test.YtmjmcdoanolelaaDoorKit
namespace Go.Proofs.YtmjmcdoanolelaaDoor
open Go.RowKit

theorem bits_xor_nat (a b : Nat) (ha : a < 18446744073709551616) (hb : b < 18446744073709551616) : bits .xor .u64 (a : Int) (b : Int) = ((a ^^^ b : Nat) : Int) := by
  have hx : a ^^^ b < 2 ^ 64 := Nat.xor_lt_two_pow (n := 64) ha hb
  have h1 : (BitVec.ofInt 64 (a : Int)).toNat = a := by
    rw [BitVec.ofInt_natCast, BitVec.toNat_ofNat]; exact Nat.mod_eq_of_lt ha
  have h2 : (BitVec.ofInt 64 (b : Int)).toNat = b := by
    rw [BitVec.ofInt_natCast, BitVec.toNat_ofNat]; exact Nat.mod_eq_of_lt hb
  show IntKind.u64.wrap ((BitVec.ofInt 64 (a : Int) ^^^ BitVec.ofInt 64 (b : Int)).toNat : Int) = _
  rw [BitVec.toNat_xor, h1, h2, IntKind.wrap_u64]
  omega
set_option maxRecDepth 10000 in
theorem prefix_calls (x S : Nat) (hx : x < 18446744073709551616) (hS : Hid (prefW x = S)) (w : World) : Calls Tryd.prog 43 #[.int .u64 (x:Int)] w fun e w' => e = .returned (.int .u64 (S : Int)) ∧ w' = w := by
  go_enter Tryd.func43, Tryd.ntmps43
  go_wp2
  go_loop [0, 3] (fun v r => ∃ k R X : Nat, Hid (k ≤ 6 ∧ R = 2 ^ k ∧ ∀ i, i < 64 → X.testBit i = xo x.testBit R i) ∧ X < 18446744073709551616 ∧ r = .int .i64 (R : Int) ∧ v = .int .u64 (X : Int)) (fun _ r => 64 - (intOf r).toNat)
  case atStart => exact ⟨0, 1, x, ⟨by decide, by decide, fun i _ => (xo_one _ i).symm⟩, hx, rfl, rfl⟩
  case round =>
    obtain ⟨k, R, X, hk, hX, rfl, rfl⟩ := hrel
    by_cases hlt : k < 6
    · have h1 : R < 64 := by
        rw [hk.out.2.1]; exact Nat.lt_of_lt_of_le (Nat.pow_lt_pow_right (by decide) hlt) (by decide)
      have h0 : 0 < R := by rw [hk.out.2.1]; exact Nat.pow_pos (by decide)
      have e : bits BinOp.xor IntKind.u64 (X : Int) (IntKind.u64.wrap ((X : Int) * 2 ^ R)) = ((reach X R : Nat) : Int) := by
        rw [IntKind.wrap_u64, reach, ← bits_xor_nat X _ hX (Nat.mod_lt _ (by decide))]
        congr 1
      go_wp2
      go_round
      case rel => exact ⟨k + 1, R * 2, reach X R, ⟨hlt, by rw [hk.out.2.1, Nat.pow_succ], reach_bit hk.out.2.2⟩, reach_lt X R hX, by simp, rfl⟩
      case measure => simp [intOf]; omega
    · have hR : R = 64 := by rw [hk.out.2.1, show k = 6 by have := hk.out.1; omega]
      subst hR
      have hXS : X = S := (reach_done hX hk.out.2.2).trans hS.out
      subst hXS
      go_wp2
      go_ret
      exact ⟨rfl, rfl⟩

end Go.Proofs.YtmjmcdoanolelaaDoor
