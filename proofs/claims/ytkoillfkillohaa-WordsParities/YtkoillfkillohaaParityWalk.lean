/-
  What words.Prefix, words.Add and the document's answer to them come to.
-/
import Derived.Test.YtkoillfkillohaaHasWalk
import Derived.Shelf.Spec.BitsCarry
namespace Go.Proofs.Ytkoillfkillohaa
open Go.RowKit

theorem bits_xor_nat (a b : Nat) (ha : a < 18446744073709551616) (hb : b < 18446744073709551616) : bits .xor .u64 (a : Int) (b : Int) = ((a ^^^ b : Nat) : Int) := by
  have hx : a ^^^ b < 2 ^ 64 := Nat.xor_lt_two_pow (n := 64) ha hb
  have h1 : (BitVec.ofInt 64 (a : Int)).toNat = a := by
    rw [BitVec.ofInt_natCast, BitVec.toNat_ofNat]; exact Nat.mod_eq_of_lt ha
  have h2 : (BitVec.ofInt 64 (b : Int)).toNat = b := by
    rw [BitVec.ofInt_natCast, BitVec.toNat_ofNat]; exact Nat.mod_eq_of_lt hb
  show IntKind.u64.wrap ((BitVec.ofInt 64 (a : Int) ^^^ BitVec.ofInt 64 (b : Int)).toNat : Int) = _
  rw [BitVec.toNat_xor, h1, h2, IntKind.wrap_u64]
  omega
set_option maxRecDepth 10000 in
theorem prefix_calls (x S : Nat) (hx : x < 18446744073709551616) (hS : Hid (prefW x = S)) (w : World) : Calls Try.prog 7 #[.int .u64 (x:Int)] w fun e w' => e = .returned (.int .u64 (S : Int)) ∧ w' = w := by
  go_enter Try.func7, Try.ntmps7
  go_wp2
  go_loop [0, 3] (fun v r => ∃ k R X : Nat, Hid (k ≤ 6 ∧ R = 2 ^ k ∧ ∀ i, i < 64 → X.testBit i = xo x.testBit R i) ∧ X < 18446744073709551616 ∧ r = .int .i64 (R : Int) ∧ v = .int .u64 (X : Int)) (fun _ r => 64 - (intOf r).toNat)
  case atStart => exact ⟨0, 1, x, ⟨by decide, by decide, fun i _ => (xo_one _ i).symm⟩, hx, rfl, rfl⟩
  case round =>
    obtain ⟨k, R, X, hk, hX, rfl, rfl⟩ := hrel
    by_cases hlt : k < 6
    · have h1 : R < 64 := by
        rw [hk.out.2.1]; exact Nat.lt_of_lt_of_le (Nat.pow_lt_pow_right (by decide) hlt) (by decide)
      have h0 : 0 < R := by rw [hk.out.2.1]; exact Nat.pow_pos (by decide)
      have e : bits BinOp.xor IntKind.u64 (X : Int) (IntKind.u64.wrap ((X : Int) * 2 ^ R)) = ((reach X R : Nat) : Int) := by
        rw [IntKind.wrap_u64, reach, ← bits_xor_nat X _ hX (Nat.mod_lt _ (by decide))]
        congr 1
      go_wp2
      go_round
      case rel => exact ⟨k + 1, R * 2, reach X R, ⟨hlt, by rw [hk.out.2.1, Nat.pow_succ], reach_bit hk.out.2.2⟩, reach_lt X R hX, by simp, rfl⟩
      case measure => simp [intOf]; omega
    · have hR : R = 64 := by rw [hk.out.2.1, show k = 6 by have := hk.out.1; omega]
      subst hR
      have hXS : X = S := (reach_done hX hk.out.2.2).trans hS.out
      subst hXS
      go_wp2
      go_ret
      exact ⟨rfl, rfl⟩

set_option maxRecDepth 10000 in
theorem refPrefix_calls (x S : Nat) (hx : x < 18446744073709551616) (hS : Hid (prefW x = S)) (w : World) : Calls Try.prog 8 #[.int .u64 (x:Int)] w fun e w' => e = .returned (.int .u64 (S : Int)) ∧ w' = w := by
  go_enter Try.func8, Try.ntmps8
  go_wp2
  go_loop [3, 4, 5] (fun o d i => ∃ n X : Nat, ∃ b : Bool, Hid (n ≤ 64 ∧ X = sumBits (fun i => parTo x (i + 1)) n ∧ b = parTo x n) ∧ o = .int .u64 (X : Int) ∧ d = .bool b ∧ i = .int .i64 (n : Int)) (fun _ _ i => 64 - (intOf i).toNat)
  case atStart => exact ⟨0, 0, false, ⟨by decide, rfl, rfl⟩, rfl, rfl, rfl⟩
  case round =>
    obtain ⟨n, X, b, hk, rfl, rfl, rfl⟩ := hrel
    have hX : X < 2 ^ n := by rw [hk.out.2.1]; exact sumBits_lt _ _
    by_cases hlt : n < 64
    · obtain ⟨e1, e2, e3⟩ := put_bit hX hlt
      have hnext : parTo x (n + 1) = (b ^^ x.testBit n) := by rw [parTo_succ, hk.out.2.2]
      go_wp2_with fail
      refine (has_calls x n hx hlt _).mono ?_
      rintro e w' ⟨rfl, rfl⟩
      cases hb : x.testBit n <;> cases b <;> go_wp2
      all_goals go_round
      all_goals first
        | (simp [intOf]; omega; done)
        | exact ⟨n + 1, X, _, ⟨hlt, next_f (g := fun i => parTo x (i + 1)) hk.out.2.1 (hnext.trans (by rw [hb]; rfl)), (hnext.trans (by rw [hb]; rfl)).symm⟩, rfl, rfl, by simp⟩
        | exact ⟨n + 1, X + 2 ^ n, _, ⟨hlt, next_t (g := fun i => parTo x (i + 1)) hk.out.2.1 (hnext.trans (by rw [hb]; rfl)), (hnext.trans (by rw [hb]; rfl)).symm⟩, by simp, rfl, by simp⟩
    · have hn : n = 64 := by have := hk.out.1; omega
      subst hn
      have hXS : X = S := hk.out.2.1.trans hS.out
      subst hXS
      go_wp2
      go_ret
      exact ⟨rfl, rfl⟩

theorem add64_int (a b : Nat) (c : Bool) (w : World) (ha : a < 18446744073709551616) (hb : b < 18446744073709551616) :
    (callFunc 9 #[.int .u64 (a : Int), .int .u64 (b : Int), .int .u64 (c.toNat : Int)]).run Try.prog w =
      .ok (.value (.tuple #[.int .u64 ((addS a b c 64 : Nat) : Int), .int .u64 (((addC a b c 64).toNat : Nat) : Int)])) w := by
  have hw := add_whole a b c ha hb
  have hl := addS_lt a b c 64
  have hc : c.toNat ≤ 1 := by cases c <;> decide
  rw [run_callFunc_extern Try.func9 (by kernel_rfl) (by kernel_rfl) (by kernel_rfl) (e := add64Entry) (by kernel_rfl), run_add64 a b c.toNat (by omega) (by omega) (by omega) (by omega)]
  simp only [Result.andThen]
  have e1 : ((a : Int) + b + c.toNat) % 18446744073709551616 = ((addS a b c 64 : Nat) : Int) := by split at hw <;> omega
  have e2 : ((a : Int) + b + c.toNat) / 18446744073709551616 = (((addC a b c 64).toNat : Nat) : Int) := by
    cases h : addC a b c 64 <;> simp [h] at hw ⊢ <;> omega
  rw [e1, e2]

set_option maxRecDepth 10000 in
theorem add_calls (a b S : Nat) (c C : Bool) (ha : a < 18446744073709551616) (hb : b < 18446744073709551616) (hS : Hid (addS a b c 64 = S ∧ addC a b c 64 = C)) (w : World) :
    Calls Try.prog 5 #[.int .u64 (a : Int), .int .u64 (b : Int), .bool c] w fun e w' => e = .returned (.tuple #[.int .u64 (S : Int), .bool C]) ∧ w' = w := by
  have h := fun w => add64_int a b c w ha hb
  rw [hS.out.1, hS.out.2] at h
  go_enter Try.func5, Try.ntmps5
  cases c <;> cases C <;> simp only [Bool.toNat_false, Bool.toNat_true, Int.ofNat_zero, Int.ofNat_one] at h <;> go_wp2 <;> go_ret2 <;> exact ⟨rfl, rfl⟩

set_option maxRecDepth 10000 in
theorem refAdd_calls (a b S : Nat) (c C : Bool) (ha : a < 18446744073709551616) (hb : b < 18446744073709551616) (hS : Hid (addS a b c 64 = S ∧ addC a b c 64 = C)) (w : World) :
    Calls Try.prog 6 #[.int .u64 (a : Int), .int .u64 (b : Int), .bool c] w fun e w' => e = .returned (.tuple #[.int .u64 (S : Int), .bool C]) ∧ w' = w := by
  go_enter Try.func6, Try.ntmps6
  go_wp2
  go_loop [2, 8, 9] (fun d o i => ∃ n X : Nat, ∃ b' : Bool, Hid (n ≤ 64 ∧ X = sumBits (fun i => (a.testBit i != b.testBit i) != addC a b c i) n ∧ b' = addC a b c n) ∧ o = .int .u64 (X : Int) ∧ d = .bool b' ∧ i = .int .i64 (n : Int)) (fun _ _ i => 64 - (intOf i).toNat)
  case atStart => exact ⟨0, 0, c, ⟨by decide, rfl, rfl⟩, rfl, rfl, rfl⟩
  case round =>
    obtain ⟨n, X, d, hk, rfl, rfl, rfl⟩ := hrel
    have hX : X < 2 ^ n := by rw [hk.out.2.1]; exact sumBits_lt _ _
    by_cases hlt : n < 64
    · obtain ⟨e1, e2, e3⟩ := put_bit hX hlt
      have hnext : addC a b c (n + 1) = ((a.testBit n && b.testBit n) || (d && (a.testBit n || b.testBit n))) := by rw [hk.out.2.2]; rfl
      have hbit : ((a.testBit n != b.testBit n) != addC a b c n) = ((a.testBit n != b.testBit n) != d) := by rw [hk.out.2.2]
      go_wp2_with fail
      refine (has_calls a n ha hlt _).mono ?_
      rintro e w' ⟨rfl, rfl⟩
      go_wp2_with fail
      refine (has_calls b n hb hlt _).mono ?_
      rintro e w'' ⟨rfl, rfl⟩
      cases hp : a.testBit n <;> cases hq : b.testBit n <;> cases d <;> go_wp2
      all_goals go_round
      all_goals first
        | (simp [intOf]; omega; done)
        | exact ⟨n + 1, X, _, ⟨hlt, next_f (g := fun i => (a.testBit i != b.testBit i) != addC a b c i) hk.out.2.1 (hbit.trans (by rw [hp, hq]; rfl)), (hnext.trans (by rw [hp, hq]; rfl)).symm⟩, rfl, rfl, by simp⟩
        | exact ⟨n + 1, X + 2 ^ n, _, ⟨hlt, next_t (g := fun i => (a.testBit i != b.testBit i) != addC a b c i) hk.out.2.1 (hbit.trans (by rw [hp, hq]; rfl)), (hnext.trans (by rw [hp, hq]; rfl)).symm⟩, by simp, rfl, by simp⟩
    · have hn : n = 64 := by have := hk.out.1; omega
      subst hn
      have hXS : X = S := hk.out.2.1.trans hS.out.1
      have hdC : d = C := hk.out.2.2.trans hS.out.2
      subst hXS hdC
      go_wp2
      go_ret2
      exact ⟨rfl, rfl⟩
end Go.Proofs.Ytkoillfkillohaa
