/-
  The walks of quarrylaw03.WordsParities and quarrylaw03.WordsTurns.
-/
import Derived.Test.YtkoillfkillohaaParityWalk
namespace Go.Proofs.Ytkoillfkillohaa
open Go.RowKit

theorem prefW_one : prefW 1 = 18446744073709551615 := by decide +kernel

set_option maxRecDepth 10000 in
theorem parities_nat (x y S P : Nat) (c C : Bool) (hx : x < 18446744073709551616) (hy : y < 18446744073709551616) (hS : Hid (addS x y c 64 = S ∧ addC x y c 64 = C)) (hP : Hid (prefW x = P)) (w : World) :
    Calls Try.prog 3 #[.int .u64 (x : Int), .int .u64 (y : Int), .bool c] w fun e w' => e = .returned (.bool true) ∧ w' = w := by
  go_enter Try.func3, Try.ntmps3
  go_wp2_with fail
  refine (add_calls x y S c C hx hy hS _).mono ?_
  rintro e w1 ⟨rfl, rfl⟩
  go_wp2_with fail
  refine (refAdd_calls x y S c C hx hy hS _).mono ?_
  rintro e w2 ⟨rfl, rfl⟩
  go_wp2_with fail
  refine (prefix_calls x P hx hP _).mono ?_
  rintro e w3 ⟨rfl, rfl⟩
  go_wp2_with fail
  refine (refPrefix_calls x P hx hP _).mono ?_
  rintro e w4 ⟨rfl, rfl⟩
  go_wp2_with fail
  refine (prefix_calls 1 18446744073709551615 (by decide) prefW_one _).mono ?_
  rintro e w5 ⟨rfl, rfl⟩
  go_wp2
  go_ret
  exact ⟨rfl, rfl⟩

theorem wordsParities_walk (x : Int) (h0 : (Lit.int .u64 x).wf = true) (y : Int) (h1 : (Lit.int .u64 y).wf = true) (c : Bool) (w : World) :
    Calls Try.prog 3 #[.int .u64 x, .int .u64 y, .bool c] w fun e w' => e = .returned (.bool true) ∧ Below w.heap.size w w' := by
  obtain ⟨c0, c1⟩ := wf_u64 h0
  obtain ⟨X, rfl⟩ := Int.eq_ofNat_of_zero_le c0
  obtain ⟨d0, d1⟩ := wf_u64 h1
  obtain ⟨Y, rfl⟩ := Int.eq_ofNat_of_zero_le d0
  exact (parities_nat X Y _ _ c _ (by omega) (by omega) ⟨rfl, rfl⟩ rfl w).mono fun e w' ⟨h, h'⟩ => ⟨h, by subst h'; exact Below.refl _ _⟩

theorem turn_pref (x P : Nat) (hx : x < 18446744073709551616) (hP : prefW x = P) : bits BinOp.xor IntKind.u64 (P : Int) (IntKind.u64.wrap ((P : Int) * 2)) = (x : Int) := by
  have hl : P < 18446744073709551616 := hP ▸ prefW_lt x
  have e : IntKind.u64.wrap ((P : Int) * 2) = ((P * 2 ^ 1 % 18446744073709551616 : Nat) : Int) := by rw [IntKind.wrap_u64]; omega
  rw [e, bits_xor_nat _ _ hl (Nat.mod_lt _ (by decide))]
  refine congrArg (fun n : Nat => (n : Int)) ?_
  apply Nat.eq_of_testBit_eq
  intro i
  rw [Nat.testBit_xor, show (18446744073709551616 : Nat) = 2 ^ 64 by decide, Nat.testBit_mod_two_pow, Nat.testBit_mul_two_pow]
  by_cases hi : i < 64
  · rw [← hP, prefW_bit x i hi]
    cases i with
    | zero => simp [parTo]
    | succ i =>
      rw [show i + 1 - 1 = i from rfl, prefW_bit x i (by omega), parTo_succ x (i + 1)]
      simp [hi]
      cases parTo x (i + 1) <;> simp
  · rw [bit_hi hl (by omega), bit_hi hx (by omega)]
    simp [hi]
theorem turn_two (x y : Nat) : prefW (x ^^^ y) = prefW x ^^^ prefW y := by
  apply sumBits_eq (Nat.xor_lt_two_pow (n := 64) (prefW_lt x) (prefW_lt y))
  intro i hi
  rw [Nat.testBit_xor, prefW_bit x i hi, prefW_bit y i hi, parTo_xor]
theorem turn_add (x y S : Nat) (c C : Bool) (hx : x < 18446744073709551616) (hy : y < 18446744073709551616) (hS : addS x y c 64 = S ∧ addC x y c 64 = C) :
    IntKind.u64.wrap (IntKind.u64.wrap ((S : Int) - y) - c.toNat) = x ∧ (S < 18446744073709551616 ∧ C = (decide (S < x) || (decide (S = x) && c))) := by
  have h := add_whole x y c hx hy
  have hl := addS_lt x y c 64
  rw [hS.1, hS.2] at h
  rw [hS.1] at hl
  rw [IntKind.wrap_u64, IntKind.wrap_u64]
  cases c <;> cases C <;> simp at h ⊢ <;> omega

set_option maxRecDepth 10000 in
set_option maxHeartbeats 2000000 in
theorem turns_nat (x y S P Q : Nat) (c C : Bool) (hx : x < 18446744073709551616) (hy : y < 18446744073709551616) (hS : Hid (addS x y c 64 = S ∧ addC x y c 64 = C)) (hP : Hid (prefW x = P)) (hQ : Hid (prefW y = Q)) (w : World) :
    Calls Try.prog 4 #[.int .u64 (x : Int), .int .u64 (y : Int), .bool c] w fun e w' => e = .returned (.bool true) ∧ w' = w := by
  have hp := turn_pref x P hx hP.out
  have hPl : P < 18446744073709551616 := hP.out ▸ prefW_lt x
  have hQl : Q < 18446744073709551616 := hQ.out ▸ prefW_lt y
  have hxy := bits_xor_nat x y hx hy
  have hpq := bits_xor_nat P Q hPl hQl
  have hT : Hid (prefW (x ^^^ y) = P ^^^ Q) := (turn_two x y).trans (by rw [hP.out, hQ.out])
  obtain ⟨ha, hl, hC⟩ := turn_add x y S c C hx hy hS.out
  go_enter Try.func4, Try.ntmps4
  go_wp2_with fail
  refine (prefix_calls x P hx hP _).mono ?_
  rintro e w1 ⟨rfl, rfl⟩
  go_wp2_with fail
  refine (add_calls x y S c C hx hy hS _).mono ?_
  rintro e w2 ⟨rfl, rfl⟩
  cases c
  · have ha' : IntKind.u64.wrap (IntKind.u64.wrap ((S : Int) - y)) = (x : Int) := by simpa using ha
    by_cases h1 : S < x
    · obtain rfl : C = true := by rw [hC]; simp [h1]
      clear hC ha
      go_wp2_with fail
      refine (prefix_calls (x ^^^ y) (P ^^^ Q) (Nat.xor_lt_two_pow (n := 64) hx hy) hT _).mono ?_
      rintro e w3 ⟨rfl, rfl⟩
      go_wp2_with fail
      refine (prefix_calls y Q hy hQ _).mono ?_
      rintro e w4 ⟨rfl, rfl⟩
      go_wp2
      go_ret
      exact ⟨rfl, rfl⟩
    · obtain rfl : C = false := by rw [hC]; simp [h1]
      by_cases h2 : S = x
      · have h2s := h2.symm; subst h2s
        clear hC ha
        go_wp2_with fail
        refine (prefix_calls (x ^^^ y) (P ^^^ Q) (Nat.xor_lt_two_pow (n := 64) hx hy) hT _).mono ?_
        rintro e w3 ⟨rfl, rfl⟩
        go_wp2_with fail
        refine (prefix_calls y Q hy hQ _).mono ?_
        rintro e w4 ⟨rfl, rfl⟩
        go_wp2
        go_ret
        exact ⟨rfl, rfl⟩
      · have h3 : ((S : Int) == x) = false := by simp; omega
        clear hC ha
        go_wp2_with fail
        refine (prefix_calls (x ^^^ y) (P ^^^ Q) (Nat.xor_lt_two_pow (n := 64) hx hy) hT _).mono ?_
        rintro e w3 ⟨rfl, rfl⟩
        go_wp2_with fail
        refine (prefix_calls y Q hy hQ _).mono ?_
        rintro e w4 ⟨rfl, rfl⟩
        go_wp2
        go_ret
        exact ⟨rfl, rfl⟩
  · have ha' : IntKind.u64.wrap (IntKind.u64.wrap ((S : Int) - y) - 1) = (x : Int) := ha
    by_cases h1 : S < x
    · obtain rfl : C = true := by rw [hC]; simp [h1]
      clear hC ha
      go_wp2_with fail
      refine (prefix_calls (x ^^^ y) (P ^^^ Q) (Nat.xor_lt_two_pow (n := 64) hx hy) hT _).mono ?_
      rintro e w3 ⟨rfl, rfl⟩
      go_wp2_with fail
      refine (prefix_calls y Q hy hQ _).mono ?_
      rintro e w4 ⟨rfl, rfl⟩
      go_wp2
      go_ret
      exact ⟨rfl, rfl⟩
    · by_cases h2 : S = x
      · have h2s := h2.symm; subst h2s
        obtain rfl : C = true := by rw [hC]; simp
        clear hC ha
        go_wp2_with fail
        refine (prefix_calls (x ^^^ y) (P ^^^ Q) (Nat.xor_lt_two_pow (n := 64) hx hy) hT _).mono ?_
        rintro e w3 ⟨rfl, rfl⟩
        go_wp2_with fail
        refine (prefix_calls y Q hy hQ _).mono ?_
        rintro e w4 ⟨rfl, rfl⟩
        go_wp2
        go_ret
        exact ⟨rfl, rfl⟩
      · obtain rfl : C = false := by rw [hC]; simp [h1, h2]
        have h3 : ((S : Int) == x) = false := by simp; omega
        clear hC ha
        go_wp2_with fail
        refine (prefix_calls (x ^^^ y) (P ^^^ Q) (Nat.xor_lt_two_pow (n := 64) hx hy) hT _).mono ?_
        rintro e w3 ⟨rfl, rfl⟩
        go_wp2_with fail
        refine (prefix_calls y Q hy hQ _).mono ?_
        rintro e w4 ⟨rfl, rfl⟩
        go_wp2
        go_ret
        exact ⟨rfl, rfl⟩

theorem wordsTurns_walk (x : Int) (h0 : (Lit.int .u64 x).wf = true) (y : Int) (h1 : (Lit.int .u64 y).wf = true) (c : Bool) (w : World) :
    Calls Try.prog 4 #[.int .u64 x, .int .u64 y, .bool c] w fun e w' => e = .returned (.bool true) ∧ Below w.heap.size w w' := by
  obtain ⟨c0, c1⟩ := wf_u64 h0
  obtain ⟨X, rfl⟩ := Int.eq_ofNat_of_zero_le c0
  obtain ⟨d0, d1⟩ := wf_u64 h1
  obtain ⟨Y, rfl⟩ := Int.eq_ofNat_of_zero_le d0
  exact (turns_nat X Y _ _ _ c _ (by omega) (by omega) ⟨rfl, rfl⟩ rfl rfl w).mono fun e w' ⟨h, h'⟩ => ⟨h, by subst h'; exact Below.refl _ _⟩
end Go.Proofs.Ytkoillfkillohaa
