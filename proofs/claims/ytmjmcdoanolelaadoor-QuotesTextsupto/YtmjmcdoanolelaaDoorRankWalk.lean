/-
  What math/bits.OnesCount64, math/bits.TrailingZeros64, words.Rank come to.
-/
import Derived.Test.YtmjmcdoanolelaaDoorWordsA
import Derived.Shelf.Spec.TrailingZeros
namespace Go.Proofs.YtmjmcdoanolelaaDoor
open Go.RowKit

theorem bits_and_i64_nat (a b : Nat) (ha : a < 9223372036854775808) (hb : b < 9223372036854775808) : bits .and .i64 (a : Int) (b : Int) = ((a &&& b : Nat) : Int) := by
  have hx : a &&& b < 2 ^ 63 := Nat.and_lt_two_pow _ hb
  have h1 : (BitVec.ofInt 64 (a : Int)).toNat = a := by
    rw [BitVec.ofInt_natCast, BitVec.toNat_ofNat]; exact Nat.mod_eq_of_lt (by omega)
  have h2 : (BitVec.ofInt 64 (b : Int)).toNat = b := by
    rw [BitVec.ofInt_natCast, BitVec.toNat_ofNat]; exact Nat.mod_eq_of_lt (by omega)
  show IntKind.i64.wrap ((BitVec.ofInt 64 (a : Int) &&& BitVec.ofInt 64 (b : Int)).toNat : Int) = _
  rw [BitVec.toNat_and, h1, h2]
  simp [IntKind.wrap, IntKind.signed, IntKind.bits]
  omega
theorem and_wrap {a b y : Nat} (h : a + b = y) (hy : y < 18446744073709551616) : IntKind.u64.wrap ((a : Int) + (b : Int)) = (y : Int) := by rw [IntKind.wrap_u64]; omega

set_option maxRecDepth 10000 in
set_option maxHeartbeats 1000000 in
theorem ones_calls (x N : Nat) (hx : x < 18446744073709551616) (hN : Hid (cnt x 64 = N)) (w : World) : Calls Tryd.prog 61 #[.int .u64 (x : Int)] w fun e w' => e = .returned (.int .i64 (N : Int)) ∧ w' = w := by
  have l1 := bm_lt p1 (fun b h => (p_fact b h).1) 8 x
  have l2 := bm_half p2 (fun b h => by have := p_fact b h; omega) 7 x
  have k1 := pop1 x
  have k2 := pop2 x
  have k3 := pop3 x
  obtain ⟨t1, t2, t3, q0, q1, q2, q3, q4, q5, q6, q7⟩ := pop4 x
  rw [hN.out] at q7
  simp only [Nat.reduceAdd, Nat.reducePow] at l1 l2
  generalize bm p1 8 x = y1 at *
  generalize bm p2 8 x = y2 at *
  generalize bm p3 8 x = y3 at *
  have b1 : bits BinOp.and IntKind.u64 ((x : Int) / 2) 6148914691236517205 = _ := bits_and_u64_nat (x / 2) 6148914691236517205 (by omega) (by decide)
  have b2 : bits BinOp.and IntKind.u64 (x : Int) 6148914691236517205 = _ := bits_and_u64_nat x 6148914691236517205 hx (by decide)
  have b3 : bits BinOp.and IntKind.u64 ((y1 : Int) / 4) 3689348814741910323 = _ := bits_and_u64_nat (y1 / 4) 3689348814741910323 (by omega) (by decide)
  have b4 : bits BinOp.and IntKind.u64 (y1 : Int) 3689348814741910323 = _ := bits_and_u64_nat y1 3689348814741910323 l1 (by decide)
  have l2' : y2 / 16 + y2 < 18446744073709551616 := by omega
  have w3 : IntKind.u64.wrap ((y2 : Int) / 16 + (y2 : Int)) = ((y2 / 16 + y2 : Nat) : Int) := by rw [IntKind.wrap_u64]; omega
  have b5 : bits BinOp.and IntKind.u64 ((y2 / 16 + y2 : Nat) : Int) 1085102592571150095 = _ := bits_and_u64_nat (y2 / 16 + y2) 1085102592571150095 l2' (by decide)
  rw [k3] at b5
  generalize x / 2 &&& 6148914691236517205 = a1 at *
  generalize x &&& 6148914691236517205 = a2 at *
  generalize y1 / 4 &&& 3689348814741910323 = a3 at *
  generalize y1 &&& 3689348814741910323 = a4 at *
  have w1 := and_wrap k1 l1
  have w2 := and_wrap k2 (by omega)
  generalize y2 / 16 + y2 = a5 at *
  have w4 : IntKind.u64.wrap ((y3 : Int) + (y3 : Int) / 256) = (t1 : Int) := by rw [IntKind.wrap_u64]; omega
  have w5 : IntKind.u64.wrap ((t1 : Int) + (t1 : Int) / 65536) = (t2 : Int) := by rw [IntKind.wrap_u64]; omega
  have w6 : IntKind.u64.wrap ((t2 : Int) + (t2 : Int) / 4294967296) = (t3 : Int) := by rw [IntKind.wrap_u64]; omega
  clear k1 k2 k3 q1 q3 q5
  have b6 : bits BinOp.and IntKind.i64 (t3 : Int) 127 = _ := bits_and_i64_nat t3 127 q6 (by decide)
  rw [show t3 &&& 127 = N from (Nat.and_two_pow_sub_one_eq_mod t3 7).trans q7] at b6
  go_enter Tryd.func61, Tryd.ntmps61
  go_wp2
  go_ret
  exact ⟨rfl, rfl⟩

/-- The table of math/bits lies in its variable. -/
abbrev Tab (w : World) : Prop := TabAt 0 Lib.deBruijn64tab w
theorem Tab.below {n₀ : Nat} {w w' : World} (h : Tab w) (hb : Below n₀ w w') (h0 : 0 < n₀) : Tab w' := fun j hj => (hb.cell (p := ⟨0, j, none⟩) h0).trans (h j hj)

set_option maxHeartbeats 1000000 in
theorem tz_core (x k idx : Nat) (w : World) (hx0 : ((x : Int) == 0) = false)
    (key : IntKind.u64.wrap (bits BinOp.and IntKind.u64 (x : Int) (IntKind.u64.wrap (-(x : Int))) * 285870213051353865) / 288230376151711744 = (idx : Int))
    (hi : idx < 64) (hk : k < 64) (hcell : w.cell? ⟨0, idx, none⟩ = some (.int .u8 k)) :
    Calls Tryd.prog 57 #[.int .u64 x] w fun e w' => e = .returned (.int .i64 k) ∧ w' = w := by
  go_enter Tryd.func57, Tryd.ntmps57
  go_wp2_with (simp only [key])
  go_ret
  exact ⟨rfl, rfl⟩
theorem tz_zero (w : World) : Calls Tryd.prog 57 #[.int .u64 0] w fun e w' => e = .returned (.int .i64 64) ∧ w' = w := by
  go_enter Tryd.func57, Tryd.ntmps57
  go_wp2
  go_ret
  exact ⟨rfl, rfl⟩
theorem tz_calls (x K : Nat) (hx : x < 18446744073709551616) (hK : Hid (Lib.ctz 64 x = K)) (w : World) (hT : Tab w) :
    Calls Tryd.prog 57 #[.int .u64 (x : Int)] w fun e w' => e = .returned (.int .i64 (K : Int)) ∧ w' = w := by
  rw [← hK.out]
  by_cases hx0 : x = 0
  · subst hx0
    exact tz_zero w
  · obtain ⟨hlow, hk⟩ := Lib.lowest_bit 64 x hx0 hx
    obtain ⟨hi, htab⟩ := Lib.deBruijn64_at _ hk
    have hcell := hT _ hi
    rw [htab] at hcell
    exact tz_core x _ _ w (by simp; omega) (tz64_key x _ hx hx0 hlow) hi hk hcell

/-- How many are set below any number. -/
def rankW (x : Nat) (i : Int) : Nat := cnt x (min i.toNat 64)
set_option maxRecDepth 10000 in
theorem rank_calls (x R : Nat) (i : Int) (hx : x < 18446744073709551616) (hR : Hid (rankW x i = R)) (w : World) :
    Calls Tryd.prog 46 #[.int .u64 (x : Int), .int .i64 i] w fun e w' => e = .returned (.int .i64 (R : Int)) ∧ w' = w := by
  have hr := hR.out
  go_enter Tryd.func46, Tryd.ntmps46
  by_cases h0 : i ≤ 0
  · have : R = 0 := by rw [← hr, rankW, show min i.toNat 64 = 0 by omega]; rfl
    subst this
    clear hr hR
    go_wp2
    go_ret
    exact ⟨rfl, rfl⟩
  · obtain ⟨I, rfl⟩ := Int.eq_ofNat_of_zero_le (show 0 ≤ i by omega)
    have hI : 0 < I := by omega
    by_cases h64 : I < 64
    · have e : min ((I : Nat) : Int).toNat 64 = I := by simp; omega
      have hp : (2 : Nat) ^ I ≤ 9223372036854775808 := Nat.pow_le_pow_right (n := 2) (j := 63) (by decide) (by omega)
      have hp0 : 0 < (2 : Nat) ^ I := Nat.pow_pos (by decide)
      have b : bits BinOp.and IntKind.u64 (x : Int) (IntKind.u64.wrap (IntKind.u64.wrap ((2 : Int) ^ I) - 1)) = ((x % 2 ^ I : Nat) : Int) := by
        have w1 : IntKind.u64.wrap ((2 : Int) ^ I) = ((2 ^ I : Nat) : Int) := (put_bit (X := 0) (by omega) h64).1
        have w2 : IntKind.u64.wrap (((2 ^ I : Nat) : Int) - 1) = ((2 ^ I - 1 : Nat) : Int) := by rw [IntKind.wrap_u64]; omega
        rw [w1, w2, bits_and_u64_nat x _ hx (by omega), Nat.and_two_pow_sub_one_eq_mod]
      replace b : Hid _ := b
      have hm : x % 2 ^ I < 18446744073709551616 := Nat.lt_of_le_of_lt (Nat.mod_le _ _) hx
      have hN : Hid (cnt (x % 2 ^ I) 64 = R) := by
        show _ = _
        rw [cnt_mod x I 64 (by omega), ← hr, rankW, e]
      have hcall : Hid (∀ w, Calls Tryd.prog 61 #[.int .u64 ((x % 2 ^ I : Nat) : Int)] w fun e w' => e = .returned (.int .i64 (R : Int)) ∧ w' = w) := fun w => ones_calls (x % 2 ^ I) R hm hN w
      clear hr hR e hN hp hp0 hm h0
      go_wp2_with fail
      rw [b.out]
      refine (hcall.out _).mono ?_
      rintro e w' ⟨rfl, rfl⟩
      go_wp2
      go_ret
      exact ⟨rfl, rfl⟩
    · have e : min ((I : Nat) : Int).toNat 64 = 64 := by simp; omega
      have b : bits BinOp.and IntKind.u64 (x : Int) (IntKind.u64.wrap (IntKind.u64.wrap ((2 : Int) ^ min I 64) - 1)) = (x : Int) := by
        rw [show min I 64 = 64 by omega, show IntKind.u64.wrap (IntKind.u64.wrap ((2 : Int) ^ 64) - 1) = ((18446744073709551615 : Nat) : Int) by decide, bits_and_u64_nat x 18446744073709551615 hx (by decide)]
        exact congrArg (fun n : Nat => (n : Int)) ((Nat.and_two_pow_sub_one_eq_mod x 64).trans (Nat.mod_eq_of_lt hx))
      replace b : Hid _ := b
      have hN : Hid (cnt x 64 = R) := by
        show _ = _
        rw [← hr, rankW, e]
      have hcall : Hid (∀ w, Calls Tryd.prog 61 #[.int .u64 (x : Int)] w fun e w' => e = .returned (.int .i64 (R : Int)) ∧ w' = w) := fun w => ones_calls x R hx hN w
      clear hr hR e hN h0
      go_wp2_with fail
      rw [b.out]
      refine (hcall.out _).mono ?_
      rintro e w' ⟨rfl, rfl⟩
      go_wp2
      go_ret
      exact ⟨rfl, rfl⟩

end Go.Proofs.YtmjmcdoanolelaaDoor
