/-
  Plain facts on eight answers in a byte, and on bytes of words that are turned.
-/
import Derived.Test.YtnilalgoehphaaaLanesWhich
import Derived.Test.YtnilalgoehphaaaLanesLoad
namespace Go.Proofs.Ytnilalgoehphaaa
open Go.RowKit

theorem maskTo_testBit (p : Nat → Bool) (W n i : Nat) : (maskTo p W n).testBit i = (decide (i < n) && p (byteOf W i)) := by
  induction n with
  | zero => simp [maskTo]
  | succ n ih =>
    cases h : p (byteOf W n)
    · rw [maskTo_off p W n h, ih]
      by_cases e : i = n
      · subst e; simp [h]
      · rw [show decide (i < n + 1) = decide (i < n) by rw [decide_eq_decide]; omega]
    · rw [← maskTo_or p W n h, Nat.testBit_or, ih, Nat.testBit_two_pow]
      by_cases e : i = n
      · subst e; simp [h]
      · rw [show decide (i < n + 1) = decide (i < n) by rw [decide_eq_decide]; omega, show decide (n = i) = false by simp; omega]; simp
theorem mask8_testBit (p : Nat → Bool) (W i : Nat) : (mask8 p W).testBit i = (decide (i < 8) && p (byteOf W i)) := maskTo_testBit p W 8 i
theorem mask8_lt (p : Nat → Bool) (W : Nat) : mask8 p W < 256 := maskTo_lt p W 8
theorem mask8_congr (p r : Nat → Bool) (W V : Nat) (h : ∀ i, i < 8 → p (byteOf W i) = r (byteOf V i)) : mask8 p W = mask8 r V := by
  apply Nat.eq_of_testBit_eq
  intro i
  rw [mask8_testBit, mask8_testBit]
  by_cases e : i < 8
  · rw [h i e]
  · simp [e]
theorem mask8_and (p r : Nat → Bool) (W : Nat) : mask8 p W &&& mask8 r W = mask8 (fun x => p x && r x) W := by
  apply Nat.eq_of_testBit_eq
  intro i
  rw [Nat.testBit_and, mask8_testBit, mask8_testBit, mask8_testBit]
  cases decide (i < 8) <;> simp
theorem mask8_or (p r : Nat → Bool) (W : Nat) : mask8 p W ||| mask8 r W = mask8 (fun x => p x || r x) W := by
  apply Nat.eq_of_testBit_eq
  intro i
  rw [Nat.testBit_or, mask8_testBit, mask8_testBit, mask8_testBit]
  cases decide (i < 8) <;> simp
theorem mask8_none (W : Nat) : mask8 (fun _ => false) W = 0 := by
  apply Nat.eq_of_testBit_eq
  intro i
  rw [mask8_testBit]; simp
theorem mask8_all (W : Nat) : mask8 (fun _ => true) W = 255 := by
  apply Nat.eq_of_testBit_eq
  intro i
  rw [mask8_testBit, show (255 : Nat) = 2 ^ 8 - 1 from rfl, Nat.testBit_two_pow_sub_one]; simp
/-- The bit i alone. -/
theorem mask8_bit (p : Nat → Bool) (W i : Nat) (hi : i < 8) : mask8 p W &&& 2 ^ i = if p (byteOf W i) then 2 ^ i else 0 := by
  apply Nat.eq_of_testBit_eq
  intro j
  rw [Nat.testBit_and, mask8_testBit, Nat.testBit_two_pow]
  by_cases e : i = j
  · subst e
    cases h : p (byteOf W i) <;> simp [hi]
  · rw [show decide (i = j) = false by simp [e], Bool.and_false]
    cases p (byteOf W i)
    · simp
    · rw [if_pos rfl, Nat.testBit_two_pow]; simp [e]

theorem byteOf_shift (W i : Nat) : byteOf W i = (W >>> (8 * i)) % 2 ^ 8 := by
  rw [← shift_byte, Nat.shiftRight_eq_div_pow]
theorem byteOf_xor (W V i : Nat) : byteOf (W ^^^ V) i = byteOf W i ^^^ byteOf V i := by
  rw [byteOf_shift, byteOf_shift, byteOf_shift, Nat.shiftRight_xor_distrib, Nat.xor_mod_two_pow]
theorem byteOf_fill (c i : Nat) (hc : c < 256) (hi : i < 8) : byteOf (fillOf c) i = c := byteOf_load (fun _ => c) (fun _ => hc) 8 i hi
theorem xor128 : ∀ x, x < 256 → x ^^^ 128 = if x < 128 then x + 128 else x - 128 := by decide +kernel
theorem sgn_turn (x c : Nat) (hx : x < 256) (hc : c < 256) : lessB (sgn c) x = belowB (c ^^^ 128) (x ^^^ 128) := by
  rw [xor128 x hx, xor128 c hc]
  unfold lessB belowB sgn
  rw [decide_eq_decide]
  split <;> split <;> omega
theorem fillOf_lt (c : Nat) (hc : c < 256) : fillOf c < 18446744073709551616 := loadTo_lt (fun _ => c) (fun _ => hc) 8
theorem sum_fill (c n : Nat) (hc : c < 256) (hn : n ≤ 8) : sumTo (fillOf c) n = n * c := by
  induction n with
  | zero => simp [sumTo]
  | succ n ih =>
    have h1 := ih (by omega)
    show sumTo (fillOf c) n + byteOf (fillOf c) n = _
    rw [h1, byteOf_fill c n hc (by omega), Nat.add_mul]; omega
end Go.Proofs.Ytnilalgoehphaaa
