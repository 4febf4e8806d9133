/-
  Of no program: words told by their bits; parities; sums bit by bit.
-/
import Derived.Test.YtmbkcnhkbpaagabDoorKit
import Derived.Laws.Bits64b
namespace Go.Proofs.YtmbkcnhkbpaagabDoor

/-- The number whose bits below n are g's. -/
def sumBits (g : Nat → Bool) : Nat → Nat
  | 0 => 0
  | n + 1 => sumBits g n + (if g n then 2 ^ n else 0)
theorem sumBits_succ (g : Nat → Bool) (n : Nat) : sumBits g (n + 1) = sumBits g n + (if g n then 2 ^ n else 0) := rfl
theorem sumBits_lt (g : Nat → Bool) (n : Nat) : sumBits g n < 2 ^ n := by
  induction n with
  | zero => simp [sumBits]
  | succ n ih =>
    rw [sumBits_succ, Nat.pow_succ]
    split <;> omega
theorem sumBits_bit (g : Nat → Bool) (n i : Nat) : (sumBits g n).testBit i = (decide (i < n) && g i) := by
  induction n with
  | zero => simp [sumBits]
  | succ n ih =>
    have h := sumBits_lt g n
    have h' := sumBits_lt g (n + 1)
    rcases Nat.lt_trichotomy i n with hi | hi | hi
    · rw [sumBits_succ]
      have e : decide (i < n + 1) = true := by simp; omega
      rw [e]
      split
      · rw [Nat.add_comm, Nat.testBit_two_pow_add_gt hi, ih]; simp [hi]
      · rw [Nat.add_zero, ih]; simp [hi]
    · subst hi
      rw [sumBits_succ]
      have e : decide (i < i + 1) = true := by simp
      have h0 : (sumBits g i).testBit i = false := Nat.testBit_lt_two_pow h
      rw [e]
      split
      · rename_i hg; rw [Nat.add_comm, Nat.testBit_two_pow_add_eq, h0, hg]; rfl
      · rename_i hg; rw [Nat.add_zero, h0]; simp at hg; rw [hg]; rfl
    · have e : decide (i < n + 1) = false := by simp; omega
      rw [e, Bool.false_and]
      exact Nat.testBit_lt_two_pow (Nat.lt_of_lt_of_le h' (Nat.pow_le_pow_right (by decide) hi))
theorem next_t {g : Nat → Bool} {n X : Nat} (h : X = sumBits g n) (hg : g n = true) : X + 2 ^ n = sumBits g (n + 1) := by rw [sumBits_succ, hg, h]; rfl
theorem next_f {g : Nat → Bool} {n X : Nat} (h : X = sumBits g n) (hg : g n = false) : X = sumBits g (n + 1) := by rw [sumBits_succ, hg, h]; rfl
/-- The bit n put in by a sum. -/
theorem put_bit {X n : Nat} (hX : X < 2 ^ n) (hn : n < 64) : IntKind.u64.wrap ((2 : Int) ^ n) = ((2 ^ n : Nat) : Int) ∧ IntKind.u64.wrap ((X : Int) + ((2 ^ n : Nat) : Int)) = ((X + 2 ^ n : Nat) : Int) ∧ IntKind.u64.wrap ((X : Int) + 2 ^ n) = ((X + 2 ^ n : Nat) : Int) := by
  have hp : (2 : Nat) ^ n * 2 ≤ 18446744073709551616 := by
    rw [← Nat.pow_succ]; exact Nat.pow_le_pow_right (by decide) (Nat.succ_le_of_lt hn)
  have e : ((X : Int) + 2 ^ n) = ((X + 2 ^ n : Nat) : Int) := by simp
  have e1 : ((2 : Int) ^ n) = ((2 ^ n : Nat) : Int) := by simp
  rw [IntKind.wrap_u64, IntKind.wrap_u64, IntKind.wrap_u64, e, e1]
  omega
theorem sumBits_eq {g : Nat → Bool} {X : Nat} (hX : X < 2 ^ 64) (h : ∀ i, i < 64 → X.testBit i = g i) : sumBits g 64 = X := by
  apply Nat.eq_of_testBit_eq
  intro i
  rw [sumBits_bit]
  by_cases hi : i < 64
  · simp [hi, h i hi]
  · have : X.testBit i = false := Nat.testBit_lt_two_pow (Nat.lt_of_lt_of_le hX (Nat.pow_le_pow_right (by decide) (by omega)))
    simp [hi, this]
theorem and_one (x i : Nat) : (x / 2 ^ i &&& 1) = (x.testBit i).toNat := by
  rw [Nat.and_one_is_mod, Nat.testBit_eq_decide_div_mod_eq]
  have := Nat.mod_two_eq_zero_or_one (x / 2 ^ i)
  rcases this with h | h <;> simp [h]
theorem bit_hi {x : Nat} (hx : x < 2 ^ 64) {i : Nat} (hi : 64 ≤ i) : x.testBit i = false :=
  Nat.testBit_lt_two_pow (Nat.lt_of_lt_of_le hx (Nat.pow_le_pow_right (by decide) hi))

/-- Odd or even: the m bits that end with the bit i. -/
def xo (f : Nat → Bool) : Nat → Nat → Bool
  | 0, _ => false
  | m + 1, i => xo f m i ^^ (decide (m ≤ i) && f (i - m))
theorem xo_one (f : Nat → Bool) (i : Nat) : xo f 1 i = f i := by simp [xo]
theorem xo_add (f : Nat → Bool) (m n i : Nat) : xo f (m + n) i = (xo f m i ^^ (decide (m ≤ i) && xo f n (i - m))) := by
  induction n with
  | zero => simp [xo]
  | succ n ih =>
    show (xo f (m + n) i ^^ (decide (m + n ≤ i) && f (i - (m + n)))) = _
    rw [ih]
    simp only [xo]
    by_cases h : m ≤ i
    · by_cases h2 : m + n ≤ i
      · have h3 : n ≤ i - m := by omega
        simp [h, h2, h3, Nat.sub_sub]
      · have h3 : ¬ n ≤ i - m := by omega
        simp [h, h2, h3]
    · have h2 : ¬ m + n ≤ i := by omega
      simp [h, h2]
/-- Odd or even: the bits below n. -/
def parTo (x : Nat) : Nat → Bool
  | 0 => false
  | n + 1 => parTo x n ^^ x.testBit n
theorem parTo_succ (x n : Nat) : parTo x (n + 1) = (parTo x n ^^ x.testBit n) := rfl
theorem xo_par (x i : Nat) (hi : i < 64) : xo x.testBit 64 i = parTo x (i + 1) := by
  induction i with
  | zero =>
    have := xo_add x.testBit 1 63 0
    simp at this
    rw [this]; simp [xo, parTo]
  | succ i ih =>
    have h1 : xo x.testBit 64 (i + 1) = (xo x.testBit 1 (i + 1) ^^ (decide (1 ≤ i + 1) && xo x.testBit 63 (i + 1 - 1))) := xo_add x.testBit 1 63 (i + 1)
    have h4 : decide (1 ≤ i + 1) = true := by simp
    have h2 : xo x.testBit 64 i = (xo x.testBit 63 i ^^ (decide (63 ≤ i) && x.testBit (i - 63))) := rfl
    have h3 : decide (63 ≤ i) = false := by simp; omega
    rw [h3, Bool.false_and, Bool.xor_false] at h2
    rw [xo_one, h4, Bool.true_and, Nat.add_sub_cancel] at h1
    rw [h1, ← h2, ih (by omega), parTo_succ x (i + 1), Bool.xor_comm]
/-- Of two words: each bit's parity. -/
theorem parTo_xor (x y n : Nat) : parTo (x ^^^ y) n = (parTo x n ^^ parTo y n) := by
  induction n with
  | zero => rfl
  | succ n ih => rw [parTo_succ, parTo_succ, parTo_succ, ih, Nat.testBit_xor]; cases parTo x n <;> cases parTo y n <;> cases x.testBit n <;> cases y.testBit n <;> rfl
def prefW (x : Nat) : Nat := sumBits (fun i => parTo x (i + 1)) 64
theorem prefW_lt (x : Nat) : prefW x < 18446744073709551616 := sumBits_lt _ 64
theorem prefW_bit (x i : Nat) (hi : i < 64) : (prefW x).testBit i = parTo x (i + 1) := by rw [prefW, sumBits_bit]; simp [hi]

/-- One doubling. -/
def reach (X R : Nat) : Nat := X ^^^ (X * 2 ^ R % 18446744073709551616)
theorem reach_lt (X R : Nat) (h : X < 18446744073709551616) : reach X R < 18446744073709551616 := Nat.xor_lt_two_pow (n := 64) h (Nat.mod_lt _ (by decide))
theorem reach_bit {f : Nat → Bool} {X R : Nat} (hX : ∀ i, i < 64 → X.testBit i = xo f R i) : ∀ i, i < 64 → (reach X R).testBit i = xo f (R * 2) i := by
  intro i hi
  have e : (X * 2 ^ R % 18446744073709551616).testBit i = (decide (R ≤ i) && X.testBit (i - R)) := by
    have := Nat.testBit_mod_two_pow (X * 2 ^ R) 64 i
    rw [show (18446744073709551616 : Nat) = 2 ^ 64 by decide, this, Nat.testBit_mul_two_pow]
    simp [hi]
  rw [reach, Nat.testBit_xor, e, hX i hi, hX (i - R) (by omega), Nat.mul_two, xo_add]
theorem reach_done {x X : Nat} (hX : X < 18446744073709551616) (h : ∀ i, i < 64 → X.testBit i = xo x.testBit 64 i) : X = prefW x :=
  (sumBits_eq hX fun i hi => by rw [h i hi, xo_par x i hi]).symm

/-- The carry into the bit n of a sum. -/
def addC (a b : Nat) (c : Bool) : Nat → Bool
  | 0 => c
  | n + 1 => (a.testBit n && b.testBit n) || (addC a b c n && (a.testBit n || b.testBit n))
def addS (a b : Nat) (c : Bool) (n : Nat) : Nat := sumBits (fun i => (a.testBit i != b.testBit i) != addC a b c i) n
theorem addS_lt (a b : Nat) (c : Bool) (n : Nat) : addS a b c n < 2 ^ n := sumBits_lt _ n
theorem mod_bit (x n : Nat) : x % 2 ^ (n + 1) = x % 2 ^ n + (if x.testBit n then 2 ^ n else 0) := by
  rw [Nat.mod_pow_succ, Nat.testBit_eq_decide_div_mod_eq]
  rcases Nat.mod_two_eq_zero_or_one (x / 2 ^ n) with h | h <;> simp [h]
theorem add_sum (a b : Nat) (c : Bool) (n : Nat) : a % 2 ^ n + b % 2 ^ n + c.toNat = addS a b c n + (if addC a b c n then 2 ^ n else 0) := by
  induction n with
  | zero => cases c <;> simp [addS, sumBits, addC, Nat.mod_one]
  | succ n ih =>
    rw [mod_bit, mod_bit]
    have e : addS a b c (n + 1) = addS a b c n + (if ((a.testBit n != b.testBit n) != addC a b c n) then 2 ^ n else 0) := rfl
    have e2 : addC a b c (n + 1) = ((a.testBit n && b.testBit n) || (addC a b c n && (a.testBit n || b.testBit n))) := rfl
    rw [e, e2, Nat.pow_succ]
    cases a.testBit n <;> cases b.testBit n <;> cases hc : addC a b c n <;> simp [hc] at ih ⊢ <;> omega
theorem add_whole (a b : Nat) (c : Bool) (ha : a < 18446744073709551616) (hb : b < 18446744073709551616) : a + b + c.toNat = addS a b c 64 + (if addC a b c 64 then 18446744073709551616 else 0) := by
  have h := add_sum a b c 64
  rw [Nat.mod_eq_of_lt ha, Nat.mod_eq_of_lt hb] at h
  exact h
theorem has_eq (x i : Nat) (hx : x < 18446744073709551616) : (bits BinOp.and IntKind.u64 ((x : Int) / 2 ^ i) 1 == 1) = x.testBit i := by
  have e : ((x : Int) / 2 ^ i) = ((x / 2 ^ i : Nat) : Int) := by simp
  have h := bits_and_u64_nat (x / 2 ^ i) 1 (Nat.lt_of_le_of_lt (Nat.div_le_self _ _) hx) (by decide)
  rw [e, show (1 : Int) = ((1 : Nat) : Int) from rfl, h, and_one]
  cases x.testBit i <;> rfl

end Go.Proofs.YtmbkcnhkbpaagabDoor
