/-
  WordsMath, WordsCount, WordsPlaces, WordsRunMath, WordsEscMath.
-/
import Derived.Test.YtlckhiflhnlgpaaGreatDoorKit
import Derived.Laws.Bits64b
import Derived.Lib.TrailingZeros
/-
  Of no program: words told by their bits; parities; sums bit by bit.
-/
namespace Go.Proofs.YtlckhiflhnlgpaaGreatDoor

/-- The number whose bits below n are g's. -/
def sumBits (g : Nat → Bool) : Nat → Nat
  | 0 => 0
  | n + 1 => sumBits g n + (if g n then 2 ^ n else 0)
theorem sumBits_succ (g : Nat → Bool) (n : Nat) : sumBits g (n + 1) = sumBits g n + (if g n then 2 ^ n else 0) := rfl
theorem sumBits_lt (g : Nat → Bool) (n : Nat) : sumBits g n < 2 ^ n := by
  induction n with
  | zero => simp [sumBits]
  | succ n ih =>
    rw [sumBits_succ, Nat.pow_succ]
    split <;> omega
theorem sumBits_bit (g : Nat → Bool) (n i : Nat) : (sumBits g n).testBit i = (decide (i < n) && g i) := by
  induction n with
  | zero => simp [sumBits]
  | succ n ih =>
    have h := sumBits_lt g n
    have h' := sumBits_lt g (n + 1)
    rcases Nat.lt_trichotomy i n with hi | hi | hi
    · rw [sumBits_succ]
      have e : decide (i < n + 1) = true := by simp; omega
      rw [e]
      split
      · rw [Nat.add_comm, Nat.testBit_two_pow_add_gt hi, ih]; simp [hi]
      · rw [Nat.add_zero, ih]; simp [hi]
    · subst hi
      rw [sumBits_succ]
      have e : decide (i < i + 1) = true := by simp
      have h0 : (sumBits g i).testBit i = false := Nat.testBit_lt_two_pow h
      rw [e]
      split
      · rename_i hg; rw [Nat.add_comm, Nat.testBit_two_pow_add_eq, h0, hg]; rfl
      · rename_i hg; rw [Nat.add_zero, h0]; simp at hg; rw [hg]; rfl
    · have e : decide (i < n + 1) = false := by simp; omega
      rw [e, Bool.false_and]
      exact Nat.testBit_lt_two_pow (Nat.lt_of_lt_of_le h' (Nat.pow_le_pow_right (by decide) hi))
/-- The bit n put in by a sum. -/
theorem put_bit {X n : Nat} (hX : X < 2 ^ n) (hn : n < 64) : IntKind.u64.wrap ((2 : Int) ^ n) = ((2 ^ n : Nat) : Int) ∧ IntKind.u64.wrap ((X : Int) + ((2 ^ n : Nat) : Int)) = ((X + 2 ^ n : Nat) : Int) ∧ IntKind.u64.wrap ((X : Int) + 2 ^ n) = ((X + 2 ^ n : Nat) : Int) := by
  have hp : (2 : Nat) ^ n * 2 ≤ 18446744073709551616 := by
    rw [← Nat.pow_succ]; exact Nat.pow_le_pow_right (by decide) (Nat.succ_le_of_lt hn)
  have e : ((X : Int) + 2 ^ n) = ((X + 2 ^ n : Nat) : Int) := by simp
  have e1 : ((2 : Int) ^ n) = ((2 ^ n : Nat) : Int) := by simp
  rw [IntKind.wrap_u64, IntKind.wrap_u64, IntKind.wrap_u64, e, e1]
  omega
theorem sumBits_eq {g : Nat → Bool} {X : Nat} (hX : X < 2 ^ 64) (h : ∀ i, i < 64 → X.testBit i = g i) : sumBits g 64 = X := by
  apply Nat.eq_of_testBit_eq
  intro i
  rw [sumBits_bit]
  by_cases hi : i < 64
  · simp [hi, h i hi]
  · have : X.testBit i = false := Nat.testBit_lt_two_pow (Nat.lt_of_lt_of_le hX (Nat.pow_le_pow_right (by decide) (by omega)))
    simp [hi, this]
theorem bit_hi {x : Nat} (hx : x < 2 ^ 64) {i : Nat} (hi : 64 ≤ i) : x.testBit i = false :=
  Nat.testBit_lt_two_pow (Nat.lt_of_lt_of_le hx (Nat.pow_le_pow_right (by decide) hi))

/-- Odd or even: the m bits that end with the bit i. -/
def xo (f : Nat → Bool) : Nat → Nat → Bool
  | 0, _ => false
  | m + 1, i => xo f m i ^^ (decide (m ≤ i) && f (i - m))
theorem xo_one (f : Nat → Bool) (i : Nat) : xo f 1 i = f i := by simp [xo]
theorem xo_add (f : Nat → Bool) (m n i : Nat) : xo f (m + n) i = (xo f m i ^^ (decide (m ≤ i) && xo f n (i - m))) := by
  induction n with
  | zero => simp [xo]
  | succ n ih =>
    show (xo f (m + n) i ^^ (decide (m + n ≤ i) && f (i - (m + n)))) = _
    rw [ih]
    simp only [xo]
    by_cases h : m ≤ i
    · by_cases h2 : m + n ≤ i
      · have h3 : n ≤ i - m := by omega
        simp [h, h2, h3, Nat.sub_sub]
      · have h3 : ¬ n ≤ i - m := by omega
        simp [h, h2, h3]
    · have h2 : ¬ m + n ≤ i := by omega
      simp [h, h2]
/-- Odd or even: the bits below n. -/
def parTo (x : Nat) : Nat → Bool
  | 0 => false
  | n + 1 => parTo x n ^^ x.testBit n
theorem parTo_succ (x n : Nat) : parTo x (n + 1) = (parTo x n ^^ x.testBit n) := rfl
theorem xo_par (x i : Nat) (hi : i < 64) : xo x.testBit 64 i = parTo x (i + 1) := by
  induction i with
  | zero =>
    have := xo_add x.testBit 1 63 0
    simp at this
    rw [this]; simp [xo, parTo]
  | succ i ih =>
    have h1 : xo x.testBit 64 (i + 1) = (xo x.testBit 1 (i + 1) ^^ (decide (1 ≤ i + 1) && xo x.testBit 63 (i + 1 - 1))) := xo_add x.testBit 1 63 (i + 1)
    have h4 : decide (1 ≤ i + 1) = true := by simp
    have h2 : xo x.testBit 64 i = (xo x.testBit 63 i ^^ (decide (63 ≤ i) && x.testBit (i - 63))) := rfl
    have h3 : decide (63 ≤ i) = false := by simp; omega
    rw [h3, Bool.false_and, Bool.xor_false] at h2
    rw [xo_one, h4, Bool.true_and, Nat.add_sub_cancel] at h1
    rw [h1, ← h2, ih (by omega), parTo_succ x (i + 1), Bool.xor_comm]
def prefW (x : Nat) : Nat := sumBits (fun i => parTo x (i + 1)) 64
theorem prefW_lt (x : Nat) : prefW x < 18446744073709551616 := sumBits_lt _ 64
theorem prefW_bit (x i : Nat) (hi : i < 64) : (prefW x).testBit i = parTo x (i + 1) := by rw [prefW, sumBits_bit]; simp [hi]

/-- One doubling. -/
def reach (X R : Nat) : Nat := X ^^^ (X * 2 ^ R % 18446744073709551616)
theorem reach_lt (X R : Nat) (h : X < 18446744073709551616) : reach X R < 18446744073709551616 := Nat.xor_lt_two_pow (n := 64) h (Nat.mod_lt _ (by decide))
theorem reach_bit {f : Nat → Bool} {X R : Nat} (hX : ∀ i, i < 64 → X.testBit i = xo f R i) : ∀ i, i < 64 → (reach X R).testBit i = xo f (R * 2) i := by
  intro i hi
  have e : (X * 2 ^ R % 18446744073709551616).testBit i = (decide (R ≤ i) && X.testBit (i - R)) := by
    have := Nat.testBit_mod_two_pow (X * 2 ^ R) 64 i
    rw [show (18446744073709551616 : Nat) = 2 ^ 64 by decide, this, Nat.testBit_mul_two_pow]
    simp [hi]
  rw [reach, Nat.testBit_xor, e, hX i hi, hX (i - R) (by omega), Nat.mul_two, xo_add]
theorem reach_done {x X : Nat} (hX : X < 18446744073709551616) (h : ∀ i, i < 64 → X.testBit i = xo x.testBit 64 i) : X = prefW x :=
  (sumBits_eq hX fun i hi => by rw [h i hi, xo_par x i hi]).symm

end Go.Proofs.YtlckhiflhnlgpaaGreatDoor

/-
  Of no program: how many bits are set; the count by halves, as math/bits has it.
-/
namespace Go.Proofs.YtlckhiflhnlgpaaGreatDoor

/-- How many of the bits below n are set. -/
def cnt (x : Nat) : Nat → Nat
  | 0 => 0
  | n + 1 => cnt x n + (x.testBit n).toNat
theorem cnt_succ (x n : Nat) : cnt x (n + 1) = cnt x n + (x.testBit n).toNat := rfl
theorem cnt_le (x n : Nat) : cnt x n ≤ n := by
  induction n with
  | zero => exact Nat.le_refl 0
  | succ n ih => rw [cnt_succ]; cases x.testBit n <;> simp <;> omega
def p1 (b : Nat) : Nat := (b / 2 &&& 85) + (b &&& 85)
def p2 (b : Nat) : Nat := (p1 b / 4 &&& 51) + (p1 b &&& 51)
def p3 (b : Nat) : Nat := p2 b / 16 + p2 b % 16
end Go.Proofs.YtlckhiflhnlgpaaGreatDoor

/-
  Of no program: the places of the set bits, rising.
-/
namespace Go.Proofs.YtlckhiflhnlgpaaGreatDoor

/-- The places of the set bits below n. -/
def below (x n : Nat) : List Nat := (List.range n).filter (fun i => x.testBit i)
def places (x : Nat) : List Nat := below x 64
theorem below_t {x n : Nat} (h : x.testBit n = true) : below x (n + 1) = below x n ++ [n] := by simp [below, List.range_succ, h]
theorem below_f {x n : Nat} (h : x.testBit n = false) : below x (n + 1) = below x n := by simp [below, List.range_succ, h]
theorem below_len (x n : Nat) : (below x n).length = cnt x n := by
  induction n with
  | zero => rfl
  | succ n ih =>
    rw [cnt_succ]
    cases h : x.testBit n
    · rw [below_f h, ih]; rfl
    · rw [below_t h, List.length_append, ih]; rfl
theorem places_lt {x p : Nat} (h : p ∈ places x) : p < 64 ∧ x.testBit p = true := by simpa [places, below] using h
theorem places_len_le (x : Nat) : (places x).length ≤ 64 := by rw [places, below_len]; exact cnt_le x 64
/-- The same, lowest bit by lowest bit. -/
def plac : Nat → Nat → Nat → List Nat
  | 0, _, _ => []
  | n + 1, b, x => if x % 2 = 1 then b :: plac n (b + 1) (x / 2) else plac n (b + 1) (x / 2)
theorem plac_zero : ∀ n b, plac n b 0 = []
  | 0, _ => rfl
  | n + 1, b => by rw [plac]; simp [plac_zero n]
theorem and_pred_odd (y : Nat) : (2 * y + 1) &&& (2 * y) = 2 * y := by
  apply Nat.eq_of_testBit_eq
  intro i
  rw [Nat.testBit_and]
  cases i with
  | zero => simp
  | succ i => rw [Nat.testBit_succ, Nat.testBit_succ, show (2 * y + 1) / 2 = y by omega, show 2 * y / 2 = y by omega]; simp
theorem and_pred_even (y : Nat) (hy : 0 < y) : (2 * y) &&& (2 * y - 1) = 2 * (y &&& (y - 1)) := by
  apply Nat.eq_of_testBit_eq
  intro i
  rw [Nat.testBit_and]
  cases i with
  | zero => simp
  | succ i => rw [Nat.testBit_succ, Nat.testBit_succ, Nat.testBit_succ, show (2 * y - 1) / 2 = y - 1 by omega, show 2 * y / 2 = y by omega, show 2 * (y &&& (y - 1)) / 2 = y &&& (y - 1) by omega, Nat.testBit_and]
theorem plac_step : ∀ n b x, x ≠ 0 → x < 2 ^ n → plac n b x = (b + Lib.ctzFrom n x) :: plac n b (x &&& (x - 1))
  | 0, _, x, h0, h => by simp at h; omega
  | n + 1, b, x, h0, h => by
    rw [Nat.pow_succ] at h
    rw [plac, Lib.ctzFrom]
    by_cases hx : x % 2 = 1
    · have e : x &&& (x - 1) = 2 * (x / 2) := by
        obtain ⟨y, rfl⟩ : ∃ y, x = 2 * y + 1 := ⟨x / 2, by omega⟩
        rw [Nat.add_sub_cancel, show (2 * y + 1) / 2 = y by omega]
        exact and_pred_odd y
      rw [if_pos hx, if_pos hx, e, plac, if_neg (by omega), show 2 * (x / 2) / 2 = x / 2 by omega]; rfl
    · have e : x &&& (x - 1) = 2 * (x / 2 &&& (x / 2 - 1)) := by
        have := and_pred_even (x / 2) (by omega)
        rwa [show 2 * (x / 2) = x by omega] at this
      rw [if_neg hx, if_neg hx, plac_step n (b + 1) (x / 2) (by omega) (by omega), e, plac, if_neg (by omega), show 2 * (x / 2 &&& (x / 2 - 1)) / 2 = x / 2 &&& (x / 2 - 1) by omega, Nat.add_assoc]
theorem plac_range : ∀ n b x, plac n b x = ((List.range n).filter (fun i => x.testBit i)).map (fun i => b + i)
  | 0, _, _ => rfl
  | n + 1, b, x => by
    rw [plac, plac_range n (b + 1) (x / 2), List.range_succ_eq_map, List.filter_cons, List.filter_map]
    have e : ((fun i => x.testBit i) ∘ Nat.succ) = (fun i => (x / 2).testBit i) := by funext i; simp [Nat.testBit_succ]
    have e0 : x.testBit 0 = decide (x % 2 = 1) := Nat.testBit_zero x
    rw [e, e0]
    by_cases h : x % 2 = 1
    · simp [h, List.map_map, Function.comp_def]; intro a _ _; omega
    · simp [h, List.map_map, Function.comp_def]; intro a _ _; omega
theorem places_plac (x : Nat) : places x = plac 64 0 x := by rw [plac_range]; simp [places, below]
theorem places_zero : places 0 = [] := by rw [places_plac, plac_zero]
theorem places_step {x : Nat} (h0 : x ≠ 0) (hx : x < 18446744073709551616) : places x = Lib.ctz 64 x :: places (x &&& (x - 1)) := by
  rw [places_plac, places_plac, plac_step 64 0 x h0 hx, Nat.zero_add, Lib.ctz, if_neg h0]
theorem ctz_lt {x : Nat} (h0 : x ≠ 0) (hx : x < 18446744073709551616) : Lib.ctz 64 x < 64 := by
  have : Lib.ctz 64 x ∈ places x := by rw [places_step h0 hx]; exact List.mem_cons_self
  exact (places_lt this).1
end Go.Proofs.YtlckhiflhnlgpaaGreatDoor

/-
  Of no program: where rows of set bits begin, and how long they are.
-/
namespace Go.Proofs.YtlckhiflhnlgpaaGreatDoor

/-- The bits of a that are not b's. -/
def andn (a b : Nat) : Nat := a &&& (18446744073709551615 - b)
theorem andn_lt {a b : Nat} (ha : a < 18446744073709551616) : andn a b < 18446744073709551616 := Nat.lt_of_le_of_lt Nat.and_le_left ha
theorem andn_bit {a b : Nat} (ha : a < 18446744073709551616) (hb : b < 18446744073709551616) (i : Nat) : (andn a b).testBit i = (a.testBit i && !b.testBit i) := by
  have e : 18446744073709551615 - b = 2 ^ 64 - (b + 1) := by omega
  rw [andn, Nat.testBit_and, e, Nat.testBit_two_pow_sub_succ (show b < 2 ^ 64 from hb)]
  by_cases hi : i < 64
  · simp [hi]
  · rw [bit_hi ha (by omega)]; rfl
theorem bits_andn (a b : Nat) (ha : a < 18446744073709551616) (hb : b < 18446744073709551616) : bits .andNot .u64 (a : Int) (b : Int) = ((andn a b : Nat) : Int) := by
  have hx := andn_lt (b := b) ha
  have h1 : (BitVec.ofInt 64 (a : Int)).toNat = a := by
    rw [BitVec.ofInt_natCast, BitVec.toNat_ofNat]; exact Nat.mod_eq_of_lt ha
  have h2 : (BitVec.ofInt 64 (b : Int)).toNat = b := by
    rw [BitVec.ofInt_natCast, BitVec.toNat_ofNat]; exact Nat.mod_eq_of_lt hb
  show IntKind.u64.wrap ((BitVec.ofInt 64 (a : Int) &&& ~~~ BitVec.ofInt 64 (b : Int)).toNat : Int) = _
  rw [BitVec.toNat_and, BitVec.toNat_not, h1, h2, IntKind.wrap_u64, show 2 ^ 64 - 1 - b = 18446744073709551615 - b by omega]
  rw [andn] at hx ⊢
  omega
theorem bits_xor_u64 (a b : Nat) (ha : a < 18446744073709551616) (hb : b < 18446744073709551616) : bits .xor .u64 (a : Int) (b : Int) = ((a ^^^ b : Nat) : Int) := by
  have hx : a ^^^ b < 2 ^ 64 := Nat.xor_lt_two_pow (n := 64) ha hb
  have h1 : (BitVec.ofInt 64 (a : Int)).toNat = a := by
    rw [BitVec.ofInt_natCast, BitVec.toNat_ofNat]; exact Nat.mod_eq_of_lt ha
  have h2 : (BitVec.ofInt 64 (b : Int)).toNat = b := by
    rw [BitVec.ofInt_natCast, BitVec.toNat_ofNat]; exact Nat.mod_eq_of_lt hb
  show IntKind.u64.wrap ((BitVec.ofInt 64 (a : Int) ^^^ BitVec.ofInt 64 (b : Int)).toNat : Int) = _
  rw [BitVec.toNat_xor, h1, h2, IntKind.wrap_u64]
  omega
theorem bits_or_u64 (a b : Nat) (ha : a < 18446744073709551616) (hb : b < 18446744073709551616) : bits .or .u64 (a : Int) (b : Int) = ((a ||| b : Nat) : Int) := by
  have hx : a ||| b < 2 ^ 64 := Nat.or_lt_two_pow (n := 64) ha hb
  have h1 : (BitVec.ofInt 64 (a : Int)).toNat = a := by
    rw [BitVec.ofInt_natCast, BitVec.toNat_ofNat]; exact Nat.mod_eq_of_lt ha
  have h2 : (BitVec.ofInt 64 (b : Int)).toNat = b := by
    rw [BitVec.ofInt_natCast, BitVec.toNat_ofNat]; exact Nat.mod_eq_of_lt hb
  show IntKind.u64.wrap ((BitVec.ofInt 64 (a : Int) ||| BitVec.ofInt 64 (b : Int)).toNat : Int) = _
  rw [BitVec.toNat_or, h1, h2, IntKind.wrap_u64]
  omega

/-- All bits turned. -/
def comp (v : Nat) : Nat := 18446744073709551615 ^^^ v
theorem comp_lt {v : Nat} (h : v < 18446744073709551616) : comp v < 18446744073709551616 := Nat.xor_lt_two_pow (n := 64) (by decide) h
theorem comp_bit (v i : Nat) (hi : i < 64) : (comp v).testBit i = !v.testBit i := by
  rw [comp, Nat.testBit_xor, show (18446744073709551615 : Nat) = 2 ^ 64 - 1 by decide, Nat.testBit_two_pow_sub_one]
  simp [hi]
theorem ctz_spec {y : Nat} (h0 : y ≠ 0) (hy : y < 18446744073709551616) : y.testBit (Lib.ctz 64 y) = true ∧ ∀ j, j < Lib.ctz 64 y → y.testBit j = false := by
  have e : Lib.ctz 64 y = Lib.ctzFrom 64 y := by rw [Lib.ctz, if_neg h0]
  obtain ⟨m, hm, _⟩ := Lib.ctzFrom_spec 64 y (by omega) hy
  rw [e]
  generalize Lib.ctzFrom 64 y = c at *
  have hb : ∀ i, y.testBit i = (decide (c ≤ i) && (2 * m + 1).testBit (i - c)) := fun i => by rw [hm, Nat.mul_comm, Nat.testBit_mul_two_pow]
  refine ⟨?_, fun j hj => ?_⟩
  · rw [hb]; simp
  · rw [hb]; simp [show ¬ c ≤ j by omega]

/-- How many bits are set from the place a on without a gap. -/
def runLen (x a : Nat) : Nat := Lib.ctz 64 (comp (x / 2 ^ a))
theorem run_spec {x a : Nat} (hx : x < 18446744073709551616) (ha : a < 64) : (∀ j, j < runLen x a → x.testBit (a + j) = true) ∧ x.testBit (a + runLen x a) = false ∧ a + runLen x a ≤ 64 := by
  have hl : x / 2 ^ a < 18446744073709551616 := Nat.lt_of_le_of_lt (Nat.div_le_self _ _) hx
  have hd : ∀ j, (x / 2 ^ a).testBit j = x.testBit (a + j) := fun j => by rw [Nat.testBit_div_two_pow, Nat.add_comm]
  have h1 : ∀ j, j < runLen x a → x.testBit (a + j) = true := by
    intro j hj
    by_cases h0 : comp (x / 2 ^ a) = 0
    · have hj' : j < 64 := by rw [runLen, h0] at hj; exact hj
      have := comp_bit (x / 2 ^ a) j hj'
      rw [h0, hd] at this
      simpa using this
    · have hlt := ctz_lt h0 (comp_lt hl)
      have := (ctz_spec h0 (comp_lt hl)).2 j hj
      rw [comp_bit _ j (by unfold runLen at hj; omega), hd] at this
      simpa using this
  have h3 : a + runLen x a ≤ 64 := by
    apply Nat.le_of_not_lt
    intro hc
    have := h1 (64 - a) (by omega)
    rw [bit_hi hx (by omega)] at this
    cases this
  refine ⟨h1, ?_, h3⟩
  by_cases h0 : comp (x / 2 ^ a) = 0
  · have e : runLen x a = 64 := by rw [runLen, h0]; rfl
    rw [e]; exact bit_hi hx (by omega)
  · have hlt := ctz_lt h0 (comp_lt hl)
    have := (ctz_spec h0 (comp_lt hl)).1
    rw [comp_bit _ _ hlt, hd] at this
    simpa [runLen] using this
/-- Does a row of set bits begin here? -/
def isFirst (x i : Nat) : Bool := x.testBit i && !(decide (0 < i) && x.testBit (i - 1))
def firstsW (x : Nat) : Nat := andn x (x * 2 % 18446744073709551616)
theorem firstsW_lt {x : Nat} (hx : x < 18446744073709551616) : firstsW x < 18446744073709551616 := andn_lt hx
theorem first_bit {x : Nat} (hx : x < 18446744073709551616) {i : Nat} (hi : i < 64) : (firstsW x).testBit i = isFirst x i := by
  rw [firstsW, andn_bit hx (Nat.mod_lt _ (by decide)), isFirst]
  have e : (x * 2 % 18446744073709551616).testBit i = (decide (0 < i) && x.testBit (i - 1)) := by
    have := Nat.testBit_mod_two_pow (x * 2 ^ 1) 64 i
    rw [show x * 2 % 18446744073709551616 = x * 2 ^ 1 % 2 ^ 64 by simp, this, Nat.testBit_mul_two_pow]
    simp [hi]
    rfl
  rw [e]
def starts (x : Nat) : List Nat := places (firstsW x)
theorem starts_mem {x a : Nat} (hx : x < 18446744073709551616) : a ∈ starts x ↔ a < 64 ∧ isFirst x a = true := by
  have : a ∈ starts x ↔ a < 64 ∧ (firstsW x).testBit a = true := by simp [starts, places, below]
  rw [this]
  constructor
  · rintro ⟨h1, h2⟩; exact ⟨h1, by rwa [first_bit hx h1] at h2⟩
  · rintro ⟨h1, h2⟩; exact ⟨h1, by rwa [first_bit hx h1]⟩
end Go.Proofs.YtlckhiflhnlgpaaGreatDoor

/-
  Of no program: which bits are escaped, bit by bit, and row by row.
-/
namespace Go.Proofs.YtlckhiflhnlgpaaGreatDoor

/-- Is the bit n escaped (n = 64: the carry)? -/
def escC (x : Nat) (c : Bool) : Nat → Bool
  | 0 => c
  | n + 1 => x.testBit n && !escC x c n
theorem escC_succ (x : Nat) (c : Bool) (n : Nat) : escC x c (n + 1) = (x.testBit n && !escC x c n) := rfl
def escW (x : Nat) (c : Bool) : Nat := sumBits (escC x c) 64
theorem escW_lt (x : Nat) (c : Bool) : escW x c < 18446744073709551616 := sumBits_lt _ 64
theorem escW_bit (x : Nat) (c : Bool) {i : Nat} (hi : i < 64) : (escW x c).testBit i = escC x c i := by rw [escW, sumBits_bit]; simp [hi]

/-- Each second bit. -/
theorem other_bit : ∀ j : Fin 64, (12297829382473034410 : Nat).testBit j.val = decide (j.val % 2 = 1) := by decide +kernel
/-- What a row marks. -/
def rowW (y p : Nat) : Nat := (12297829382473034410 &&& (2 ^ min (runLen y (p % 64) + 1) 64 - 1)) * 2 ^ (p % 64) % 18446744073709551616
theorem rowW_lt (y p : Nat) : rowW y p < 18446744073709551616 := Nat.mod_lt _ (by decide)
theorem rowW_bit (y a : Nat) (ha : a < 64) {i : Nat} (hi : i < 64) : (rowW y a).testBit i = (decide (a ≤ i) && decide ((i - a) % 2 = 1) && decide (i - a ≤ runLen y a)) := by
  rw [rowW, Nat.mod_eq_of_lt ha]
  have := Nat.testBit_mod_two_pow ((12297829382473034410 &&& (2 ^ min (runLen y a + 1) 64 - 1)) * 2 ^ a) 64 i
  rw [show (18446744073709551616 : Nat) = 2 ^ 64 by decide, this, Nat.testBit_mul_two_pow, Nat.testBit_and, other_bit ⟨i - a, by omega⟩, Nat.testBit_two_pow_sub_one]
  by_cases h1 : a ≤ i
  · by_cases h2 : i - a ≤ runLen y a
    · have h3 : i - a < min (runLen y a + 1) 64 := by omega
      simp [hi, h1, h2, h3]
    · have h3 : ¬ i - a < min (runLen y a + 1) 64 := by omega
      simp [hi, h1, h2, h3]
  · simp [h1]
/-- What some rows mark. -/
def rowsW (y e0 : Nat) (pre : List Nat) : Nat := pre.foldl (fun e p => e ||| rowW y p) e0
theorem rowsW_snoc (y e0 : Nat) (pre : List Nat) (p : Nat) : rowsW y e0 (pre ++ [p]) = rowsW y e0 pre ||| rowW y p := by simp [rowsW]
theorem rowsW_lt (y e0 : Nat) (h0 : e0 < 18446744073709551616) (pre : List Nat) : rowsW y e0 pre < 18446744073709551616 := by
  unfold rowsW
  induction pre generalizing e0 with
  | nil => exact h0
  | cons p pre ih => exact ih _ (Nat.or_lt_two_pow (n := 64) h0 (rowW_lt y p))
theorem rowsW_bit (y e0 : Nat) (pre : List Nat) (i : Nat) : (rowsW y e0 pre).testBit i = (e0.testBit i || pre.any (fun p => (rowW y p).testBit i)) := by
  unfold rowsW
  induction pre generalizing e0 with
  | nil => simp
  | cons p pre ih => rw [List.foldl_cons, ih, Nat.testBit_or, List.any_cons, Bool.or_assoc]

/-- Behind a row of odd length, by the rows of y. -/
def byRows (y i : Nat) : Prop := ∃ a, a < i ∧ a < 64 ∧ isFirst y a = true ∧ (i - a) % 2 = 1 ∧ i - a ≤ runLen y a
theorem isFirst_iff (y a : Nat) : isFirst y a = true ↔ y.testBit a = true ∧ (a = 0 ∨ y.testBit (a - 1) = false) := by
  unfold isFirst
  cases a with
  | zero => simp
  | succ a => simp
/-- Where the first of two rows reaches the second one's beginning, they are one. -/
theorem rows_apart {y a b i : Nat} (hy : y < 18446744073709551616) (ha : a < 64) (hab : a < b) (hb : isFirst y b = true) (hbi : b ≤ i) (hi : i ≤ a + runLen y a) : False := by
  have h1 := (run_spec hy ha).1 (b - 1 - a) (by omega)
  rw [show a + (b - 1 - a) = b - 1 by omega] at h1
  obtain ⟨_, h2⟩ := (isFirst_iff y b).1 hb
  rcases h2 with h2 | h2
  · omega
  · rw [h1] at h2; cases h2
theorem byRows_succ {y : Nat} (hy : y < 18446744073709551616) : ∀ i, i < 64 → (byRows y (i + 1) ↔ y.testBit i = true ∧ ¬ byRows y i) := by
  intro i hi
  constructor
  · rintro ⟨a, h1, h2, h3, h4, h5⟩
    have hyi : y.testBit i = true := by
      have := (run_spec hy h2).1 (i - a) (by omega)
      rwa [show a + (i - a) = i by omega] at this
    refine ⟨hyi, ?_⟩
    rintro ⟨b, k1, k2, k3, k4, k5⟩
    rcases Nat.lt_trichotomy a b with h | h | h
    · exact rows_apart hy h2 h k3 (show b ≤ i by omega) (by omega)
    · subst h; omega
    · exact rows_apart hy k2 h h3 (show a ≤ i by omega) (by omega)
  · rintro ⟨hyi, hn⟩
    -- where the row that holds i begins
    have : ∀ d a, a + d = i → (∀ j, a ≤ j → j ≤ i → y.testBit j = true) → ∃ b, b ≤ i ∧ isFirst y b = true ∧ ∀ j, b ≤ j → j ≤ i → y.testBit j = true := by
      intro d a
      induction a generalizing d with
      | zero => exact fun _ h => ⟨0, by omega, (isFirst_iff y 0).2 ⟨h 0 (by omega) (by omega), .inl rfl⟩, h⟩
      | succ a ih =>
        intro hd h
        cases hb : y.testBit a with
        | false => exact ⟨a + 1, by omega, (isFirst_iff y (a + 1)).2 ⟨h (a + 1) (by omega) (by omega), .inr hb⟩, h⟩
        | true => exact ih (d + 1) (by omega) (fun j h1 h2 => by
            by_cases hj : j = a
            · rw [hj]; exact hb
            · exact h j (by omega) h2)
    obtain ⟨b, hb, hf, hall⟩ := this 0 i (by omega) (fun j h1 h2 => by rw [show j = i by omega]; exact hyi)
    have hlen : i - b < runLen y b := by
      apply Nat.lt_of_not_le
      intro hc
      have h2 := (run_spec hy (show b < 64 by omega)).2.1
      rw [hall (b + runLen y b) (by omega) (by omega)] at h2
      cases h2
    by_cases hp : (i - b) % 2 = 1
    · exact absurd ⟨b, by omega, by omega, hf, hp, by omega⟩ hn
    · exact ⟨b, by omega, by omega, hf, by omega, by omega⟩

/-- The bits that are escaped are those that the rows mark. -/
theorem esc_rows (x : Nat) (c : Bool) (hx : x < 18446744073709551616) : rowsW (andn x c.toNat) c.toNat (starts (andn x c.toNat)) = escW x c := by
  have hc : c.toNat < 18446744073709551616 := by cases c <;> decide
  have hy := andn_lt (b := c.toNat) hx
  have hc0 : ∀ i, c.toNat.testBit i = (decide (i = 0) && c) := by
    intro i
    cases c
    · simp
    · cases i with
      | zero => rfl
      | succ i => simp [Nat.testBit_succ]
  have hyb : ∀ i, (andn x c.toNat).testBit i = (x.testBit i && !(decide (i = 0) && c)) := fun i => by rw [andn_bit hx hc, hc0]
  refine (sumBits_eq (rowsW_lt _ _ hc _) fun i hi => ?_).symm
  have hany : (starts (andn x c.toNat)).any (fun p => (rowW (andn x c.toNat) p).testBit i) = true ↔ byRows (andn x c.toNat) i := by
    rw [List.any_eq_true]
    constructor
    · rintro ⟨a, ha, hb⟩
      obtain ⟨h1, h2⟩ := (starts_mem hy).1 ha
      rw [rowW_bit _ _ h1 hi] at hb
      simp at hb
      exact ⟨a, by omega, h1, h2, hb.1.2, by omega⟩
    · rintro ⟨a, h1, h2, h3, h4, h5⟩
      refine ⟨a, (starts_mem hy).2 ⟨h2, h3⟩, ?_⟩
      rw [rowW_bit _ _ h2 hi]
      simp [h4, h5]; omega
  have h00 : ¬ byRows (andn x c.toNat) 0 := by rintro ⟨a, h, _⟩; omega
  have key : ∀ k, k + 1 < 64 → (byRows (andn x c.toNat) (k + 1) ↔ escC x c (k + 1) = true) := by
    intro k
    induction k with
    | zero =>
      intro _
      rw [byRows_succ hy 0 (by decide), hyb]
      simp [h00, escC]
    | succ k ih =>
      intro hk
      rw [byRows_succ hy (k + 1) (by omega), hyb, ih (by omega), escC_succ x c (k + 1)]
      simp
  rw [rowsW_bit, hc0]
  cases i with
  | zero =>
    have : (starts (andn x c.toNat)).any (fun p => (rowW (andn x c.toNat) p).testBit 0) = false := by
      rw [← Bool.not_eq_true]
      exact fun h => h00 (hany.1 h)
    rw [this]
    simp [escC]
  | succ k =>
    have h := hany.trans (key k hi)
    simp only [Nat.add_eq_zero_iff, Nat.succ_ne_self, and_false, decide_false, Bool.false_and, Bool.false_or]
    rw [Bool.eq_iff_iff]
    simpa using h
theorem esc_out (x : Nat) (c : Bool) (hx : x < 18446744073709551616) : andn x (escW x c) / 9223372036854775808 = (escC x c 64).toNat := by
  have h := andn_lt (b := escW x c) hx
  have hb := andn_bit hx (escW_lt x c) 63
  rw [escW_bit x c (by decide)] at hb
  have e : escC x c 64 = (andn x (escW x c)).testBit 63 := by rw [hb]; rfl
  rw [e, Nat.testBit_eq_decide_div_mod_eq, show (2 : Nat) ^ 63 = 9223372036854775808 by decide]
  have h1 : andn x (escW x c) / 9223372036854775808 < 2 := by omega
  rcases (show andn x (escW x c) / 9223372036854775808 = 0 ∨ andn x (escW x c) / 9223372036854775808 = 1 by omega) with h2 | h2 <;> simp [h2]
end Go.Proofs.YtlckhiflhnlgpaaGreatDoor
