/-
  Of no program: where rows of set bits begin, and how long they are.
-/
import Derived.Test.YtkoillfkillohaaDoorWordsPlaces
namespace Go.Proofs.YtkoillfkillohaaDoor

/-- The bits of a that are not b's. -/
def andn (a b : Nat) : Nat := a &&& (18446744073709551615 - b)
theorem andn_lt {a b : Nat} (ha : a < 18446744073709551616) : andn a b < 18446744073709551616 := Nat.lt_of_le_of_lt Nat.and_le_left ha
theorem andn_bit {a b : Nat} (ha : a < 18446744073709551616) (hb : b < 18446744073709551616) (i : Nat) : (andn a b).testBit i = (a.testBit i && !b.testBit i) := by
  have e : 18446744073709551615 - b = 2 ^ 64 - (b + 1) := by omega
  rw [andn, Nat.testBit_and, e, Nat.testBit_two_pow_sub_succ (show b < 2 ^ 64 from hb)]
  by_cases hi : i < 64
  · simp [hi]
  · rw [bit_hi ha (by omega)]; rfl
theorem bits_andn (a b : Nat) (ha : a < 18446744073709551616) (hb : b < 18446744073709551616) : bits .andNot .u64 (a : Int) (b : Int) = ((andn a b : Nat) : Int) := by
  have hx := andn_lt (b := b) ha
  have h1 : (BitVec.ofInt 64 (a : Int)).toNat = a := by
    rw [BitVec.ofInt_natCast, BitVec.toNat_ofNat]; exact Nat.mod_eq_of_lt ha
  have h2 : (BitVec.ofInt 64 (b : Int)).toNat = b := by
    rw [BitVec.ofInt_natCast, BitVec.toNat_ofNat]; exact Nat.mod_eq_of_lt hb
  show IntKind.u64.wrap ((BitVec.ofInt 64 (a : Int) &&& ~~~ BitVec.ofInt 64 (b : Int)).toNat : Int) = _
  rw [BitVec.toNat_and, BitVec.toNat_not, h1, h2, IntKind.wrap_u64, show 2 ^ 64 - 1 - b = 18446744073709551615 - b by omega]
  rw [andn] at hx ⊢
  omega
theorem bits_xor_u64 (a b : Nat) (ha : a < 18446744073709551616) (hb : b < 18446744073709551616) : bits .xor .u64 (a : Int) (b : Int) = ((a ^^^ b : Nat) : Int) := by
  have hx : a ^^^ b < 2 ^ 64 := Nat.xor_lt_two_pow (n := 64) ha hb
  have h1 : (BitVec.ofInt 64 (a : Int)).toNat = a := by
    rw [BitVec.ofInt_natCast, BitVec.toNat_ofNat]; exact Nat.mod_eq_of_lt ha
  have h2 : (BitVec.ofInt 64 (b : Int)).toNat = b := by
    rw [BitVec.ofInt_natCast, BitVec.toNat_ofNat]; exact Nat.mod_eq_of_lt hb
  show IntKind.u64.wrap ((BitVec.ofInt 64 (a : Int) ^^^ BitVec.ofInt 64 (b : Int)).toNat : Int) = _
  rw [BitVec.toNat_xor, h1, h2, IntKind.wrap_u64]
  omega
theorem bits_or_u64 (a b : Nat) (ha : a < 18446744073709551616) (hb : b < 18446744073709551616) : bits .or .u64 (a : Int) (b : Int) = ((a ||| b : Nat) : Int) := by
  have hx : a ||| b < 2 ^ 64 := Nat.or_lt_two_pow (n := 64) ha hb
  have h1 : (BitVec.ofInt 64 (a : Int)).toNat = a := by
    rw [BitVec.ofInt_natCast, BitVec.toNat_ofNat]; exact Nat.mod_eq_of_lt ha
  have h2 : (BitVec.ofInt 64 (b : Int)).toNat = b := by
    rw [BitVec.ofInt_natCast, BitVec.toNat_ofNat]; exact Nat.mod_eq_of_lt hb
  show IntKind.u64.wrap ((BitVec.ofInt 64 (a : Int) ||| BitVec.ofInt 64 (b : Int)).toNat : Int) = _
  rw [BitVec.toNat_or, h1, h2, IntKind.wrap_u64]
  omega

/-- All bits turned. -/
def comp (v : Nat) : Nat := 18446744073709551615 ^^^ v
theorem comp_lt {v : Nat} (h : v < 18446744073709551616) : comp v < 18446744073709551616 := Nat.xor_lt_two_pow (n := 64) (by decide) h
theorem comp_bit (v i : Nat) (hi : i < 64) : (comp v).testBit i = !v.testBit i := by
  rw [comp, Nat.testBit_xor, show (18446744073709551615 : Nat) = 2 ^ 64 - 1 by decide, Nat.testBit_two_pow_sub_one]
  simp [hi]
theorem ctz_spec {y : Nat} (h0 : y ≠ 0) (hy : y < 18446744073709551616) : y.testBit (Lib.ctz 64 y) = true ∧ ∀ j, j < Lib.ctz 64 y → y.testBit j = false := by
  have e : Lib.ctz 64 y = Lib.ctzFrom 64 y := by rw [Lib.ctz, if_neg h0]
  obtain ⟨m, hm, _⟩ := Lib.ctzFrom_spec 64 y (by omega) hy
  rw [e]
  generalize Lib.ctzFrom 64 y = c at *
  have hb : ∀ i, y.testBit i = (decide (c ≤ i) && (2 * m + 1).testBit (i - c)) := fun i => by rw [hm, Nat.mul_comm, Nat.testBit_mul_two_pow]
  refine ⟨?_, fun j hj => ?_⟩
  · rw [hb]; simp
  · rw [hb]; simp [show ¬ c ≤ j by omega]

/-- How many bits are set from the place a on without a gap. -/
def runLen (x a : Nat) : Nat := Lib.ctz 64 (comp (x / 2 ^ a))
theorem run_spec {x a : Nat} (hx : x < 18446744073709551616) (ha : a < 64) : (∀ j, j < runLen x a → x.testBit (a + j) = true) ∧ x.testBit (a + runLen x a) = false ∧ a + runLen x a ≤ 64 := by
  have hl : x / 2 ^ a < 18446744073709551616 := Nat.lt_of_le_of_lt (Nat.div_le_self _ _) hx
  have hd : ∀ j, (x / 2 ^ a).testBit j = x.testBit (a + j) := fun j => by rw [Nat.testBit_div_two_pow, Nat.add_comm]
  have h1 : ∀ j, j < runLen x a → x.testBit (a + j) = true := by
    intro j hj
    by_cases h0 : comp (x / 2 ^ a) = 0
    · have hj' : j < 64 := by rw [runLen, h0] at hj; exact hj
      have := comp_bit (x / 2 ^ a) j hj'
      rw [h0, hd] at this
      simpa using this
    · have hlt := ctz_lt h0 (comp_lt hl)
      have := (ctz_spec h0 (comp_lt hl)).2 j hj
      rw [comp_bit _ j (by unfold runLen at hj; omega), hd] at this
      simpa using this
  have h3 : a + runLen x a ≤ 64 := by
    apply Nat.le_of_not_lt
    intro hc
    have := h1 (64 - a) (by omega)
    rw [bit_hi hx (by omega)] at this
    cases this
  refine ⟨h1, ?_, h3⟩
  by_cases h0 : comp (x / 2 ^ a) = 0
  · have e : runLen x a = 64 := by rw [runLen, h0]; rfl
    rw [e]; exact bit_hi hx (by omega)
  · have hlt := ctz_lt h0 (comp_lt hl)
    have := (ctz_spec h0 (comp_lt hl)).1
    rw [comp_bit _ _ hlt, hd] at this
    simpa [runLen] using this
/-- The length is the one number that says so. -/
theorem run_unique {x a r : Nat} (hx : x < 18446744073709551616) (ha : a < 64) (h1 : ∀ j, j < r → x.testBit (a + j) = true) (h2 : x.testBit (a + r) = false) : runLen x a = r := by
  obtain ⟨k1, k2, _⟩ := run_spec hx ha
  rcases Nat.lt_trichotomy (runLen x a) r with h | h | h
  · rw [h1 _ h] at k2; cases k2
  · exact h
  · rw [k1 _ h] at h2; cases h2

/-- Does a row of set bits begin here? -/
def isFirst (x i : Nat) : Bool := x.testBit i && !(decide (0 < i) && x.testBit (i - 1))
def firstsW (x : Nat) : Nat := andn x (x * 2 % 18446744073709551616)
theorem firstsW_lt {x : Nat} (hx : x < 18446744073709551616) : firstsW x < 18446744073709551616 := andn_lt hx
theorem first_bit {x : Nat} (hx : x < 18446744073709551616) {i : Nat} (hi : i < 64) : (firstsW x).testBit i = isFirst x i := by
  rw [firstsW, andn_bit hx (Nat.mod_lt _ (by decide)), isFirst]
  have e : (x * 2 % 18446744073709551616).testBit i = (decide (0 < i) && x.testBit (i - 1)) := by
    have := Nat.testBit_mod_two_pow (x * 2 ^ 1) 64 i
    rw [show x * 2 % 18446744073709551616 = x * 2 ^ 1 % 2 ^ 64 by simp, this, Nat.testBit_mul_two_pow]
    simp [hi]
    rfl
  rw [e]
def starts (x : Nat) : List Nat := places (firstsW x)
theorem starts_mem {x a : Nat} (hx : x < 18446744073709551616) : a ∈ starts x ↔ a < 64 ∧ isFirst x a = true := by
  have : a ∈ starts x ↔ a < 64 ∧ (firstsW x).testBit a = true := by simp [starts, places, below]
  rw [this]
  constructor
  · rintro ⟨h1, h2⟩; exact ⟨h1, by rwa [first_bit hx h1] at h2⟩
  · rintro ⟨h1, h2⟩; exact ⟨h1, by rwa [first_bit hx h1]⟩
end Go.Proofs.YtkoillfkillohaaDoor
