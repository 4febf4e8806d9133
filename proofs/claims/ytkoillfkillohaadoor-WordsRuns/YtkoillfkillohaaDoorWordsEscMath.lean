/-
  Of no program: which bits are escaped, bit by bit, and row by row.
-/
import Derived.Test.YtkoillfkillohaaDoorWordsRunMath
namespace Go.Proofs.YtkoillfkillohaaDoor

/-- Is the bit n escaped (n = 64: the carry)? -/
def escC (x : Nat) (c : Bool) : Nat → Bool
  | 0 => c
  | n + 1 => x.testBit n && !escC x c n
theorem escC_succ (x : Nat) (c : Bool) (n : Nat) : escC x c (n + 1) = (x.testBit n && !escC x c n) := rfl
def escW (x : Nat) (c : Bool) : Nat := sumBits (escC x c) 64
theorem escW_lt (x : Nat) (c : Bool) : escW x c < 18446744073709551616 := sumBits_lt _ 64
theorem escW_bit (x : Nat) (c : Bool) {i : Nat} (hi : i < 64) : (escW x c).testBit i = escC x c i := by rw [escW, sumBits_bit]; simp [hi]

/-- Each second bit. -/
theorem other_bit : ∀ j : Fin 64, (12297829382473034410 : Nat).testBit j.val = decide (j.val % 2 = 1) := by decide +kernel
/-- What a row marks. -/
def rowW (y p : Nat) : Nat := (12297829382473034410 &&& (2 ^ min (runLen y (p % 64) + 1) 64 - 1)) * 2 ^ (p % 64) % 18446744073709551616
theorem rowW_lt (y p : Nat) : rowW y p < 18446744073709551616 := Nat.mod_lt _ (by decide)
theorem rowW_bit (y a : Nat) (ha : a < 64) {i : Nat} (hi : i < 64) : (rowW y a).testBit i = (decide (a ≤ i) && decide ((i - a) % 2 = 1) && decide (i - a ≤ runLen y a)) := by
  rw [rowW, Nat.mod_eq_of_lt ha]
  have := Nat.testBit_mod_two_pow ((12297829382473034410 &&& (2 ^ min (runLen y a + 1) 64 - 1)) * 2 ^ a) 64 i
  rw [show (18446744073709551616 : Nat) = 2 ^ 64 by decide, this, Nat.testBit_mul_two_pow, Nat.testBit_and, other_bit ⟨i - a, by omega⟩, Nat.testBit_two_pow_sub_one]
  by_cases h1 : a ≤ i
  · by_cases h2 : i - a ≤ runLen y a
    · have h3 : i - a < min (runLen y a + 1) 64 := by omega
      simp [hi, h1, h2, h3]
    · have h3 : ¬ i - a < min (runLen y a + 1) 64 := by omega
      simp [hi, h1, h2, h3]
  · simp [h1]
/-- What some rows mark. -/
def rowsW (y e0 : Nat) (pre : List Nat) : Nat := pre.foldl (fun e p => e ||| rowW y p) e0
theorem rowsW_snoc (y e0 : Nat) (pre : List Nat) (p : Nat) : rowsW y e0 (pre ++ [p]) = rowsW y e0 pre ||| rowW y p := by simp [rowsW]
theorem rowsW_lt (y e0 : Nat) (h0 : e0 < 18446744073709551616) (pre : List Nat) : rowsW y e0 pre < 18446744073709551616 := by
  unfold rowsW
  induction pre generalizing e0 with
  | nil => exact h0
  | cons p pre ih => exact ih _ (Nat.or_lt_two_pow (n := 64) h0 (rowW_lt y p))
theorem rowsW_bit (y e0 : Nat) (pre : List Nat) (i : Nat) : (rowsW y e0 pre).testBit i = (e0.testBit i || pre.any (fun p => (rowW y p).testBit i)) := by
  unfold rowsW
  induction pre generalizing e0 with
  | nil => simp
  | cons p pre ih => rw [List.foldl_cons, ih, Nat.testBit_or, List.any_cons, Bool.or_assoc]

/-- Behind a row of odd length, by the rows of y. -/
def byRows (y i : Nat) : Prop := ∃ a, a < i ∧ a < 64 ∧ isFirst y a = true ∧ (i - a) % 2 = 1 ∧ i - a ≤ runLen y a
theorem isFirst_iff (y a : Nat) : isFirst y a = true ↔ y.testBit a = true ∧ (a = 0 ∨ y.testBit (a - 1) = false) := by
  unfold isFirst
  cases a with
  | zero => simp
  | succ a => simp
theorem run_pos {y a : Nat} (hy : y < 18446744073709551616) (ha : a < 64) (h : y.testBit a = true) : 1 ≤ runLen y a := by
  obtain ⟨_, h2, _⟩ := run_spec hy ha
  apply Nat.succ_le_of_lt
  apply Nat.pos_of_ne_zero
  intro h0
  rw [h0, Nat.add_zero, h] at h2
  cases h2
/-- Where the first of two rows reaches the second one's beginning, they are one. -/
theorem rows_apart {y a b i : Nat} (hy : y < 18446744073709551616) (ha : a < 64) (hab : a < b) (hb : isFirst y b = true) (hbi : b ≤ i) (hi : i ≤ a + runLen y a) : False := by
  have h1 := (run_spec hy ha).1 (b - 1 - a) (by omega)
  rw [show a + (b - 1 - a) = b - 1 by omega] at h1
  obtain ⟨_, h2⟩ := (isFirst_iff y b).1 hb
  rcases h2 with h2 | h2
  · omega
  · rw [h1] at h2; cases h2
theorem byRows_succ {y : Nat} (hy : y < 18446744073709551616) : ∀ i, i < 64 → (byRows y (i + 1) ↔ y.testBit i = true ∧ ¬ byRows y i) := by
  intro i hi
  constructor
  · rintro ⟨a, h1, h2, h3, h4, h5⟩
    have hyi : y.testBit i = true := by
      have := (run_spec hy h2).1 (i - a) (by omega)
      rwa [show a + (i - a) = i by omega] at this
    refine ⟨hyi, ?_⟩
    rintro ⟨b, k1, k2, k3, k4, k5⟩
    rcases Nat.lt_trichotomy a b with h | h | h
    · exact rows_apart hy h2 h k3 (show b ≤ i by omega) (by omega)
    · subst h; omega
    · exact rows_apart hy k2 h h3 (show a ≤ i by omega) (by omega)
  · rintro ⟨hyi, hn⟩
    -- where the row that holds i begins
    have : ∀ d a, a + d = i → (∀ j, a ≤ j → j ≤ i → y.testBit j = true) → ∃ b, b ≤ i ∧ isFirst y b = true ∧ ∀ j, b ≤ j → j ≤ i → y.testBit j = true := by
      intro d a
      induction a generalizing d with
      | zero => exact fun _ h => ⟨0, by omega, (isFirst_iff y 0).2 ⟨h 0 (by omega) (by omega), .inl rfl⟩, h⟩
      | succ a ih =>
        intro hd h
        cases hb : y.testBit a with
        | false => exact ⟨a + 1, by omega, (isFirst_iff y (a + 1)).2 ⟨h (a + 1) (by omega) (by omega), .inr hb⟩, h⟩
        | true => exact ih (d + 1) (by omega) (fun j h1 h2 => by
            by_cases hj : j = a
            · rw [hj]; exact hb
            · exact h j (by omega) h2)
    obtain ⟨b, hb, hf, hall⟩ := this 0 i (by omega) (fun j h1 h2 => by rw [show j = i by omega]; exact hyi)
    have hlen : i - b < runLen y b := by
      apply Nat.lt_of_not_le
      intro hc
      have h2 := (run_spec hy (show b < 64 by omega)).2.1
      rw [hall (b + runLen y b) (by omega) (by omega)] at h2
      cases h2
    by_cases hp : (i - b) % 2 = 1
    · exact absurd ⟨b, by omega, by omega, hf, hp, by omega⟩ hn
    · exact ⟨b, by omega, by omega, hf, by omega, by omega⟩

/-- The bits that are escaped are those that the rows mark. -/
theorem esc_rows (x : Nat) (c : Bool) (hx : x < 18446744073709551616) : rowsW (andn x c.toNat) c.toNat (starts (andn x c.toNat)) = escW x c := by
  have hc : c.toNat < 18446744073709551616 := by cases c <;> decide
  have hy := andn_lt (b := c.toNat) hx
  have hc0 : ∀ i, c.toNat.testBit i = (decide (i = 0) && c) := by
    intro i
    cases c
    · simp
    · cases i with
      | zero => rfl
      | succ i => simp [Nat.testBit_succ]
  have hyb : ∀ i, (andn x c.toNat).testBit i = (x.testBit i && !(decide (i = 0) && c)) := fun i => by rw [andn_bit hx hc, hc0]
  refine (sumBits_eq (rowsW_lt _ _ hc _) fun i hi => ?_).symm
  have hany : (starts (andn x c.toNat)).any (fun p => (rowW (andn x c.toNat) p).testBit i) = true ↔ byRows (andn x c.toNat) i := by
    rw [List.any_eq_true]
    constructor
    · rintro ⟨a, ha, hb⟩
      obtain ⟨h1, h2⟩ := (starts_mem hy).1 ha
      rw [rowW_bit _ _ h1 hi] at hb
      simp at hb
      exact ⟨a, by omega, h1, h2, hb.1.2, by omega⟩
    · rintro ⟨a, h1, h2, h3, h4, h5⟩
      refine ⟨a, (starts_mem hy).2 ⟨h2, h3⟩, ?_⟩
      rw [rowW_bit _ _ h2 hi]
      simp [h4, h5]; omega
  have h00 : ¬ byRows (andn x c.toNat) 0 := by rintro ⟨a, h, _⟩; omega
  have key : ∀ k, k + 1 < 64 → (byRows (andn x c.toNat) (k + 1) ↔ escC x c (k + 1) = true) := by
    intro k
    induction k with
    | zero =>
      intro _
      rw [byRows_succ hy 0 (by decide), hyb]
      simp [h00, escC]
    | succ k ih =>
      intro hk
      rw [byRows_succ hy (k + 1) (by omega), hyb, ih (by omega), escC_succ x c (k + 1)]
      simp
  rw [rowsW_bit, hc0]
  cases i with
  | zero =>
    have : (starts (andn x c.toNat)).any (fun p => (rowW (andn x c.toNat) p).testBit 0) = false := by
      rw [← Bool.not_eq_true]
      exact fun h => h00 (hany.1 h)
    rw [this]
    simp [escC]
  | succ k =>
    have h := hany.trans (key k hi)
    simp only [Nat.add_eq_zero_iff, Nat.succ_ne_self, and_false, decide_false, Bool.false_and, Bool.false_or]
    rw [Bool.eq_iff_iff]
    simpa using h
theorem esc_out (x : Nat) (c : Bool) (hx : x < 18446744073709551616) : andn x (escW x c) / 9223372036854775808 = (escC x c 64).toNat := by
  have h := andn_lt (b := escW x c) hx
  have hb := andn_bit hx (escW_lt x c) 63
  rw [escW_bit x c (by decide)] at hb
  have e : escC x c 64 = (andn x (escW x c)).testBit 63 := by rw [hb]; rfl
  rw [e, Nat.testBit_eq_decide_div_mod_eq, show (2 : Nat) ^ 63 = 9223372036854775808 by decide]
  have h1 : andn x (escW x c) / 9223372036854775808 < 2 := by omega
  rcases (show andn x (escW x c) / 9223372036854775808 = 0 ∨ andn x (escW x c) / 9223372036854775808 = 1 by omega) with h2 | h2 <;> simp [h2]
end Go.Proofs.YtkoillfkillohaaDoor
