/-
  Of no program: rows of bits, told by their words.
-/
import Derived.Test.YtmbkcnhkbpaagabDoorWordsPlaces
namespace Go.Proofs.YtmbkcnhkbpaagabDoor

/-- The bit i of a row of words. -/
def bitAt (X : Nat → Nat) (i : Nat) : Bool := (X (i / 64)).testBit (i % 64)
theorem bitAt_word (X : Nat → Nat) (j r : Nat) (hr : r < 64) : bitAt X (64 * j + r) = (X j).testBit r := by
  unfold bitAt
  rw [show (64 * j + r) / 64 = j by omega, show (64 * j + r) % 64 = r by omega]
/-- How many words so many bits take up. -/
def need (n : Nat) : Nat := (n + 63) / 64
/-- Is it a row of bits? -/
def formed (n : Int) (k : Nat) (X : Nat → Nat) : Prop := 0 ≤ n ∧ k = need n.toNat ∧ ∀ i, n.toNat ≤ i → i < 64 * k → bitAt X i = false

/-- The bits below i. -/
def lowm (i : Int) : Nat := 2 ^ (min i.toNat 64) - 1
theorem lowm_bit (i : Int) (j : Nat) (hj : j < 64) : (lowm i).testBit j = decide ((j : Int) < i) := by
  unfold lowm
  rw [Nat.testBit_two_pow_sub_one]
  by_cases h : (j : Int) < i
  · rw [decide_eq_true h, decide_eq_true (by omega)]
  · rw [decide_eq_false h, decide_eq_false (by omega)]
theorem lowm_lt (i : Int) : lowm i < 18446744073709551616 := by
  unfold lowm
  have : (2 : Nat) ^ (min i.toNat 64) ≤ 2 ^ 64 := Nat.pow_le_pow_right (by decide) (by omega)
  omega

/-- How many bits below n are set. -/
def cntB (X : Nat → Nat) : Nat → Nat
  | 0 => 0
  | n + 1 => cntB X n + (bitAt X n).toNat
theorem cntB_succ (X : Nat → Nat) (n : Nat) : cntB X (n + 1) = cntB X n + (bitAt X n).toNat := rfl
theorem cntB_word (X : Nat → Nat) (j r : Nat) (hr : r ≤ 64) : cntB X (64 * j + r) = cntB X (64 * j) + cnt (X j) r := by
  induction r with
  | zero => rfl
  | succ r ih =>
    rw [← Nat.add_assoc, cntB_succ, ih (by omega), cnt_succ, bitAt_word X j r (by omega)]
    omega
theorem cntB_le (X : Nat → Nat) (n : Nat) : cntB X n ≤ n := by
  induction n with
  | zero => exact Nat.le_refl 0
  | succ n ih => rw [cntB_succ]; cases bitAt X n <;> simp <;> omega
theorem cntB_mono (X : Nat → Nat) {a b : Nat} (h : a ≤ b) : cntB X a ≤ cntB X b := by
  obtain ⟨d, rfl⟩ : ∃ d, b = a + d := ⟨b - a, by omega⟩
  clear h
  induction d with
  | zero => exact Nat.le_refl _
  | succ d ih => rw [← Nat.add_assoc, cntB_succ]; omega
theorem cntB_same {X : Nat → Nat} {a b : Nat} (h : a ≤ b) (hz : ∀ i, a ≤ i → i < b → bitAt X i = false) : cntB X a = cntB X b := by
  obtain ⟨d, rfl⟩ : ∃ d, b = a + d := ⟨b - a, by omega⟩
  clear h
  induction d with
  | zero => rfl
  | succ d ih => rw [← Nat.add_assoc, cntB_succ, hz (a + d) (by omega) (by omega), ih (fun i h1 h2 => hz i h1 (by omega))]; rfl
theorem cntB_lt {X : Nat → Nat} {a b : Nat} (h : a < b) (hb : bitAt X a = true) : cntB X a < cntB X b := by
  have h1 := cntB_mono X (show a + 1 ≤ b by omega)
  rw [cntB_succ, hb] at h1
  simp at h1
  omega
theorem cntB_eq_zero {X : Nat → Nat} {a b : Nat} (he : cntB X a = cntB X b) : ∀ i, a ≤ i → i < b → bitAt X i = false := fun i h1 h2 => by
  cases hb : bitAt X i
  · rfl
  · have := cntB_lt h2 hb
    have := cntB_mono X h1
    omega
theorem cntB_congr {X Y : Nat → Nat} {n : Nat} (h : ∀ i, i < n → bitAt X i = bitAt Y i) : cntB X n = cntB Y n := by
  induction n with
  | zero => rfl
  | succ n ih => rw [cntB_succ, cntB_succ, ih (fun i hi => h i (by omega)), h n (by omega)]

/-- The places of the set bits below n. -/
def placesB (X : Nat → Nat) (n : Nat) : List Nat := (List.range n).filter (bitAt X)
theorem placesB_t {X : Nat → Nat} {n : Nat} (h : bitAt X n = true) : placesB X (n + 1) = placesB X n ++ [n] := by simp [placesB, List.range_succ, h]
theorem placesB_f {X : Nat → Nat} {n : Nat} (h : bitAt X n = false) : placesB X (n + 1) = placesB X n := by simp [placesB, List.range_succ, h]
theorem placesB_len (X : Nat → Nat) (n : Nat) : (placesB X n).length = cntB X n := by
  induction n with
  | zero => rfl
  | succ n ih =>
    rw [cntB_succ]
    cases hb : bitAt X n
    · rw [placesB_f hb, ih]; rfl
    · rw [placesB_t hb, List.length_append, ih]; rfl
theorem placesB_mem {X : Nat → Nat} {n p : Nat} (h : p ∈ placesB X n) : p < n ∧ bitAt X p = true := by simpa [placesB] using h
theorem placesB_rank {X : Nat → Nat} {n k p : Nat} (h : (placesB X n)[k]? = some p) : p < n ∧ bitAt X p = true ∧ cntB X p = k := by
  induction n with
  | zero => simp [placesB] at h
  | succ n ih =>
    cases hb : bitAt X n
    · rw [placesB_f hb] at h
      obtain ⟨h1, h2⟩ := ih h
      exact ⟨by omega, h2⟩
    · rw [placesB_t hb] at h
      by_cases hk : k < (placesB X n).length
      · rw [List.getElem?_append_left hk] at h
        obtain ⟨h1, h2⟩ := ih h
        exact ⟨by omega, h2⟩
      · rw [List.getElem?_append_right (by omega)] at h
        have e : k - (placesB X n).length = 0 := by
          by_cases h0 : k - (placesB X n).length = 0
          · exact h0
          · rw [List.getElem?_eq_none (by simp; omega)] at h; cases h
        rw [e] at h
        simp at h
        subst h
        exact ⟨by omega, hb, by have := placesB_len X n; omega⟩
theorem placesB_at {X : Nat → Nat} {n i : Nat} (hi : i < n) (hb : bitAt X i = true) : (placesB X n)[cntB X i]? = some i := by
  have hl : cntB X i < (placesB X n).length := by rw [placesB_len]; exact cntB_lt hi hb
  rw [List.getElem?_eq_getElem hl]
  obtain ⟨h1, h2, h3⟩ := placesB_rank (List.getElem?_eq_getElem hl)
  congr 1
  rcases Nat.lt_trichotomy ((placesB X n)[cntB X i]) i with h | h | h
  · have := cntB_lt h h2; omega
  · exact h
  · have := cntB_lt h hb; omega

/-- The place of the set bit that has k set ones ahead of it; or -1. -/
def IsSel (X : Nat → Nat) (n : Nat) (k s : Int) : Prop :=
  (∃ p : Nat, s = p ∧ p < n ∧ bitAt X p = true ∧ ((cntB X p : Nat) : Int) = k) ∨ (s = -1 ∧ (k < 0 ∨ ((cntB X n : Nat) : Int) ≤ k))
theorem IsSel.uniq {X : Nat → Nat} {n : Nat} {k s t : Int} (h : IsSel X n k s) (h' : IsSel X n k t) : s = t := by
  rcases h with ⟨p, rfl, h1, h2, h3⟩ | ⟨rfl, h1⟩ <;> rcases h' with ⟨q, rfl, h4, h5, h6⟩ | ⟨rfl, h4⟩
  · rcases Nat.lt_trichotomy p q with h | h | h
    · have := cntB_lt h h2; omega
    · rw [h]
    · have := cntB_lt h h5; omega
  · have := cntB_lt h1 h2; omega
  · have := cntB_lt h4 h5; omega
  · rfl
/-- The first set bit from f on; or -1. -/
def IsNext (X : Nat → Nat) (n : Nat) (f s : Int) : Prop :=
  (∃ p : Nat, s = p ∧ p < n ∧ bitAt X p = true ∧ f ≤ (p : Int) ∧ ∀ i : Nat, f ≤ (i : Int) → i < p → bitAt X i = false) ∨ (s = -1 ∧ ∀ i : Nat, f ≤ (i : Int) → i < n → bitAt X i = false)
theorem IsNext.uniq {X : Nat → Nat} {n : Nat} {k s t : Int} (h : IsNext X n k s) (h' : IsNext X n k t) : s = t := by
  rcases h with ⟨p, rfl, h1, h2, h3, hz⟩ | ⟨rfl, h1⟩ <;> rcases h' with ⟨q, rfl, h4, h5, h6, hy⟩ | ⟨rfl, h4⟩
  · rcases Nat.lt_trichotomy p q with h | h | h
    · rw [hy p h3 h] at h2; cases h2
    · rw [h]
    · rw [hz q h6 h] at h5; cases h5
  · rw [h4 p h3 h1] at h2; cases h2
  · rw [h1 q h6 h4] at h5; cases h5
  · rfl
/-- The last set bit ahead of t; or -1. -/
def IsLast (X : Nat → Nat) (n : Nat) (t s : Int) : Prop :=
  (∃ p : Nat, s = p ∧ p < n ∧ bitAt X p = true ∧ (p : Int) < t ∧ ∀ i : Nat, p < i → i < n → (i : Int) < t → bitAt X i = false) ∨ (s = -1 ∧ ∀ i : Nat, i < n → (i : Int) < t → bitAt X i = false)
theorem IsLast.uniq {X : Nat → Nat} {n : Nat} {k s t : Int} (h : IsLast X n k s) (h' : IsLast X n k t) : s = t := by
  rcases h with ⟨p, rfl, h1, h2, h3, hz⟩ | ⟨rfl, h1⟩ <;> rcases h' with ⟨q, rfl, h4, h5, h6, hy⟩ | ⟨rfl, h4⟩
  · rcases Nat.lt_trichotomy p q with h | h | h
    · rw [hz q h h4 h6] at h5; cases h5
    · rw [h]
    · rw [hy p h h1 h3] at h2; cases h2
  · rw [h4 p h1 h3] at h2; cases h2
  · rw [h1 q h4 h6] at h5; cases h5
  · rfl
/-- How many set bits lie from f on and ahead of t. -/
def cntIn (X : Nat → Nat) (n : Nat) (f t : Int) : Nat := cntB X (min t.toNat n) - cntB X (min f.toNat n)

/-- A row that isn't one is asked as one without bits. -/
def Eff (n : Int) (k : Nat) (X : Nat → Nat) (N : Nat) : Prop := (formed n k X ∧ N = n.toNat) ∨ (¬ formed n k X ∧ N = 0)
theorem Eff.uniq {n : Int} {k : Nat} {X : Nat → Nat} {N M : Nat} (h : Eff n k X N) (h' : Eff n k X M) : N = M := by
  rcases h with ⟨h1, h2⟩ | ⟨h1, h2⟩ <;> rcases h' with ⟨h3, h4⟩ | ⟨h3, h4⟩
  · rw [h2, h4]
  · exact (h3 h1).elim
  · exact (h1 h3).elim
  · rw [h2, h4]
theorem Eff.get (n : Int) (k : Nat) (X : Nat → Nat) : ∃ N, Eff n k X N := by
  by_cases h : formed n k X
  · exact ⟨_, .inl ⟨h, rfl⟩⟩
  · exact ⟨_, .inr ⟨h, rfl⟩⟩
end Go.Proofs.YtmbkcnhkbpaagabDoor
