/-
  BitMath, BitMath2, BitMath3, BitMath4.
-/
import Derived.Test.YtlckhiflhnlgpabGreatDoorWordsA
import Derived.Laws.BitsAllLaws
/-
  Of no program: rows of bits, told by their words.
-/
namespace Go.Proofs.YtlckhiflhnlgpabGreatDoor

/-- The bit i of a row of words. -/
def bitAt (X : Nat → Nat) (i : Nat) : Bool := (X (i / 64)).testBit (i % 64)
theorem bitAt_word (X : Nat → Nat) (j r : Nat) (hr : r < 64) : bitAt X (64 * j + r) = (X j).testBit r := by
  unfold bitAt
  rw [show (64 * j + r) / 64 = j by omega, show (64 * j + r) % 64 = r by omega]
/-- How many words so many bits take up. -/
def need (n : Nat) : Nat := (n + 63) / 64
/-- Is it a row of bits? -/
def formed (n : Int) (k : Nat) (X : Nat → Nat) : Prop := 0 ≤ n ∧ k = need n.toNat ∧ ∀ i, n.toNat ≤ i → i < 64 * k → bitAt X i = false

/-- The bits below i. -/
def lowm (i : Int) : Nat := 2 ^ (min i.toNat 64) - 1
theorem lowm_bit (i : Int) (j : Nat) (hj : j < 64) : (lowm i).testBit j = decide ((j : Int) < i) := by
  unfold lowm
  rw [Nat.testBit_two_pow_sub_one]
  by_cases h : (j : Int) < i
  · rw [decide_eq_true h, decide_eq_true (by omega)]
  · rw [decide_eq_false h, decide_eq_false (by omega)]
theorem lowm_lt (i : Int) : lowm i < 18446744073709551616 := by
  unfold lowm
  have : (2 : Nat) ^ (min i.toNat 64) ≤ 2 ^ 64 := Nat.pow_le_pow_right (by decide) (by omega)
  omega

/-- How many bits below n are set. -/
def cntB (X : Nat → Nat) : Nat → Nat
  | 0 => 0
  | n + 1 => cntB X n + (bitAt X n).toNat
theorem cntB_succ (X : Nat → Nat) (n : Nat) : cntB X (n + 1) = cntB X n + (bitAt X n).toNat := rfl
theorem cntB_word (X : Nat → Nat) (j r : Nat) (hr : r ≤ 64) : cntB X (64 * j + r) = cntB X (64 * j) + cnt (X j) r := by
  induction r with
  | zero => rfl
  | succ r ih =>
    rw [← Nat.add_assoc, cntB_succ, ih (by omega), cnt_succ, bitAt_word X j r (by omega)]
    omega
theorem cntB_le (X : Nat → Nat) (n : Nat) : cntB X n ≤ n := by
  induction n with
  | zero => exact Nat.le_refl 0
  | succ n ih => rw [cntB_succ]; cases bitAt X n <;> simp <;> omega
theorem cntB_mono (X : Nat → Nat) {a b : Nat} (h : a ≤ b) : cntB X a ≤ cntB X b := by
  obtain ⟨d, rfl⟩ : ∃ d, b = a + d := ⟨b - a, by omega⟩
  clear h
  induction d with
  | zero => exact Nat.le_refl _
  | succ d ih => rw [← Nat.add_assoc, cntB_succ]; omega
theorem cntB_same {X : Nat → Nat} {a b : Nat} (h : a ≤ b) (hz : ∀ i, a ≤ i → i < b → bitAt X i = false) : cntB X a = cntB X b := by
  obtain ⟨d, rfl⟩ : ∃ d, b = a + d := ⟨b - a, by omega⟩
  clear h
  induction d with
  | zero => rfl
  | succ d ih => rw [← Nat.add_assoc, cntB_succ, hz (a + d) (by omega) (by omega), ih (fun i h1 h2 => hz i h1 (by omega))]; rfl
theorem cntB_lt {X : Nat → Nat} {a b : Nat} (h : a < b) (hb : bitAt X a = true) : cntB X a < cntB X b := by
  have h1 := cntB_mono X (show a + 1 ≤ b by omega)
  rw [cntB_succ, hb] at h1
  simp at h1
  omega
theorem cntB_eq_zero {X : Nat → Nat} {a b : Nat} (he : cntB X a = cntB X b) : ∀ i, a ≤ i → i < b → bitAt X i = false := fun i h1 h2 => by
  cases hb : bitAt X i
  · rfl
  · have := cntB_lt h2 hb
    have := cntB_mono X h1
    omega
theorem cntB_congr {X Y : Nat → Nat} {n : Nat} (h : ∀ i, i < n → bitAt X i = bitAt Y i) : cntB X n = cntB Y n := by
  induction n with
  | zero => rfl
  | succ n ih => rw [cntB_succ, cntB_succ, ih (fun i hi => h i (by omega)), h n (by omega)]

/-- The places of the set bits below n. -/
def placesB (X : Nat → Nat) (n : Nat) : List Nat := (List.range n).filter (bitAt X)
theorem placesB_t {X : Nat → Nat} {n : Nat} (h : bitAt X n = true) : placesB X (n + 1) = placesB X n ++ [n] := by simp [placesB, List.range_succ, h]
theorem placesB_f {X : Nat → Nat} {n : Nat} (h : bitAt X n = false) : placesB X (n + 1) = placesB X n := by simp [placesB, List.range_succ, h]
theorem placesB_len (X : Nat → Nat) (n : Nat) : (placesB X n).length = cntB X n := by
  induction n with
  | zero => rfl
  | succ n ih =>
    rw [cntB_succ]
    cases hb : bitAt X n
    · rw [placesB_f hb, ih]; rfl
    · rw [placesB_t hb, List.length_append, ih]; rfl
theorem placesB_mem {X : Nat → Nat} {n p : Nat} (h : p ∈ placesB X n) : p < n ∧ bitAt X p = true := by simpa [placesB] using h
theorem placesB_rank {X : Nat → Nat} {n k p : Nat} (h : (placesB X n)[k]? = some p) : p < n ∧ bitAt X p = true ∧ cntB X p = k := by
  induction n with
  | zero => simp [placesB] at h
  | succ n ih =>
    cases hb : bitAt X n
    · rw [placesB_f hb] at h
      obtain ⟨h1, h2⟩ := ih h
      exact ⟨by omega, h2⟩
    · rw [placesB_t hb] at h
      by_cases hk : k < (placesB X n).length
      · rw [List.getElem?_append_left hk] at h
        obtain ⟨h1, h2⟩ := ih h
        exact ⟨by omega, h2⟩
      · rw [List.getElem?_append_right (by omega)] at h
        have e : k - (placesB X n).length = 0 := by
          by_cases h0 : k - (placesB X n).length = 0
          · exact h0
          · rw [List.getElem?_eq_none (by simp; omega)] at h; cases h
        rw [e] at h
        simp at h
        subst h
        exact ⟨by omega, hb, by have := placesB_len X n; omega⟩
theorem placesB_at {X : Nat → Nat} {n i : Nat} (hi : i < n) (hb : bitAt X i = true) : (placesB X n)[cntB X i]? = some i := by
  have hl : cntB X i < (placesB X n).length := by rw [placesB_len]; exact cntB_lt hi hb
  rw [List.getElem?_eq_getElem hl]
  obtain ⟨h1, h2, h3⟩ := placesB_rank (List.getElem?_eq_getElem hl)
  congr 1
  rcases Nat.lt_trichotomy ((placesB X n)[cntB X i]) i with h | h | h
  · have := cntB_lt h h2; omega
  · exact h
  · have := cntB_lt h hb; omega

/-- The place of the set bit that has k set ones ahead of it; or -1. -/
def IsSel (X : Nat → Nat) (n : Nat) (k s : Int) : Prop :=
  (∃ p : Nat, s = p ∧ p < n ∧ bitAt X p = true ∧ ((cntB X p : Nat) : Int) = k) ∨ (s = -1 ∧ (k < 0 ∨ ((cntB X n : Nat) : Int) ≤ k))
theorem IsSel.uniq {X : Nat → Nat} {n : Nat} {k s t : Int} (h : IsSel X n k s) (h' : IsSel X n k t) : s = t := by
  rcases h with ⟨p, rfl, h1, h2, h3⟩ | ⟨rfl, h1⟩ <;> rcases h' with ⟨q, rfl, h4, h5, h6⟩ | ⟨rfl, h4⟩
  · rcases Nat.lt_trichotomy p q with h | h | h
    · have := cntB_lt h h2; omega
    · rw [h]
    · have := cntB_lt h h5; omega
  · have := cntB_lt h1 h2; omega
  · have := cntB_lt h4 h5; omega
  · rfl
/-- The first set bit from f on; or -1. -/
def IsNext (X : Nat → Nat) (n : Nat) (f s : Int) : Prop :=
  (∃ p : Nat, s = p ∧ p < n ∧ bitAt X p = true ∧ f ≤ (p : Int) ∧ ∀ i : Nat, f ≤ (i : Int) → i < p → bitAt X i = false) ∨ (s = -1 ∧ ∀ i : Nat, f ≤ (i : Int) → i < n → bitAt X i = false)
theorem IsNext.uniq {X : Nat → Nat} {n : Nat} {k s t : Int} (h : IsNext X n k s) (h' : IsNext X n k t) : s = t := by
  rcases h with ⟨p, rfl, h1, h2, h3, hz⟩ | ⟨rfl, h1⟩ <;> rcases h' with ⟨q, rfl, h4, h5, h6, hy⟩ | ⟨rfl, h4⟩
  · rcases Nat.lt_trichotomy p q with h | h | h
    · rw [hy p h3 h] at h2; cases h2
    · rw [h]
    · rw [hz q h6 h] at h5; cases h5
  · rw [h4 p h3 h1] at h2; cases h2
  · rw [h1 q h6 h4] at h5; cases h5
  · rfl
/-- The last set bit ahead of t; or -1. -/
def IsLast (X : Nat → Nat) (n : Nat) (t s : Int) : Prop :=
  (∃ p : Nat, s = p ∧ p < n ∧ bitAt X p = true ∧ (p : Int) < t ∧ ∀ i : Nat, p < i → i < n → (i : Int) < t → bitAt X i = false) ∨ (s = -1 ∧ ∀ i : Nat, i < n → (i : Int) < t → bitAt X i = false)
theorem IsLast.uniq {X : Nat → Nat} {n : Nat} {k s t : Int} (h : IsLast X n k s) (h' : IsLast X n k t) : s = t := by
  rcases h with ⟨p, rfl, h1, h2, h3, hz⟩ | ⟨rfl, h1⟩ <;> rcases h' with ⟨q, rfl, h4, h5, h6, hy⟩ | ⟨rfl, h4⟩
  · rcases Nat.lt_trichotomy p q with h | h | h
    · rw [hz q h h4 h6] at h5; cases h5
    · rw [h]
    · rw [hy p h h1 h3] at h2; cases h2
  · rw [h4 p h1 h3] at h2; cases h2
  · rw [h1 q h4 h6] at h5; cases h5
  · rfl
/-- How many set bits lie from f on and ahead of t. -/
def cntIn (X : Nat → Nat) (n : Nat) (f t : Int) : Nat := cntB X (min t.toNat n) - cntB X (min f.toNat n)

/-- A row that isn't one is asked as one without bits. -/
def Eff (n : Int) (k : Nat) (X : Nat → Nat) (N : Nat) : Prop := (formed n k X ∧ N = n.toNat) ∨ (¬ formed n k X ∧ N = 0)
theorem Eff.uniq {n : Int} {k : Nat} {X : Nat → Nat} {N M : Nat} (h : Eff n k X N) (h' : Eff n k X M) : N = M := by
  rcases h with ⟨h1, h2⟩ | ⟨h1, h2⟩ <;> rcases h' with ⟨h3, h4⟩ | ⟨h3, h4⟩
  · rw [h2, h4]
  · exact (h3 h1).elim
  · exact (h1 h3).elim
  · rw [h2, h4]
theorem Eff.get (n : Int) (k : Nat) (X : Nat → Nat) : ∃ N, Eff n k X N := by
  by_cases h : formed n k X
  · exact ⟨_, .inl ⟨h, rfl⟩⟩
  · exact ⟨_, .inr ⟨h, rfl⟩⟩
end Go.Proofs.YtlckhiflhnlgpabGreatDoor

/-
  Of no program: what the program's tests of words say of rows of bits.
-/
namespace Go.Proofs.YtlckhiflhnlgpabGreatDoor

theorem bit_ext {a b : Nat} (ha : a < 18446744073709551616) (hb : b < 18446744073709551616) (h : ∀ r, r < 64 → a.testBit r = b.testBit r) : a = b := by
  apply Nat.eq_of_testBit_eq
  intro i
  by_cases hi : i < 64
  · exact h i hi
  · rw [bit_hi ha (by omega), bit_hi hb (by omega)]
theorem zero_iff {a : Nat} (ha : a < 18446744073709551616) : a = 0 ↔ ∀ r, r < 64 → a.testBit r = false :=
  ⟨fun h r _ => by rw [h]; simp, fun h => bit_ext ha (by decide) (fun r hr => by rw [h r hr]; simp)⟩
theorem andNot_bit {a b r : Nat} (hb : b < 18446744073709551616) (hr : r < 64) : (a &&& (18446744073709551615 - b)).testBit r = (a.testBit r && !b.testBit r) := by
  rw [Nat.testBit_and]
  congr 1
  have : 18446744073709551615 - b = 2 ^ 64 - (b + 1) := by omega
  rw [this, Nat.testBit_two_pow_sub_succ (by simpa using hb)]
  simp [hr]
theorem andNot_lt {a b : Nat} (ha : a < 18446744073709551616) : a &&& (18446744073709551615 - b) < 18446744073709551616 := Nat.lt_of_le_of_lt Nat.and_le_left ha

/-- The program's look at the last word. -/
theorem formed_last {N k : Nat} {X : Nat → Nat} (hN : 0 < N) (hk : k = need N) (hX : X (k - 1) < 18446744073709551616) :
    (X (k - 1) &&& (18446744073709551615 - lowm ((N : Int) - 64 * ((k - 1 : Nat) : Int))) = 0) ↔ formed N k X := by
  unfold need at hk
  rw [zero_iff (andNot_lt hX)]
  constructor
  · intro h
    refine ⟨by omega, hk, fun i h1 h2 => ?_⟩
    have := h (i - 64 * (k - 1)) (by omega)
    rw [andNot_bit (lowm_lt _) (by omega), lowm_bit _ _ (by omega), decide_eq_false (by simp at h1; omega)] at this
    have e : i = 64 * (k - 1) + (i - 64 * (k - 1)) := by simp at h1; omega
    rw [e, bitAt_word X _ _ (by omega)]
    simpa using this
  · rintro ⟨_, _, h⟩ r hr
    rw [andNot_bit (lowm_lt _) hr, lowm_bit _ _ hr]
    by_cases hlt : (r : Int) < (N : Int) - 64 * ((k - 1 : Nat) : Int)
    · rw [decide_eq_true hlt]; simp
    · have := h (64 * (k - 1) + r) (by simp; omega) (by omega)
      rw [bitAt_word X _ _ hr] at this
      rw [this]; rfl
theorem formed_none (X : Nat → Nat) : formed 0 0 X := ⟨by decide, rfl, fun i _ h => by omega⟩
theorem formed_hi {N k : Nat} {X : Nat → Nat} (h : formed N k X) : cntB X N = cntB X (64 * k) := by
  obtain ⟨_, hk, hz⟩ := h
  have hk' : k = need N := by simpa using hk
  unfold need at hk'
  exact cntB_same (by omega) (fun i h1 h2 => hz i (by simpa using h1) h2)

/-- How one word is counted from a place on. -/
theorem count_step {X : Nat → Nat} {F T j : Nat} (hFT : F < T) (hj : F / 64 ≤ j) (hlt : 64 * j < T) :
    cntB X (max F (min T (64 * (j + 1)))) = cntB X (max F (min T (64 * j))) + (cnt (X j) (min (T - 64 * j) 64) - cnt (X j) (min (F - 64 * j) 64)) ∧ cnt (X j) (min (F - 64 * j) 64) ≤ cnt (X j) (min (T - 64 * j) 64) := by
  have e1 : max F (min T (64 * (j + 1))) = 64 * j + min (T - 64 * j) 64 := by omega
  have e2 : max F (min T (64 * j)) = 64 * j + min (F - 64 * j) 64 := by omega
  have h1 := cntB_word X j (min (T - 64 * j) 64) (by omega)
  have h2 := cntB_word X j (min (F - 64 * j) 64) (by omega)
  have h3 : cntB X (64 * j + min (F - 64 * j) 64) ≤ cntB X (64 * j + min (T - 64 * j) 64) := cntB_mono X (by omega)
  rw [e1, e2, h1, h2]
  rw [h1, h2] at h3
  omega
theorem cntIn_clamp {X : Nat → Nat} {N : Nat} {f t : Int} {F T : Nat} (hF : (F : Int) = max f 0) (hT : (T : Int) = min t N) (h : F < T) : cntIn X N f t = cntB X T - cntB X F := by
  unfold cntIn
  rw [show min t.toNat N = T by omega, show min f.toNat N = F by omega]
theorem cntIn_zero {X : Nat → Nat} {N : Nat} {f t : Int} (h : min t N ≤ max f 0) : cntIn X N f t = 0 := by
  unfold cntIn
  have := cntB_mono X (show min t.toNat N ≤ min f.toNat N by omega)
  omega
theorem cntIn_le (X : Nat → Nat) (N : Nat) (f t : Int) : cntIn X N f t ≤ N := by
  unfold cntIn
  have := cntB_le X (min t.toNat N)
  omega

/-- A word that holds the one that is looked for. -/
theorem sel_here {X : Nat → Nat} {N k j K p : Nat} (h : formed N k X) (hj : j < k) (hK : cntB X (64 * j) ≤ K) (hp : (places (X j))[K - cntB X (64 * j)]? = some p) : IsSel X N K ((64 * j + p : Nat) : Int) := by
  obtain ⟨h1, h2, h3⟩ := place_rank hp
  obtain ⟨_, hk, hz⟩ := h
  have hb : bitAt X (64 * j + p) = true := by rw [bitAt_word X _ _ h1]; exact h2
  have hlt : 64 * j + p < N := by
    by_cases hh : 64 * j + p < N
    · exact hh
    · rw [hz (64 * j + p) (by simp; omega) (by omega)] at hb; cases hb
  refine .inl ⟨_, rfl, hlt, hb, ?_⟩
  rw [cntB_word X _ _ (by omega)]
  omega
theorem sel_none {X : Nat → Nat} {N k K : Nat} (h : formed N k X) (hK : cntB X (64 * k) ≤ K) : IsSel X N K (-1) := by
  have := formed_hi h
  exact .inr ⟨rfl, .inr (by omega)⟩

/-- The lowest set bit. -/
theorem ctz_low {x : Nat} (h0 : x ≠ 0) (hx : x < 18446744073709551616) : Lib.ctz 64 x < 64 ∧ x.testBit (Lib.ctz 64 x) = true ∧ ∀ r, r < Lib.ctz 64 x → x.testBit r = false := by
  have h := place_rank (x := x) (k := 0) (p := Lib.ctz 64 x) (by rw [places_step h0 hx]; rfl)
  refine ⟨h.1, h.2.1, fun r hr => ?_⟩
  cases hb : x.testBit r
  · rfl
  · have h1 : cnt x (r + 1) ≤ cnt x (Lib.ctz 64 x) := by
      obtain ⟨d, hd⟩ : ∃ d, Lib.ctz 64 x = r + 1 + d := ⟨Lib.ctz 64 x - (r + 1), by omega⟩
      rw [hd, cnt_add x (r + 1) d]; omega
    rw [cnt_succ, hb, h.2.2] at h1
    simp at h1
/-- The program's look for the next one, word by word. -/
theorem next_zero {X : Nat → Nat} {F j : Nat} (hX : X j < 18446744073709551616) (hz : ∀ i, F ≤ i → i < 64 * j → bitAt X i = false) (h : X j &&& (18446744073709551615 - lowm ((F : Int) - 64 * (j : Int))) = 0) : ∀ i, F ≤ i → i < 64 * (j + 1) → bitAt X i = false := fun i h1 h2 => by
  by_cases hi : i < 64 * j
  · exact hz i h1 hi
  · have := (zero_iff (andNot_lt hX)).1 h (i - 64 * j) (by omega)
    rw [andNot_bit (lowm_lt _) (by omega), lowm_bit _ _ (by omega), decide_eq_false (by omega)] at this
    rw [show i = 64 * j + (i - 64 * j) by omega, bitAt_word X _ _ (by omega)]
    simpa using this
theorem next_here {X : Nat → Nat} {F j k N x : Nat} (hf : formed N k X) (hj : j < k) (hX : X j < 18446744073709551616) (hz : ∀ i, F ≤ i → i < 64 * j → bitAt X i = false) (hx : X j &&& (18446744073709551615 - lowm ((F : Int) - 64 * (j : Int))) = x) (h : x ≠ 0) : IsNext X N F ((64 * j + Lib.ctz 64 x : Nat) : Int) := by
  have hxl : x < 18446744073709551616 := hx ▸ andNot_lt hX
  obtain ⟨h1, h2, h3⟩ := ctz_low h hxl
  generalize Lib.ctz 64 x = c at *
  have h4 := h2
  rw [← hx, andNot_bit (lowm_lt _) h1, lowm_bit _ _ h1] at h4
  simp at h4
  have hb : bitAt X (64 * j + c) = true := by rw [bitAt_word X _ _ h1]; exact h4.1
  have hlt : 64 * j + c < N := by
    by_cases hh : 64 * j + c < N
    · exact hh
    · rw [hf.2.2 (64 * j + c) (by simp; omega) (by omega)] at hb; cases hb
  refine .inl ⟨_, rfl, hlt, hb, by omega, fun i h5 h6 => ?_⟩
  by_cases hi : i < 64 * j
  · exact hz i (by omega) hi
  · have := h3 (i - 64 * j) (by omega)
    rw [← hx, andNot_bit (lowm_lt _) (by omega), lowm_bit _ _ (by omega), decide_eq_false (by omega)] at this
    rw [show i = 64 * j + (i - 64 * j) by omega, bitAt_word X _ _ (by omega)]
    simpa using this
theorem next_none {X : Nat → Nat} {F k N : Nat} (hf : formed N k X) (hz : ∀ i, F ≤ i → i < 64 * k → bitAt X i = false) : IsNext X N F (-1) := by
  refine .inr ⟨rfl, fun i h1 h2 => hz i (by omega) ?_⟩
  have hk : k = need N := by simpa using hf.2.1
  unfold need at hk
  omega
/-- Numbers below 0 are as 0. -/
theorem IsNext.clamp {X : Nat → Nat} {N : Nat} {f s : Int} {F : Nat} (hF : (F : Int) = max f 0) (h : IsNext X N F s) : IsNext X N f s := by
  rcases h with ⟨p, h1, h2, h3, h4, h5⟩ | ⟨h1, h2⟩
  · exact .inl ⟨p, h1, h2, h3, by omega, fun i a b => h5 i (by omega) b⟩
  · exact .inr ⟨h1, fun i a b => h2 i (by omega) b⟩

/-- The highest set bit. -/
theorem log_high {x L : Nat} (h1 : 2 ^ L ≤ x) (h2 : x < 2 ^ (L + 1)) : x.testBit L = true ∧ ∀ r, L < r → x.testBit r = false := by
  refine ⟨?_, fun r hr => Nat.testBit_lt_two_pow (Nat.lt_of_lt_of_le h2 (Nat.pow_le_pow_right (by decide) (by omega)))⟩
  have : x / 2 ^ L = 1 := by
    have hp : 0 < 2 ^ L := Nat.pow_pos (by decide)
    have e : 2 ^ (L + 1) = 2 * 2 ^ L := by rw [Nat.pow_succ]; omega
    apply Nat.eq_of_le_of_lt_succ
    · exact (Nat.le_div_iff_mul_le hp).2 (by omega)
    · exact (Nat.div_lt_iff_lt_mul hp).2 (by omega)
  rw [Nat.testBit_eq_decide_div_mod_eq, this]; rfl
/-- The program's look for the last one, word by word, downwards: T is at most N, and what lies from 64 (j + 1) on and ahead of T isn't set. -/
theorem last_zero {X : Nat → Nat} {T j : Nat} (hX : X j < 18446744073709551616) (hz : ∀ i, 64 * (j + 1) ≤ i → i < T → bitAt X i = false) (h : X j &&& lowm ((T : Int) - 64 * (j : Int)) = 0) : ∀ i, 64 * j ≤ i → i < T → bitAt X i = false := fun i h1 h2 => by
  by_cases hi : 64 * (j + 1) ≤ i
  · exact hz i hi h2
  · have := (zero_iff (Nat.lt_of_le_of_lt Nat.and_le_left hX)).1 h (i - 64 * j) (by omega)
    rw [Nat.testBit_and, lowm_bit _ _ (by omega), decide_eq_true (by omega)] at this
    rw [show i = 64 * j + (i - 64 * j) by omega, bitAt_word X _ _ (by omega)]
    simpa using this
theorem last_here {X : Nat → Nat} {T j N x L : Nat} (hT : T ≤ N) (hX : X j < 18446744073709551616) (hz : ∀ i, 64 * (j + 1) ≤ i → i < T → bitAt X i = false) (hx : X j &&& lowm ((T : Int) - 64 * (j : Int)) = x) (h1 : 2 ^ L ≤ x) (h2 : x < 2 ^ (L + 1)) : IsLast X N T ((64 * j + L : Nat) : Int) := by
  obtain ⟨h3, h4⟩ := log_high h1 h2
  have hxl : x < 18446744073709551616 := hx ▸ Nat.lt_of_le_of_lt Nat.and_le_left hX
  have hL : L < 64 := by
    by_cases hh : L < 64
    · exact hh
    · rw [bit_hi hxl (by omega)] at h3; cases h3
  have h5 := h3
  rw [← hx, Nat.testBit_and, lowm_bit _ _ hL] at h5
  simp at h5
  refine .inl ⟨_, rfl, by omega, by rw [bitAt_word X _ _ hL]; exact h5.1, by omega, fun i h6 h7 h8 => ?_⟩
  by_cases hi : 64 * (j + 1) ≤ i
  · exact hz i hi (by omega)
  · have := h4 (i - 64 * j) (by omega)
    rw [← hx, Nat.testBit_and, lowm_bit _ _ (by omega), decide_eq_true (by omega)] at this
    rw [show i = 64 * j + (i - 64 * j) by omega, bitAt_word X _ _ (by omega)]
    simpa using this
theorem last_none {X : Nat → Nat} {T N : Nat} (hz : ∀ i, i < T → bitAt X i = false) : IsLast X N T (-1) := .inr ⟨rfl, fun i _ h => hz i (by omega)⟩
theorem IsLast.clamp {X : Nat → Nat} {N : Nat} {t s : Int} {T : Nat} (hT : (T : Int) = min t N) (h : IsLast X N T s) : IsLast X N t s := by
  rcases h with ⟨p, h1, h2, h3, h4, h5⟩ | ⟨h1, h2⟩
  · exact .inl ⟨p, h1, h2, h3, by omega, fun i a b c => h5 i a b (by omega)⟩
  · exact .inr ⟨h1, fun i a b => h2 i a (by omega)⟩
theorem last_low {X : Nat → Nat} {N : Nat} {t : Int} (h : min t N ≤ 0) : IsLast X N t (-1) := .inr ⟨rfl, fun i h1 h2 => by omega⟩
theorem next_high {X : Nat → Nat} {N : Nat} {f : Int} (h : (N : Int) ≤ max f 0) : IsNext X N f (-1) := .inr ⟨rfl, fun i h1 h2 => by omega⟩
end Go.Proofs.YtlckhiflhnlgpabGreatDoor

/-
  Of no program: what the document's way, place by place, makes of rows of bits.
-/
namespace Go.Proofs.YtlckhiflhnlgpabGreatDoor

/-- A word made from its highest bit down: behind t bits. -/
def hiB (g : Nat → Bool) : Nat → Nat
  | 0 => 0
  | t + 1 => 2 * hiB g t + (g (63 - t)).toNat
theorem hiB_lt (g : Nat → Bool) (t : Nat) : hiB g t < 2 ^ t := by
  induction t with
  | zero => exact Nat.zero_lt_one
  | succ t ih => rw [hiB, Nat.pow_succ]; cases g (63 - t) <;> simp <;> omega
theorem hiB_sum (g : Nat → Bool) (t : Nat) (ht : t ≤ 64) : hiB g t * 2 ^ (64 - t) + sumBits g (64 - t) = sumBits g 64 := by
  induction t with
  | zero => simp [hiB]
  | succ t ih =>
    rw [← ih (by omega), hiB, show 64 - t = (63 - t) + 1 by omega, show 64 - (t + 1) = 63 - t by omega, sumBits_succ, Nat.pow_succ, Nat.add_mul, Nat.mul_comm 2 (hiB g t), Nat.mul_assoc, Nat.mul_comm 2 (2 ^ (63 - t))]
    cases g (63 - t) <;> simp <;> omega
theorem hiB_all (g : Nat → Bool) : hiB g 64 = sumBits g 64 := by
  have h := hiB_sum g 64 (Nat.le_refl _)
  rw [← h, Nat.sub_self, Nat.pow_zero, Nat.mul_one]
  rfl

/-- The row of words that has just these bits below n. -/
def rowOf (g : Nat → Bool) (n : Nat) (j : Nat) : Nat := sumBits (fun r => decide (64 * j + r < n) && g (64 * j + r)) 64
theorem rowOf_lt (g : Nat → Bool) (n j : Nat) : rowOf g n j < 18446744073709551616 := sumBits_lt _ 64
theorem rowOf_bit (g : Nat → Bool) (n i : Nat) : bitAt (rowOf g n) i = (decide (i < n) && g i) := by
  unfold bitAt rowOf
  rw [sumBits_bit, show 64 * (i / 64) + i % 64 = i by omega, decide_eq_true (show i % 64 < 64 by omega)]
  rfl
theorem rowOf_formed (g : Nat → Bool) (n : Nat) : formed n (need n) (rowOf g n) := ⟨by omega, by simp, fun i h1 _ => by rw [rowOf_bit, decide_eq_false (by simp at h1; omega)]; rfl⟩
/-- A word that has the row's bits is the row's word. -/
theorem rowOf_eq {g : Nat → Bool} {n j x : Nat} (hx : x < 18446744073709551616) (h : ∀ r, r < 64 → x.testBit r = (decide (64 * j + r < n) && g (64 * j + r))) : x = rowOf g n j := by
  refine bit_ext hx (rowOf_lt _ _ _) (fun r hr => ?_)
  rw [h r hr, rowOf, sumBits_bit, decide_eq_true hr]
  rfl
/-- A row of bits is made of its own bits. -/
theorem rowOf_self {N k : Nat} {X : Nat → Nat} (h : formed N k X) {j : Nat} (hj : j < k) (hX : X j < 18446744073709551616) : X j = rowOf (bitAt X) N j := by
  refine rowOf_eq hX (fun r hr => ?_)
  rw [bitAt_word X j r hr]
  by_cases hlt : 64 * j + r < N
  · rw [decide_eq_true hlt]; rfl
  · rw [decide_eq_false hlt]
    have := h.2.2 (64 * j + r) (by simp; omega) (by omega)
    rwa [bitAt_word X j r hr] at this
/-- What leaves the bits above n alone makes the row of the changed bits. -/
theorem rowOf_map {N : Nat} {g : Nat → Bool} {j x : Nat} (hx : x < 18446744073709551616) (h : ∀ r, r < 64 → x.testBit r = (decide (((r : Nat) : Int) < (N : Int) - 64 * (j : Int)) && g (64 * j + r))) : x = rowOf g N j :=
  rowOf_eq hx (fun r hr => by rw [h r hr]; congr 1; exact decide_eq_decide.2 (by omega))

/-- How many of the listed places lie between. -/
theorem countP_places (X : Nat → Nat) (N : Nat) (f t : Int) : (placesB X N).countP (fun (p : Nat) => decide (f ≤ (p : Int) ∧ (p : Int) < t)) = cntIn X N f t := by
  induction N with
  | zero => simp [placesB, cntIn]
  | succ N ih =>
    have hm := cntB_mono X (show min t.toNat N ≤ N by omega)
    have hs := cntB_succ X N
    cases hb : bitAt X N
    · rw [placesB_f hb, ih]
      unfold cntIn
      rw [hb] at hs
      have e : ∀ a : Nat, cntB X (min a (N + 1)) = cntB X (min a N) := fun a => by
        by_cases ha : a ≤ N
        · rw [show min a (N + 1) = min a N by omega]
        · rw [show min a (N + 1) = N + 1 by omega, show min a N = N by omega, hs]; rfl
      rw [e, e]
    · rw [placesB_t hb, List.countP_append, ih, List.countP_singleton]
      rw [hb] at hs
      unfold cntIn
      simp only [Bool.toNat_true] at hs
      by_cases h1 : f ≤ (N : Int)
      · have e1 : min f.toNat (N + 1) = min f.toNat N := by omega
        have hf : cntB X (min f.toNat N) ≤ cntB X N := cntB_mono X (by omega)
        rw [e1]
        by_cases h2 : (N : Int) < t
        · rw [show min t.toNat (N + 1) = N + 1 by omega, show min t.toNat N = N by omega, hs, if_pos (by simpa using ⟨h1, h2⟩)]
          omega
        · rw [show min t.toNat (N + 1) = min t.toNat N by omega, if_neg (by simp; omega)]
          rfl
      · rw [show min f.toNat (N + 1) = N + 1 by omega, show min f.toNat N = N by omega, if_neg (by simp; omega)]
        have h3 : cntB X (min t.toNat (N + 1)) ≤ cntB X (N + 1) := cntB_mono X (by omega)
        omega
/-- What is told of a list of the places. -/
theorem sel_list {X : Nat → Nat} {N k p : Nat} (h : (placesB X N)[k]? = some p) : IsSel X N k p := by
  obtain ⟨h1, h2, h3⟩ := placesB_rank h
  exact .inl ⟨p, rfl, h1, h2, by omega⟩
theorem sel_list_none {X : Nat → Nat} {N : Nat} {k : Int} (h : k < 0 ∨ ((placesB X N).length : Int) ≤ k) : IsSel X N k (-1) := .inr ⟨rfl, by rw [placesB_len] at h; exact h⟩
theorem next_list {X : Nat → Nat} {N j p : Nat} {f : Int} (h : (placesB X N)[j]? = some p) (hp : f ≤ (p : Int)) (hz : ∀ i q, i < j → (placesB X N)[i]? = some q → (q : Int) < f) : IsNext X N f p := by
  obtain ⟨h1, h2, h3⟩ := placesB_rank h
  refine .inl ⟨p, rfl, h1, h2, hp, fun i h4 h5 => ?_⟩
  cases hb : bitAt X i
  · rfl
  · have := hz (cntB X i) i (by rw [← h3]; exact cntB_lt h5 hb) (placesB_at (by omega) hb)
    omega
theorem next_list_none {X : Nat → Nat} {N : Nat} {f : Int} (hz : ∀ i q : Nat, (placesB X N)[i]? = some q → (q : Int) < f) : IsNext X N f (-1) := by
  refine .inr ⟨rfl, fun i h4 h5 => ?_⟩
  cases hb : bitAt X i
  · rfl
  · have := hz (cntB X i) i (placesB_at h5 hb)
    omega
theorem last_list {X : Nat → Nat} {N j p : Nat} {t : Int} (h : (placesB X N)[j]? = some p) (hp : (p : Int) < t) (hz : ∀ i q, j < i → (placesB X N)[i]? = some q → t ≤ (q : Int)) : IsLast X N t p := by
  obtain ⟨h1, h2, h3⟩ := placesB_rank h
  refine .inl ⟨p, rfl, h1, h2, hp, fun i h4 h5 h6 => ?_⟩
  cases hb : bitAt X i
  · rfl
  · have := hz (cntB X i) i (by rw [← h3]; exact cntB_lt h4 h2) (placesB_at h5 hb)
    omega
theorem last_list_none {X : Nat → Nat} {N : Nat} {t : Int} (hz : ∀ i q : Nat, (placesB X N)[i]? = some q → t ≤ (q : Int)) : IsLast X N t (-1) := by
  refine .inr ⟨rfl, fun i h4 h5 => ?_⟩
  cases hb : bitAt X i
  · rfl
  · have := hz (cntB X i) i (placesB_at h4 hb)
    omega
/-- Whether an odd number of the bits below n is set. -/
def oddB (X : Nat → Nat) : Nat → Bool
  | 0 => false
  | n + 1 => oddB X n ^^ bitAt X n
theorem oddB_word (X : Nat → Nat) (j r : Nat) (hr : r ≤ 64) : oddB X (64 * j + r) = (oddB X (64 * j) ^^ parTo (X j) r) := by
  induction r with
  | zero => simp [parTo]
  | succ r ih => rw [← Nat.add_assoc, oddB, ih (by omega), parTo_succ, bitAt_word X j r (by omega), Bool.xor_assoc]
end Go.Proofs.YtlckhiflhnlgpabGreatDoor

/-
  Of no program: that what is asked of a row has an answer; what rows put together and turned come to.
-/
namespace Go.Proofs.YtlckhiflhnlgpabGreatDoor

/-- The place of the k-th set bit of a row. -/
theorem sel_ex (X : Nat → Nat) (N : Nat) (k : Int) : ∃ s, IsSel X N k s := by
  by_cases h : k < 0 ∨ ((cntB X N : Nat) : Int) ≤ k
  · exact ⟨-1, .inr ⟨rfl, h⟩⟩
  · obtain ⟨K, rfl⟩ := Int.eq_ofNat_of_zero_le (show 0 ≤ k by omega)
    have hl : K < (placesB X N).length := by rw [placesB_len]; omega
    exact ⟨_, sel_list (List.getElem?_eq_getElem hl)⟩
theorem IsSel.range {X : Nat → Nat} {N : Nat} {k s : Int} (h : IsSel X N k s) : -1 ≤ s ∧ s < max N 1 := by
  rcases h with ⟨p, rfl, h1, _⟩ | ⟨rfl, _⟩ <;> omega
/-- The next set bit is the one that has as many set ones ahead of it as the place. -/
theorem IsSel.next {X : Nat → Nat} {N : Nat} {f s : Int} {F : Nat} (hF : (F : Int) = max f 0) (h : IsSel X N (cntB X F : Nat) s) : IsNext X N f s := by
  rcases h with ⟨p, rfl, h1, h2, h3⟩ | ⟨rfl, h1⟩
  · have hp : F ≤ p := by
      rcases Nat.lt_or_ge p F with h | h
      · have := cntB_lt h h2; omega
      · exact h
    refine .inl ⟨p, rfl, h1, h2, by omega, fun i h4 h5 => ?_⟩
    cases hb : bitAt X i
    · rfl
    · have := cntB_lt h5 hb
      have := cntB_mono X (show F ≤ i by omega)
      omega
  · refine .inr ⟨rfl, fun i h4 h5 => ?_⟩
    cases hb : bitAt X i
    · rfl
    · have := cntB_lt h5 hb
      have := cntB_mono X (show F ≤ i by omega)
      omega
/-- The last set bit ahead of a place has one fewer set ones ahead of it. -/
theorem IsSel.last {X : Nat → Nat} {N : Nat} {t s : Int} {T : Nat} (hT : T = min t.toNat N) (h : IsSel X N ((cntB X T : Nat) - 1 : Int) s) : IsLast X N t s := by
  rcases h with ⟨p, rfl, h1, h2, h3⟩ | ⟨rfl, h1⟩
  · have hp : p < T := by
      rcases Nat.lt_or_ge p T with h | h
      · exact h
      · have := cntB_mono X h; omega
    refine .inl ⟨p, rfl, h1, h2, by omega, fun i h4 h5 h6 => ?_⟩
    cases hb : bitAt X i
    · rfl
    · have h7 := cntB_lt h4 h2
      have h8 := cntB_lt (show i < T by omega) hb
      omega
  · refine .inr ⟨rfl, fun i h4 h5 => ?_⟩
    cases hb : bitAt X i
    · rfl
    · have h8 := cntB_lt (show i < T by omega) hb
      have := cntB_mono X (show T ≤ N by omega)
      omega
theorem next_ex (X : Nat → Nat) (N : Nat) (f : Int) : ∃ s, IsNext X N f s := by
  by_cases h : (N : Int) ≤ max f 0
  · exact ⟨-1, next_high h⟩
  · obtain ⟨s, hs⟩ := sel_ex X N ((cntB X f.toNat : Nat) : Int)
    exact ⟨s, hs.next (by omega)⟩
theorem last_ex (X : Nat → Nat) (N : Nat) (t : Int) : ∃ s, IsLast X N t s := by
  obtain ⟨s, hs⟩ := sel_ex X N (((cntB X (min t.toNat N) : Nat) : Int) - 1)
  exact ⟨s, hs.last rfl⟩
theorem IsNext.range {X : Nat → Nat} {N : Nat} {k s : Int} (h : IsNext X N k s) : -1 ≤ s ∧ s < max N 1 := by
  rcases h with ⟨p, rfl, h1, _⟩ | ⟨rfl, _⟩ <;> omega
theorem IsLast.range {X : Nat → Nat} {N : Nat} {k s : Int} (h : IsLast X N k s) : -1 ≤ s ∧ s < max N 1 := by
  rcases h with ⟨p, rfl, h1, _⟩ | ⟨rfl, _⟩ <;> omega

/-- Is the place one of the row's, and set? -/
def getB (X : Nat → Nat) (N : Nat) (i : Int) : Bool := decide (0 ≤ i) && (decide (i < (N : Int)) && bitAt X i.toNat)
theorem getB_nat {X : Nat → Nat} {N P : Nat} (h : P < N) : getB X N (P : Int) = bitAt X P := by
  rw [getB, decide_eq_true (by omega), decide_eq_true (by omega), Int.toNat_natCast]; rfl
theorem getB_lo {X : Nat → Nat} {N : Nat} {i : Int} (h : i < 0) : getB X N i = false := by rw [getB, decide_eq_false (by omega)]; rfl
theorem getB_hi {X : Nat → Nat} {N : Nat} {i : Int} (h : (N : Int) ≤ i) : getB X N i = false := by rw [getB, decide_eq_false (show ¬ i < (N : Int) by omega)]; simp

/-- What comes out of two rows of words, put together bit by bit. -/
theorem join_row {o : Nat → Nat → Nat} {ob : Bool → Bool → Bool} (hob : ob false false = false) (ho : ∀ x y r, x < 18446744073709551616 → y < 18446744073709551616 → r < 64 → (o x y).testBit r = ob (x.testBit r) (y.testBit r)) (hl : ∀ x y, x < 18446744073709551616 → y < 18446744073709551616 → o x y < 18446744073709551616)
    {N k : Nat} {X Y : Nat → Nat} (hX : formed N k X) (hY : formed N k Y) {j : Nat} (hj : j < k) (hx : X j < 18446744073709551616) (hy : Y j < 18446744073709551616) : o (X j) (Y j) = rowOf (fun i => ob (bitAt X i) (bitAt Y i)) N j := by
  refine rowOf_eq (hl _ _ hx hy) (fun r hr => ?_)
  rw [ho _ _ r hx hy hr, bitAt_word X j r hr, bitAt_word Y j r hr]
  by_cases hlt : 64 * j + r < N
  · rw [decide_eq_true hlt]; rfl
  · have h1 := hX.2.2 (64 * j + r) (by simp; omega) (by omega)
    have h2 := hY.2.2 (64 * j + r) (by simp; omega) (by omega)
    rw [bitAt_word X j r hr] at h1
    rw [bitAt_word Y j r hr] at h2
    rw [decide_eq_false hlt, h1, h2, hob]; rfl
/-- What comes out of a row of words, each turned, what lies above the row taken off. -/
theorem turn_row {G : Nat → Bool} {N j c : Nat} (hc : c < 18446744073709551616) (h : ∀ r, r < 64 → c.testBit r = G (64 * j + r)) : c &&& lowm ((N : Int) - 64 * (j : Int)) = rowOf G N j := by
  refine rowOf_map (Nat.lt_of_le_of_lt Nat.and_le_left hc) (fun r hr => ?_)
  rw [Nat.testBit_and, h r hr, lowm_bit _ _ hr, Bool.and_comm]

/-- The errors of a call that puts two rows together. -/
def joinE (n m : Int) (k l : Nat) (X Y : Nat → Nat) (E q : Int) (r : Nat) : Prop :=
  (¬ (formed n k X ∧ formed m l Y) ∧ E = 1 ∧ q = 0 ∧ r = 0) ∨ ((formed n k X ∧ formed m l Y) ∧ n ≠ m ∧ E = 2 ∧ q = 0 ∧ r = 0) ∨ ((formed n k X ∧ formed m l Y) ∧ n = m ∧ E = 0 ∧ q = n ∧ r = k)
theorem joinE_ex (n m : Int) (k l : Nat) (X Y : Nat → Nat) : ∃ E q r, joinE n m k l X Y E q r := by
  by_cases h : formed n k X ∧ formed m l Y
  · by_cases h2 : n = m
    · exact ⟨0, n, k, .inr (.inr ⟨h, h2, rfl, rfl, rfl⟩)⟩
    · exact ⟨2, 0, 0, .inr (.inl ⟨h, h2, rfl, rfl, rfl⟩)⟩
  · exact ⟨1, 0, 0, .inl ⟨h, rfl, rfl, rfl⟩⟩
/-- The errors of a call that turns a row. -/
def turnE (n : Int) (k : Nat) (X : Nat → Nat) (E q : Int) (r : Nat) : Prop := (¬ formed n k X ∧ E = 1 ∧ q = 0 ∧ r = 0) ∨ (formed n k X ∧ E = 0 ∧ q = n ∧ r = k)
theorem turnE_ex (n : Int) (k : Nat) (X : Nat → Nat) : ∃ E q r, turnE n k X E q r := by
  by_cases h : formed n k X
  · exact ⟨0, n, k, .inr ⟨h, rfl, rfl, rfl⟩⟩
  · exact ⟨1, 0, 0, .inl ⟨h, rfl, rfl, rfl⟩⟩
end Go.Proofs.YtlckhiflhnlgpabGreatDoor
