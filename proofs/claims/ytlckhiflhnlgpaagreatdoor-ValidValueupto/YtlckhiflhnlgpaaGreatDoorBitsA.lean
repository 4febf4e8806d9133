/-
  BitMath, BitMath2, BitMath3, BitMath4.
-/
import Derived.Test.YtlckhiflhnlgpaaGreatDoorWordsA
import Derived.Laws.BitsAllLaws
/-
  Of no program: rows of bits, told by their words.
-/
namespace Go.Proofs.YtlckhiflhnlgpaaGreatDoor

/-- The bit i of a row of words. -/
def bitAt (X : Nat → Nat) (i : Nat) : Bool := (X (i / 64)).testBit (i % 64)
theorem bitAt_word (X : Nat → Nat) (j r : Nat) (hr : r < 64) : bitAt X (64 * j + r) = (X j).testBit r := by
  unfold bitAt
  rw [show (64 * j + r) / 64 = j by omega, show (64 * j + r) % 64 = r by omega]
/-- How many words so many bits take up. -/
def need (n : Nat) : Nat := (n + 63) / 64
/-- Is it a row of bits? -/
def formed (n : Int) (k : Nat) (X : Nat → Nat) : Prop := 0 ≤ n ∧ k = need n.toNat ∧ ∀ i, n.toNat ≤ i → i < 64 * k → bitAt X i = false

/-- The bits below i. -/
def lowm (i : Int) : Nat := 2 ^ (min i.toNat 64) - 1
theorem lowm_bit (i : Int) (j : Nat) (hj : j < 64) : (lowm i).testBit j = decide ((j : Int) < i) := by
  unfold lowm
  rw [Nat.testBit_two_pow_sub_one]
  by_cases h : (j : Int) < i
  · rw [decide_eq_true h, decide_eq_true (by omega)]
  · rw [decide_eq_false h, decide_eq_false (by omega)]
theorem lowm_lt (i : Int) : lowm i < 18446744073709551616 := by
  unfold lowm
  have : (2 : Nat) ^ (min i.toNat 64) ≤ 2 ^ 64 := Nat.pow_le_pow_right (by decide) (by omega)
  omega

/-- How many bits below n are set. -/
def cntB (X : Nat → Nat) : Nat → Nat
  | 0 => 0
  | n + 1 => cntB X n + (bitAt X n).toNat
theorem cntB_succ (X : Nat → Nat) (n : Nat) : cntB X (n + 1) = cntB X n + (bitAt X n).toNat := rfl
theorem cntB_mono (X : Nat → Nat) {a b : Nat} (h : a ≤ b) : cntB X a ≤ cntB X b := by
  obtain ⟨d, rfl⟩ : ∃ d, b = a + d := ⟨b - a, by omega⟩
  clear h
  induction d with
  | zero => exact Nat.le_refl _
  | succ d ih => rw [← Nat.add_assoc, cntB_succ]; omega
theorem cntB_lt {X : Nat → Nat} {a b : Nat} (h : a < b) (hb : bitAt X a = true) : cntB X a < cntB X b := by
  have h1 := cntB_mono X (show a + 1 ≤ b by omega)
  rw [cntB_succ, hb] at h1
  simp at h1
  omega
/-- The places of the set bits below n. -/
def placesB (X : Nat → Nat) (n : Nat) : List Nat := (List.range n).filter (bitAt X)
theorem placesB_t {X : Nat → Nat} {n : Nat} (h : bitAt X n = true) : placesB X (n + 1) = placesB X n ++ [n] := by simp [placesB, List.range_succ, h]
theorem placesB_f {X : Nat → Nat} {n : Nat} (h : bitAt X n = false) : placesB X (n + 1) = placesB X n := by simp [placesB, List.range_succ, h]
/-- The place of the set bit that has k set ones ahead of it; or -1. -/
def IsSel (X : Nat → Nat) (n : Nat) (k s : Int) : Prop :=
  (∃ p : Nat, s = p ∧ p < n ∧ bitAt X p = true ∧ ((cntB X p : Nat) : Int) = k) ∨ (s = -1 ∧ (k < 0 ∨ ((cntB X n : Nat) : Int) ≤ k))
theorem IsSel.uniq {X : Nat → Nat} {n : Nat} {k s t : Int} (h : IsSel X n k s) (h' : IsSel X n k t) : s = t := by
  rcases h with ⟨p, rfl, h1, h2, h3⟩ | ⟨rfl, h1⟩ <;> rcases h' with ⟨q, rfl, h4, h5, h6⟩ | ⟨rfl, h4⟩
  · rcases Nat.lt_trichotomy p q with h | h | h
    · have := cntB_lt h h2; omega
    · rw [h]
    · have := cntB_lt h h5; omega
  · have := cntB_lt h1 h2; omega
  · have := cntB_lt h4 h5; omega
  · rfl
/-- The first set bit from f on; or -1. -/
def IsNext (X : Nat → Nat) (n : Nat) (f s : Int) : Prop :=
  (∃ p : Nat, s = p ∧ p < n ∧ bitAt X p = true ∧ f ≤ (p : Int) ∧ ∀ i : Nat, f ≤ (i : Int) → i < p → bitAt X i = false) ∨ (s = -1 ∧ ∀ i : Nat, f ≤ (i : Int) → i < n → bitAt X i = false)
theorem IsNext.uniq {X : Nat → Nat} {n : Nat} {k s t : Int} (h : IsNext X n k s) (h' : IsNext X n k t) : s = t := by
  rcases h with ⟨p, rfl, h1, h2, h3, hz⟩ | ⟨rfl, h1⟩ <;> rcases h' with ⟨q, rfl, h4, h5, h6, hy⟩ | ⟨rfl, h4⟩
  · rcases Nat.lt_trichotomy p q with h | h | h
    · rw [hy p h3 h] at h2; cases h2
    · rw [h]
    · rw [hz q h6 h] at h5; cases h5
  · rw [h4 p h3 h1] at h2; cases h2
  · rw [h1 q h6 h4] at h5; cases h5
  · rfl
/-- The last set bit ahead of t; or -1. -/
def IsLast (X : Nat → Nat) (n : Nat) (t s : Int) : Prop :=
  (∃ p : Nat, s = p ∧ p < n ∧ bitAt X p = true ∧ (p : Int) < t ∧ ∀ i : Nat, p < i → i < n → (i : Int) < t → bitAt X i = false) ∨ (s = -1 ∧ ∀ i : Nat, i < n → (i : Int) < t → bitAt X i = false)
theorem IsLast.uniq {X : Nat → Nat} {n : Nat} {k s t : Int} (h : IsLast X n k s) (h' : IsLast X n k t) : s = t := by
  rcases h with ⟨p, rfl, h1, h2, h3, hz⟩ | ⟨rfl, h1⟩ <;> rcases h' with ⟨q, rfl, h4, h5, h6, hy⟩ | ⟨rfl, h4⟩
  · rcases Nat.lt_trichotomy p q with h | h | h
    · rw [hz q h h4 h6] at h5; cases h5
    · rw [h]
    · rw [hy p h h1 h3] at h2; cases h2
  · rw [h4 p h1 h3] at h2; cases h2
  · rw [h1 q h4 h6] at h5; cases h5
  · rfl
/-- A row that isn't one is asked as one without bits. -/
def Eff (n : Int) (k : Nat) (X : Nat → Nat) (N : Nat) : Prop := (formed n k X ∧ N = n.toNat) ∨ (¬ formed n k X ∧ N = 0)
theorem Eff.uniq {n : Int} {k : Nat} {X : Nat → Nat} {N M : Nat} (h : Eff n k X N) (h' : Eff n k X M) : N = M := by
  rcases h with ⟨h1, h2⟩ | ⟨h1, h2⟩ <;> rcases h' with ⟨h3, h4⟩ | ⟨h3, h4⟩
  · rw [h2, h4]
  · exact (h3 h1).elim
  · exact (h1 h3).elim
  · rw [h2, h4]
end Go.Proofs.YtlckhiflhnlgpaaGreatDoor

/-
  Of no program: what the program's tests of words say of rows of bits.
-/
namespace Go.Proofs.YtlckhiflhnlgpaaGreatDoor

theorem bit_ext {a b : Nat} (ha : a < 18446744073709551616) (hb : b < 18446744073709551616) (h : ∀ r, r < 64 → a.testBit r = b.testBit r) : a = b := by
  apply Nat.eq_of_testBit_eq
  intro i
  by_cases hi : i < 64
  · exact h i hi
  · rw [bit_hi ha (by omega), bit_hi hb (by omega)]
theorem zero_iff {a : Nat} (ha : a < 18446744073709551616) : a = 0 ↔ ∀ r, r < 64 → a.testBit r = false :=
  ⟨fun h r _ => by rw [h]; simp, fun h => bit_ext ha (by decide) (fun r hr => by rw [h r hr]; simp)⟩
theorem andNot_bit {a b r : Nat} (hb : b < 18446744073709551616) (hr : r < 64) : (a &&& (18446744073709551615 - b)).testBit r = (a.testBit r && !b.testBit r) := by
  rw [Nat.testBit_and]
  congr 1
  have : 18446744073709551615 - b = 2 ^ 64 - (b + 1) := by omega
  rw [this, Nat.testBit_two_pow_sub_succ (by simpa using hb)]
  simp [hr]
theorem andNot_lt {a b : Nat} (ha : a < 18446744073709551616) : a &&& (18446744073709551615 - b) < 18446744073709551616 := Nat.lt_of_le_of_lt Nat.and_le_left ha

/-- The program's look at the last word. -/
theorem formed_last {N k : Nat} {X : Nat → Nat} (hN : 0 < N) (hk : k = need N) (hX : X (k - 1) < 18446744073709551616) :
    (X (k - 1) &&& (18446744073709551615 - lowm ((N : Int) - 64 * ((k - 1 : Nat) : Int))) = 0) ↔ formed N k X := by
  unfold need at hk
  rw [zero_iff (andNot_lt hX)]
  constructor
  · intro h
    refine ⟨by omega, hk, fun i h1 h2 => ?_⟩
    have := h (i - 64 * (k - 1)) (by omega)
    rw [andNot_bit (lowm_lt _) (by omega), lowm_bit _ _ (by omega), decide_eq_false (by simp at h1; omega)] at this
    have e : i = 64 * (k - 1) + (i - 64 * (k - 1)) := by simp at h1; omega
    rw [e, bitAt_word X _ _ (by omega)]
    simpa using this
  · rintro ⟨_, _, h⟩ r hr
    rw [andNot_bit (lowm_lt _) hr, lowm_bit _ _ hr]
    by_cases hlt : (r : Int) < (N : Int) - 64 * ((k - 1 : Nat) : Int)
    · rw [decide_eq_true hlt]; simp
    · have := h (64 * (k - 1) + r) (by simp; omega) (by omega)
      rw [bitAt_word X _ _ hr] at this
      rw [this]; rfl
theorem formed_none (X : Nat → Nat) : formed 0 0 X := ⟨by decide, rfl, fun i _ h => by omega⟩
end Go.Proofs.YtlckhiflhnlgpaaGreatDoor

/-
  Of no program: what the document's way, place by place, makes of rows of bits.
-/
namespace Go.Proofs.YtlckhiflhnlgpaaGreatDoor

/-- The row of words that has just these bits below n. -/
def rowOf (g : Nat → Bool) (n : Nat) (j : Nat) : Nat := sumBits (fun r => decide (64 * j + r < n) && g (64 * j + r)) 64
theorem rowOf_lt (g : Nat → Bool) (n j : Nat) : rowOf g n j < 18446744073709551616 := sumBits_lt _ 64
theorem rowOf_bit (g : Nat → Bool) (n i : Nat) : bitAt (rowOf g n) i = (decide (i < n) && g i) := by
  unfold bitAt rowOf
  rw [sumBits_bit, show 64 * (i / 64) + i % 64 = i by omega, decide_eq_true (show i % 64 < 64 by omega)]
  rfl
theorem rowOf_formed (g : Nat → Bool) (n : Nat) : formed n (need n) (rowOf g n) := ⟨by omega, by simp, fun i h1 _ => by rw [rowOf_bit, decide_eq_false (by simp at h1; omega)]; rfl⟩
/-- A word that has the row's bits is the row's word. -/
theorem rowOf_eq {g : Nat → Bool} {n j x : Nat} (hx : x < 18446744073709551616) (h : ∀ r, r < 64 → x.testBit r = (decide (64 * j + r < n) && g (64 * j + r))) : x = rowOf g n j := by
  refine bit_ext hx (rowOf_lt _ _ _) (fun r hr => ?_)
  rw [h r hr, rowOf, sumBits_bit, decide_eq_true hr]
  rfl
/-- What leaves the bits above n alone makes the row of the changed bits. -/
theorem rowOf_map {N : Nat} {g : Nat → Bool} {j x : Nat} (hx : x < 18446744073709551616) (h : ∀ r, r < 64 → x.testBit r = (decide (((r : Nat) : Int) < (N : Int) - 64 * (j : Int)) && g (64 * j + r))) : x = rowOf g N j :=
  rowOf_eq hx (fun r hr => by rw [h r hr]; congr 1; exact decide_eq_decide.2 (by omega))

/-- Whether an odd number of the bits below n is set. -/
def oddB (X : Nat → Nat) : Nat → Bool
  | 0 => false
  | n + 1 => oddB X n ^^ bitAt X n
theorem oddB_word (X : Nat → Nat) (j r : Nat) (hr : r ≤ 64) : oddB X (64 * j + r) = (oddB X (64 * j) ^^ parTo (X j) r) := by
  induction r with
  | zero => simp [parTo]
  | succ r ih => rw [← Nat.add_assoc, oddB, ih (by omega), parTo_succ, bitAt_word X j r (by omega), Bool.xor_assoc]
end Go.Proofs.YtlckhiflhnlgpaaGreatDoor

/-
  Of no program: that what is asked of a row has an answer; what rows put together and turned come to.
-/
namespace Go.Proofs.YtlckhiflhnlgpaaGreatDoor

theorem IsSel.range {X : Nat → Nat} {N : Nat} {k s : Int} (h : IsSel X N k s) : -1 ≤ s ∧ s < max N 1 := by
  rcases h with ⟨p, rfl, h1, _⟩ | ⟨rfl, _⟩ <;> omega
/-- The next set bit is the one that has as many set ones ahead of it as the place. -/
theorem IsSel.next {X : Nat → Nat} {N : Nat} {f s : Int} {F : Nat} (hF : (F : Int) = max f 0) (h : IsSel X N (cntB X F : Nat) s) : IsNext X N f s := by
  rcases h with ⟨p, rfl, h1, h2, h3⟩ | ⟨rfl, h1⟩
  · have hp : F ≤ p := by
      rcases Nat.lt_or_ge p F with h | h
      · have := cntB_lt h h2; omega
      · exact h
    refine .inl ⟨p, rfl, h1, h2, by omega, fun i h4 h5 => ?_⟩
    cases hb : bitAt X i
    · rfl
    · have := cntB_lt h5 hb
      have := cntB_mono X (show F ≤ i by omega)
      omega
  · refine .inr ⟨rfl, fun i h4 h5 => ?_⟩
    cases hb : bitAt X i
    · rfl
    · have := cntB_lt h5 hb
      have := cntB_mono X (show F ≤ i by omega)
      omega
/-- The last set bit ahead of a place has one fewer set ones ahead of it. -/
theorem IsSel.last {X : Nat → Nat} {N : Nat} {t s : Int} {T : Nat} (hT : T = min t.toNat N) (h : IsSel X N ((cntB X T : Nat) - 1 : Int) s) : IsLast X N t s := by
  rcases h with ⟨p, rfl, h1, h2, h3⟩ | ⟨rfl, h1⟩
  · have hp : p < T := by
      rcases Nat.lt_or_ge p T with h | h
      · exact h
      · have := cntB_mono X h; omega
    refine .inl ⟨p, rfl, h1, h2, by omega, fun i h4 h5 h6 => ?_⟩
    cases hb : bitAt X i
    · rfl
    · have h7 := cntB_lt h4 h2
      have h8 := cntB_lt (show i < T by omega) hb
      omega
  · refine .inr ⟨rfl, fun i h4 h5 => ?_⟩
    cases hb : bitAt X i
    · rfl
    · have h8 := cntB_lt (show i < T by omega) hb
      have := cntB_mono X (show T ≤ N by omega)
      omega
theorem IsNext.range {X : Nat → Nat} {N : Nat} {k s : Int} (h : IsNext X N k s) : -1 ≤ s ∧ s < max N 1 := by
  rcases h with ⟨p, rfl, h1, _⟩ | ⟨rfl, _⟩ <;> omega
theorem IsLast.range {X : Nat → Nat} {N : Nat} {k s : Int} (h : IsLast X N k s) : -1 ≤ s ∧ s < max N 1 := by
  rcases h with ⟨p, rfl, h1, _⟩ | ⟨rfl, _⟩ <;> omega

/-- What comes out of two rows of words, put together bit by bit. -/
theorem join_row {o : Nat → Nat → Nat} {ob : Bool → Bool → Bool} (hob : ob false false = false) (ho : ∀ x y r, x < 18446744073709551616 → y < 18446744073709551616 → r < 64 → (o x y).testBit r = ob (x.testBit r) (y.testBit r)) (hl : ∀ x y, x < 18446744073709551616 → y < 18446744073709551616 → o x y < 18446744073709551616)
    {N k : Nat} {X Y : Nat → Nat} (hX : formed N k X) (hY : formed N k Y) {j : Nat} (hj : j < k) (hx : X j < 18446744073709551616) (hy : Y j < 18446744073709551616) : o (X j) (Y j) = rowOf (fun i => ob (bitAt X i) (bitAt Y i)) N j := by
  refine rowOf_eq (hl _ _ hx hy) (fun r hr => ?_)
  rw [ho _ _ r hx hy hr, bitAt_word X j r hr, bitAt_word Y j r hr]
  by_cases hlt : 64 * j + r < N
  · rw [decide_eq_true hlt]; rfl
  · have h1 := hX.2.2 (64 * j + r) (by simp; omega) (by omega)
    have h2 := hY.2.2 (64 * j + r) (by simp; omega) (by omega)
    rw [bitAt_word X j r hr] at h1
    rw [bitAt_word Y j r hr] at h2
    rw [decide_eq_false hlt, h1, h2, hob]; rfl
/-- What comes out of a row of words, each turned, what lies above the row taken off. -/
theorem turn_row {G : Nat → Bool} {N j c : Nat} (hc : c < 18446744073709551616) (h : ∀ r, r < 64 → c.testBit r = G (64 * j + r)) : c &&& lowm ((N : Int) - 64 * (j : Int)) = rowOf G N j := by
  refine rowOf_map (Nat.lt_of_le_of_lt Nat.and_le_left hc) (fun r hr => ?_)
  rw [Nat.testBit_and, h r hr, lowm_bit _ _ hr, Bool.and_comm]

/-- The errors of a call that puts two rows together. -/
def joinE (n m : Int) (k l : Nat) (X Y : Nat → Nat) (E q : Int) (r : Nat) : Prop :=
  (¬ (formed n k X ∧ formed m l Y) ∧ E = 1 ∧ q = 0 ∧ r = 0) ∨ ((formed n k X ∧ formed m l Y) ∧ n ≠ m ∧ E = 2 ∧ q = 0 ∧ r = 0) ∨ ((formed n k X ∧ formed m l Y) ∧ n = m ∧ E = 0 ∧ q = n ∧ r = k)
/-- The errors of a call that turns a row. -/
def turnE (n : Int) (k : Nat) (X : Nat → Nat) (E q : Int) (r : Nat) : Prop := (¬ formed n k X ∧ E = 1 ∧ q = 0 ∧ r = 0) ∨ (formed n k X ∧ E = 0 ∧ q = n ∧ r = k)
end Go.Proofs.YtlckhiflhnlgpaaGreatDoor
