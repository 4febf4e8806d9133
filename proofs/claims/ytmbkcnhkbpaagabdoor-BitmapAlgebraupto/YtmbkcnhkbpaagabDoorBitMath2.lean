/-
  Of no program: what the program's tests of words say of rows of bits.
-/
import Derived.Test.YtmbkcnhkbpaagabDoorBitMath
import Derived.Laws.BitsAllLaws
namespace Go.Proofs.YtmbkcnhkbpaagabDoor

theorem bit_ext {a b : Nat} (ha : a < 18446744073709551616) (hb : b < 18446744073709551616) (h : ∀ r, r < 64 → a.testBit r = b.testBit r) : a = b := by
  apply Nat.eq_of_testBit_eq
  intro i
  by_cases hi : i < 64
  · exact h i hi
  · rw [bit_hi ha (by omega), bit_hi hb (by omega)]
theorem zero_iff {a : Nat} (ha : a < 18446744073709551616) : a = 0 ↔ ∀ r, r < 64 → a.testBit r = false :=
  ⟨fun h r _ => by rw [h]; simp, fun h => bit_ext ha (by decide) (fun r hr => by rw [h r hr]; simp)⟩
theorem andNot_bit {a b r : Nat} (hb : b < 18446744073709551616) (hr : r < 64) : (a &&& (18446744073709551615 - b)).testBit r = (a.testBit r && !b.testBit r) := by
  rw [Nat.testBit_and]
  congr 1
  have : 18446744073709551615 - b = 2 ^ 64 - (b + 1) := by omega
  rw [this, Nat.testBit_two_pow_sub_succ (by simpa using hb)]
  simp [hr]
theorem andNot_lt {a b : Nat} (ha : a < 18446744073709551616) : a &&& (18446744073709551615 - b) < 18446744073709551616 := Nat.lt_of_le_of_lt Nat.and_le_left ha

/-- The program's look at the last word. -/
theorem formed_last {N k : Nat} {X : Nat → Nat} (hN : 0 < N) (hk : k = need N) (hX : X (k - 1) < 18446744073709551616) :
    (X (k - 1) &&& (18446744073709551615 - lowm ((N : Int) - 64 * ((k - 1 : Nat) : Int))) = 0) ↔ formed N k X := by
  unfold need at hk
  rw [zero_iff (andNot_lt hX)]
  constructor
  · intro h
    refine ⟨by omega, hk, fun i h1 h2 => ?_⟩
    have := h (i - 64 * (k - 1)) (by omega)
    rw [andNot_bit (lowm_lt _) (by omega), lowm_bit _ _ (by omega), decide_eq_false (by simp at h1; omega)] at this
    have e : i = 64 * (k - 1) + (i - 64 * (k - 1)) := by simp at h1; omega
    rw [e, bitAt_word X _ _ (by omega)]
    simpa using this
  · rintro ⟨_, _, h⟩ r hr
    rw [andNot_bit (lowm_lt _) hr, lowm_bit _ _ hr]
    by_cases hlt : (r : Int) < (N : Int) - 64 * ((k - 1 : Nat) : Int)
    · rw [decide_eq_true hlt]; simp
    · have := h (64 * (k - 1) + r) (by simp; omega) (by omega)
      rw [bitAt_word X _ _ hr] at this
      rw [this]; rfl
theorem formed_none (X : Nat → Nat) : formed 0 0 X := ⟨by decide, rfl, fun i _ h => by omega⟩
theorem formed_hi {N k : Nat} {X : Nat → Nat} (h : formed N k X) : cntB X N = cntB X (64 * k) := by
  obtain ⟨_, hk, hz⟩ := h
  have hk' : k = need N := by simpa using hk
  unfold need at hk'
  exact cntB_same (by omega) (fun i h1 h2 => hz i (by simpa using h1) h2)

/-- How one word is counted from a place on. -/
theorem count_step {X : Nat → Nat} {F T j : Nat} (hFT : F < T) (hj : F / 64 ≤ j) (hlt : 64 * j < T) :
    cntB X (max F (min T (64 * (j + 1)))) = cntB X (max F (min T (64 * j))) + (cnt (X j) (min (T - 64 * j) 64) - cnt (X j) (min (F - 64 * j) 64)) ∧ cnt (X j) (min (F - 64 * j) 64) ≤ cnt (X j) (min (T - 64 * j) 64) := by
  have e1 : max F (min T (64 * (j + 1))) = 64 * j + min (T - 64 * j) 64 := by omega
  have e2 : max F (min T (64 * j)) = 64 * j + min (F - 64 * j) 64 := by omega
  have h1 := cntB_word X j (min (T - 64 * j) 64) (by omega)
  have h2 := cntB_word X j (min (F - 64 * j) 64) (by omega)
  have h3 : cntB X (64 * j + min (F - 64 * j) 64) ≤ cntB X (64 * j + min (T - 64 * j) 64) := cntB_mono X (by omega)
  rw [e1, e2, h1, h2]
  rw [h1, h2] at h3
  omega
theorem cntIn_clamp {X : Nat → Nat} {N : Nat} {f t : Int} {F T : Nat} (hF : (F : Int) = max f 0) (hT : (T : Int) = min t N) (h : F < T) : cntIn X N f t = cntB X T - cntB X F := by
  unfold cntIn
  rw [show min t.toNat N = T by omega, show min f.toNat N = F by omega]
theorem cntIn_zero {X : Nat → Nat} {N : Nat} {f t : Int} (h : min t N ≤ max f 0) : cntIn X N f t = 0 := by
  unfold cntIn
  have := cntB_mono X (show min t.toNat N ≤ min f.toNat N by omega)
  omega
theorem cntIn_le (X : Nat → Nat) (N : Nat) (f t : Int) : cntIn X N f t ≤ N := by
  unfold cntIn
  have := cntB_le X (min t.toNat N)
  omega

/-- A word that holds the one that is looked for. -/
theorem sel_here {X : Nat → Nat} {N k j K p : Nat} (h : formed N k X) (hj : j < k) (hK : cntB X (64 * j) ≤ K) (hp : (places (X j))[K - cntB X (64 * j)]? = some p) : IsSel X N K ((64 * j + p : Nat) : Int) := by
  obtain ⟨h1, h2, h3⟩ := place_rank hp
  obtain ⟨_, hk, hz⟩ := h
  have hb : bitAt X (64 * j + p) = true := by rw [bitAt_word X _ _ h1]; exact h2
  have hlt : 64 * j + p < N := by
    by_cases hh : 64 * j + p < N
    · exact hh
    · rw [hz (64 * j + p) (by simp; omega) (by omega)] at hb; cases hb
  refine .inl ⟨_, rfl, hlt, hb, ?_⟩
  rw [cntB_word X _ _ (by omega)]
  omega
theorem sel_none {X : Nat → Nat} {N k K : Nat} (h : formed N k X) (hK : cntB X (64 * k) ≤ K) : IsSel X N K (-1) := by
  have := formed_hi h
  exact .inr ⟨rfl, .inr (by omega)⟩

/-- The lowest set bit. -/
theorem ctz_low {x : Nat} (h0 : x ≠ 0) (hx : x < 18446744073709551616) : Lib.ctz 64 x < 64 ∧ x.testBit (Lib.ctz 64 x) = true ∧ ∀ r, r < Lib.ctz 64 x → x.testBit r = false := by
  have h := place_rank (x := x) (k := 0) (p := Lib.ctz 64 x) (by rw [places_step h0 hx]; rfl)
  refine ⟨h.1, h.2.1, fun r hr => ?_⟩
  cases hb : x.testBit r
  · rfl
  · have h1 : cnt x (r + 1) ≤ cnt x (Lib.ctz 64 x) := by
      obtain ⟨d, hd⟩ : ∃ d, Lib.ctz 64 x = r + 1 + d := ⟨Lib.ctz 64 x - (r + 1), by omega⟩
      rw [hd, cnt_add x (r + 1) d]; omega
    rw [cnt_succ, hb, h.2.2] at h1
    simp at h1
/-- The program's look for the next one, word by word. -/
theorem next_zero {X : Nat → Nat} {F j : Nat} (hX : X j < 18446744073709551616) (hz : ∀ i, F ≤ i → i < 64 * j → bitAt X i = false) (h : X j &&& (18446744073709551615 - lowm ((F : Int) - 64 * (j : Int))) = 0) : ∀ i, F ≤ i → i < 64 * (j + 1) → bitAt X i = false := fun i h1 h2 => by
  by_cases hi : i < 64 * j
  · exact hz i h1 hi
  · have := (zero_iff (andNot_lt hX)).1 h (i - 64 * j) (by omega)
    rw [andNot_bit (lowm_lt _) (by omega), lowm_bit _ _ (by omega), decide_eq_false (by omega)] at this
    rw [show i = 64 * j + (i - 64 * j) by omega, bitAt_word X _ _ (by omega)]
    simpa using this
theorem next_here {X : Nat → Nat} {F j k N x : Nat} (hf : formed N k X) (hj : j < k) (hX : X j < 18446744073709551616) (hz : ∀ i, F ≤ i → i < 64 * j → bitAt X i = false) (hx : X j &&& (18446744073709551615 - lowm ((F : Int) - 64 * (j : Int))) = x) (h : x ≠ 0) : IsNext X N F ((64 * j + Lib.ctz 64 x : Nat) : Int) := by
  have hxl : x < 18446744073709551616 := hx ▸ andNot_lt hX
  obtain ⟨h1, h2, h3⟩ := ctz_low h hxl
  generalize Lib.ctz 64 x = c at *
  have h4 := h2
  rw [← hx, andNot_bit (lowm_lt _) h1, lowm_bit _ _ h1] at h4
  simp at h4
  have hb : bitAt X (64 * j + c) = true := by rw [bitAt_word X _ _ h1]; exact h4.1
  have hlt : 64 * j + c < N := by
    by_cases hh : 64 * j + c < N
    · exact hh
    · rw [hf.2.2 (64 * j + c) (by simp; omega) (by omega)] at hb; cases hb
  refine .inl ⟨_, rfl, hlt, hb, by omega, fun i h5 h6 => ?_⟩
  by_cases hi : i < 64 * j
  · exact hz i (by omega) hi
  · have := h3 (i - 64 * j) (by omega)
    rw [← hx, andNot_bit (lowm_lt _) (by omega), lowm_bit _ _ (by omega), decide_eq_false (by omega)] at this
    rw [show i = 64 * j + (i - 64 * j) by omega, bitAt_word X _ _ (by omega)]
    simpa using this
theorem next_none {X : Nat → Nat} {F k N : Nat} (hf : formed N k X) (hz : ∀ i, F ≤ i → i < 64 * k → bitAt X i = false) : IsNext X N F (-1) := by
  refine .inr ⟨rfl, fun i h1 h2 => hz i (by omega) ?_⟩
  have hk : k = need N := by simpa using hf.2.1
  unfold need at hk
  omega
/-- Numbers below 0 are as 0. -/
theorem IsNext.clamp {X : Nat → Nat} {N : Nat} {f s : Int} {F : Nat} (hF : (F : Int) = max f 0) (h : IsNext X N F s) : IsNext X N f s := by
  rcases h with ⟨p, h1, h2, h3, h4, h5⟩ | ⟨h1, h2⟩
  · exact .inl ⟨p, h1, h2, h3, by omega, fun i a b => h5 i (by omega) b⟩
  · exact .inr ⟨h1, fun i a b => h2 i (by omega) b⟩

/-- The highest set bit. -/
theorem log_high {x L : Nat} (h1 : 2 ^ L ≤ x) (h2 : x < 2 ^ (L + 1)) : x.testBit L = true ∧ ∀ r, L < r → x.testBit r = false := by
  refine ⟨?_, fun r hr => Nat.testBit_lt_two_pow (Nat.lt_of_lt_of_le h2 (Nat.pow_le_pow_right (by decide) (by omega)))⟩
  have : x / 2 ^ L = 1 := by
    have hp : 0 < 2 ^ L := Nat.pow_pos (by decide)
    have e : 2 ^ (L + 1) = 2 * 2 ^ L := by rw [Nat.pow_succ]; omega
    apply Nat.eq_of_le_of_lt_succ
    · exact (Nat.le_div_iff_mul_le hp).2 (by omega)
    · exact (Nat.div_lt_iff_lt_mul hp).2 (by omega)
  rw [Nat.testBit_eq_decide_div_mod_eq, this]; rfl
/-- The program's look for the last one, word by word, downwards: T is at most N, and what lies from 64 (j + 1) on and ahead of T isn't set. -/
theorem last_zero {X : Nat → Nat} {T j : Nat} (hX : X j < 18446744073709551616) (hz : ∀ i, 64 * (j + 1) ≤ i → i < T → bitAt X i = false) (h : X j &&& lowm ((T : Int) - 64 * (j : Int)) = 0) : ∀ i, 64 * j ≤ i → i < T → bitAt X i = false := fun i h1 h2 => by
  by_cases hi : 64 * (j + 1) ≤ i
  · exact hz i hi h2
  · have := (zero_iff (Nat.lt_of_le_of_lt Nat.and_le_left hX)).1 h (i - 64 * j) (by omega)
    rw [Nat.testBit_and, lowm_bit _ _ (by omega), decide_eq_true (by omega)] at this
    rw [show i = 64 * j + (i - 64 * j) by omega, bitAt_word X _ _ (by omega)]
    simpa using this
theorem last_here {X : Nat → Nat} {T j N x L : Nat} (hT : T ≤ N) (hX : X j < 18446744073709551616) (hz : ∀ i, 64 * (j + 1) ≤ i → i < T → bitAt X i = false) (hx : X j &&& lowm ((T : Int) - 64 * (j : Int)) = x) (h1 : 2 ^ L ≤ x) (h2 : x < 2 ^ (L + 1)) : IsLast X N T ((64 * j + L : Nat) : Int) := by
  obtain ⟨h3, h4⟩ := log_high h1 h2
  have hxl : x < 18446744073709551616 := hx ▸ Nat.lt_of_le_of_lt Nat.and_le_left hX
  have hL : L < 64 := by
    by_cases hh : L < 64
    · exact hh
    · rw [bit_hi hxl (by omega)] at h3; cases h3
  have h5 := h3
  rw [← hx, Nat.testBit_and, lowm_bit _ _ hL] at h5
  simp at h5
  refine .inl ⟨_, rfl, by omega, by rw [bitAt_word X _ _ hL]; exact h5.1, by omega, fun i h6 h7 h8 => ?_⟩
  by_cases hi : 64 * (j + 1) ≤ i
  · exact hz i hi (by omega)
  · have := h4 (i - 64 * j) (by omega)
    rw [← hx, Nat.testBit_and, lowm_bit _ _ (by omega), decide_eq_true (by omega)] at this
    rw [show i = 64 * j + (i - 64 * j) by omega, bitAt_word X _ _ (by omega)]
    simpa using this
theorem last_none {X : Nat → Nat} {T N : Nat} (hz : ∀ i, i < T → bitAt X i = false) : IsLast X N T (-1) := .inr ⟨rfl, fun i _ h => hz i (by omega)⟩
theorem IsLast.clamp {X : Nat → Nat} {N : Nat} {t s : Int} {T : Nat} (hT : (T : Int) = min t N) (h : IsLast X N T s) : IsLast X N t s := by
  rcases h with ⟨p, h1, h2, h3, h4, h5⟩ | ⟨h1, h2⟩
  · exact .inl ⟨p, h1, h2, h3, by omega, fun i a b c => h5 i a b (by omega)⟩
  · exact .inr ⟨h1, fun i a b => h2 i a (by omega)⟩
theorem last_low {X : Nat → Nat} {N : Nat} {t : Int} (h : min t N ≤ 0) : IsLast X N t (-1) := .inr ⟨rfl, fun i h1 h2 => by omega⟩
theorem next_high {X : Nat → Nat} {N : Nat} {f : Int} (h : (N : Int) ≤ max f 0) : IsNext X N f (-1) := .inr ⟨rfl, fun i h1 h2 => by omega⟩
end Go.Proofs.YtmbkcnhkbpaagabDoor
