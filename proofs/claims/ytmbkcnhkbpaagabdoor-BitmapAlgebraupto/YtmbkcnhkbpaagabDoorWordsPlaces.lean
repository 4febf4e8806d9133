/-
  Of no program: the places of the set bits, rising.
-/
import Derived.Test.YtmbkcnhkbpaagabDoorWordsCount
import Derived.Lib.TrailingZeros
namespace Go.Proofs.YtmbkcnhkbpaagabDoor

/-- The places of the set bits below n. -/
def below (x n : Nat) : List Nat := (List.range n).filter (fun i => x.testBit i)
def places (x : Nat) : List Nat := below x 64
theorem below_t {x n : Nat} (h : x.testBit n = true) : below x (n + 1) = below x n ++ [n] := by simp [below, List.range_succ, h]
theorem below_f {x n : Nat} (h : x.testBit n = false) : below x (n + 1) = below x n := by simp [below, List.range_succ, h]
theorem below_len (x n : Nat) : (below x n).length = cnt x n := by
  induction n with
  | zero => rfl
  | succ n ih =>
    rw [cnt_succ]
    cases h : x.testBit n
    · rw [below_f h, ih]; rfl
    · rw [below_t h, List.length_append, ih]; rfl
theorem places_lt {x p : Nat} (h : p ∈ places x) : p < 64 ∧ x.testBit p = true := by simpa [places, below] using h
theorem places_len_le (x : Nat) : (places x).length ≤ 64 := by rw [places, below_len]; exact cnt_le x 64
theorem below_split (x n m : Nat) (h : n ≤ m) : below x n <+: below x m := by
  induction m with
  | zero => obtain rfl : n = 0 := by omega
            exact List.prefix_refl _
  | succ m ih =>
    by_cases hm : n = m + 1
    · subst hm; exact List.prefix_refl _
    · refine (ih (by omega)).trans ?_
      cases hb : x.testBit m
      · rw [below_f hb]; exact List.prefix_refl _
      · rw [below_t hb]; exact List.prefix_append _ _
/-- A set bit is the one that has its rank. -/
theorem place_at {x i : Nat} (hi : i < 64) (hb : x.testBit i = true) : (places x)[cnt x i]? = some i := by
  have h := below_split x (i + 1) 64 (by omega)
  obtain ⟨t, ht⟩ := h
  rw [places, ← ht, below_t hb, List.append_assoc, List.getElem?_append_right (by rw [below_len]; exact Nat.le_refl _), below_len, Nat.sub_self]
  rfl
theorem place_rank {x k p : Nat} (h : (places x)[k]? = some p) : p < 64 ∧ x.testBit p = true ∧ cnt x p = k := by
  have hm : p ∈ places x := List.mem_of_getElem? h
  obtain ⟨h1, h2⟩ := places_lt hm
  refine ⟨h1, h2, ?_⟩
  have h3 := place_at h1 h2
  have hn : (places x).Nodup := List.Nodup.sublist List.filter_sublist List.nodup_range
  obtain ⟨hk, ek⟩ := List.getElem?_eq_some_iff.1 h
  obtain ⟨hc, ec⟩ := List.getElem?_eq_some_iff.1 h3
  have hp := List.pairwise_iff_getElem.1 hn
  rcases Nat.lt_trichotomy (cnt x p) k with hl | hl | hl
  · exact absurd (ec.trans ek.symm) (hp _ _ hc hk hl)
  · exact hl
  · exact absurd (ek.trans ec.symm) (hp _ _ hk hc hl)

/-- The same, lowest bit by lowest bit. -/
def plac : Nat → Nat → Nat → List Nat
  | 0, _, _ => []
  | n + 1, b, x => if x % 2 = 1 then b :: plac n (b + 1) (x / 2) else plac n (b + 1) (x / 2)
theorem plac_zero : ∀ n b, plac n b 0 = []
  | 0, _ => rfl
  | n + 1, b => by rw [plac]; simp [plac_zero n]
theorem and_pred_odd (y : Nat) : (2 * y + 1) &&& (2 * y) = 2 * y := by
  apply Nat.eq_of_testBit_eq
  intro i
  rw [Nat.testBit_and]
  cases i with
  | zero => simp
  | succ i => rw [Nat.testBit_succ, Nat.testBit_succ, show (2 * y + 1) / 2 = y by omega, show 2 * y / 2 = y by omega]; simp
theorem and_pred_even (y : Nat) (hy : 0 < y) : (2 * y) &&& (2 * y - 1) = 2 * (y &&& (y - 1)) := by
  apply Nat.eq_of_testBit_eq
  intro i
  rw [Nat.testBit_and]
  cases i with
  | zero => simp
  | succ i => rw [Nat.testBit_succ, Nat.testBit_succ, Nat.testBit_succ, show (2 * y - 1) / 2 = y - 1 by omega, show 2 * y / 2 = y by omega, show 2 * (y &&& (y - 1)) / 2 = y &&& (y - 1) by omega, Nat.testBit_and]
theorem plac_step : ∀ n b x, x ≠ 0 → x < 2 ^ n → plac n b x = (b + Lib.ctzFrom n x) :: plac n b (x &&& (x - 1))
  | 0, _, x, h0, h => by simp at h; omega
  | n + 1, b, x, h0, h => by
    rw [Nat.pow_succ] at h
    rw [plac, Lib.ctzFrom]
    by_cases hx : x % 2 = 1
    · have e : x &&& (x - 1) = 2 * (x / 2) := by
        obtain ⟨y, rfl⟩ : ∃ y, x = 2 * y + 1 := ⟨x / 2, by omega⟩
        rw [Nat.add_sub_cancel, show (2 * y + 1) / 2 = y by omega]
        exact and_pred_odd y
      rw [if_pos hx, if_pos hx, e, plac, if_neg (by omega), show 2 * (x / 2) / 2 = x / 2 by omega]; rfl
    · have e : x &&& (x - 1) = 2 * (x / 2 &&& (x / 2 - 1)) := by
        have := and_pred_even (x / 2) (by omega)
        rwa [show 2 * (x / 2) = x by omega] at this
      rw [if_neg hx, if_neg hx, plac_step n (b + 1) (x / 2) (by omega) (by omega), e, plac, if_neg (by omega), show 2 * (x / 2 &&& (x / 2 - 1)) / 2 = x / 2 &&& (x / 2 - 1) by omega, Nat.add_assoc]
theorem plac_range : ∀ n b x, plac n b x = ((List.range n).filter (fun i => x.testBit i)).map (fun i => b + i)
  | 0, _, _ => rfl
  | n + 1, b, x => by
    rw [plac, plac_range n (b + 1) (x / 2), List.range_succ_eq_map, List.filter_cons, List.filter_map]
    have e : ((fun i => x.testBit i) ∘ Nat.succ) = (fun i => (x / 2).testBit i) := by funext i; simp [Nat.testBit_succ]
    have e0 : x.testBit 0 = decide (x % 2 = 1) := Nat.testBit_zero x
    rw [e, e0]
    by_cases h : x % 2 = 1
    · simp [h, List.map_map, Function.comp_def]; intro a _ _; omega
    · simp [h, List.map_map, Function.comp_def]; intro a _ _; omega
theorem places_plac (x : Nat) : places x = plac 64 0 x := by rw [plac_range]; simp [places, below]
theorem places_zero : places 0 = [] := by rw [places_plac, plac_zero]
theorem places_step {x : Nat} (h0 : x ≠ 0) (hx : x < 18446744073709551616) : places x = Lib.ctz 64 x :: places (x &&& (x - 1)) := by
  rw [places_plac, places_plac, plac_step 64 0 x h0 hx, Nat.zero_add, Lib.ctz, if_neg h0]
theorem ctz_lt {x : Nat} (h0 : x ≠ 0) (hx : x < 18446744073709551616) : Lib.ctz 64 x < 64 := by
  have : Lib.ctz 64 x ∈ places x := by rw [places_step h0 hx]; exact List.mem_cons_self
  exact (places_lt this).1
end Go.Proofs.YtmbkcnhkbpaagabDoor
