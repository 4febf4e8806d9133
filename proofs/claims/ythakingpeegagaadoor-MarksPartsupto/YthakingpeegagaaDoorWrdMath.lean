/-
  Of no program: where the words of a text begin and end, byte by byte.
-/
import Derived.Test.YthakingpeegagaaDoorMkWords
namespace Go.Proofs.YthakingpeegagaaDoor

/-! The words of the first i bytes. -/
/-- The places of a list, two by two. -/
def prs (L : List Nat) : List (Nat × Nat) := (List.range (L.length / 2)).map fun k => (L.getD (2 * k) 0, L.getD (2 * k + 1) 0)
theorem prs_two {L : List Nat} (h : L.length % 2 = 0) (x y : Nat) : prs (L ++ [x, y]) = prs L ++ [(x, y)] := by
  unfold prs
  rw [List.length_append, show (L.length + [x, y].length) / 2 = L.length / 2 + 1 by simp, List.range_succ, List.map_append]
  congr 1
  · refine List.map_congr_left fun k hk => ?_
    rw [List.mem_range] at hk
    simp [List.getD, List.getElem?_append, show 2 * k < L.length by omega, show 2 * k + 1 < L.length by omega]
  · have e : 2 * (L.length / 2) = L.length := by omega
    simp [List.getD, e]
def tlS (s : ByteArray) (i : Nat) : List Nat := (List.range i).filter (turnS s)
theorem tlS_t {s : ByteArray} {i : Nat} (h : turnS s i = true) : tlS s (i + 1) = tlS s i ++ [i] := by simp [tlS, List.range_succ, h]
theorem tlS_f {s : ByteArray} {i : Nat} (h : turnS s i = false) : tlS s (i + 1) = tlS s i := by simp [tlS, List.range_succ, h]
theorem tlS_par (s : ByteArray) (i : Nat) : decide ((tlS s i).length % 2 = 1) = (decide (0 < i) && wordS s (i - 1)) := by
  induction i with
  | zero => rfl
  | succ i ih =>
    rw [Nat.add_sub_cancel, decide_eq_true (show 0 < i + 1 by omega), Bool.true_and]
    cases ht : turnS s i
    · rw [tlS_f ht, ih]
      unfold turnS at ht
      revert ht
      cases wordS s i <;> cases (decide (0 < i) && wordS s (i - 1)) <;> simp
    · have hp : wordS s i = !(decide (0 < i) && wordS s (i - 1)) := by
        unfold turnS at ht
        revert ht
        cases wordS s i <;> cases (decide (0 < i) && wordS s (i - 1)) <;> simp
      rw [tlS_t ht, hp, ← ih, List.length_append]
      by_cases h : (tlS s i).length % 2 = 1
      · rw [decide_eq_true h, decide_eq_false (by simp; omega)]; rfl
      · rw [decide_eq_false h, decide_eq_true (by simp; omega)]; rfl
/-- The turns of the first i bytes; where they end in a word, it ends there. -/
def tqS (s : ByteArray) (i : Nat) : List Nat := if (tlS s i).length % 2 = 1 then tlS s i ++ [i] else tlS s i
def oS (s : ByteArray) (i : Nat) : List (Nat × Nat) := prs (tqS s i)
theorem tq_same {s : ByteArray} {i : Nat} (h : wordS s i = false) : tqS s (i + 1) = tqS s i := by
  have hp := tlS_par s i
  unfold tqS
  cases hprev : (decide (0 < i) && wordS s (i - 1))
  · rw [hprev, decide_eq_false_iff_not] at hp
    rw [tlS_f (by unfold turnS; rw [h, hprev]; rfl), if_neg hp, if_neg hp]
  · rw [hprev, decide_eq_true_eq] at hp
    rw [tlS_t (by unfold turnS; rw [h, hprev]; rfl), if_pos hp, if_neg (by rw [List.length_append]; simp; omega)]
theorem oS_new {s : ByteArray} {i : Nat} (h : wordS s i = true) (hprev : (decide (0 < i) && wordS s (i - 1)) = false) : oS s (i + 1) = oS s i ++ [(i, i + 1)] := by
  have hp := tlS_par s i
  rw [hprev, decide_eq_false_iff_not] at hp
  unfold oS tqS
  rw [tlS_t (by unfold turnS; rw [h, hprev]; rfl), if_neg hp, if_pos (by rw [List.length_append]; simp; omega), List.append_assoc]
  exact prs_two (by omega) i (i + 1)
theorem oS_grow {s : ByteArray} {i : Nat} (h : wordS s i = true) (hprev : (decide (0 < i) && wordS s (i - 1)) = true) : ∃ L a, oS s i = L ++ [(a, i)] ∧ oS s (i + 1) = L ++ [(a, i + 1)] := by
  have hp := tlS_par s i
  rw [hprev, decide_eq_true_eq] at hp
  unfold oS tqS
  rw [tlS_f (by unfold turnS; rw [h, hprev]; rfl), if_pos hp, if_pos hp]
  obtain ⟨M, a, hM⟩ : ∃ M a, tlS s i = M ++ [a] := ⟨(tlS s i).dropLast, (tlS s i).getLast (by intro e; rw [e] at hp; simp at hp), (List.dropLast_concat_getLast _).symm⟩
  have hl : M.length % 2 = 0 := by rw [hM, List.length_append] at hp; simp at hp; omega
  rw [hM, List.append_assoc, List.append_assoc]
  exact ⟨prs M, a, prs_two hl a i, prs_two hl a (i + 1)⟩
theorem turnS_out {s : ByteArray} {i : Nat} (h : s.size < i) : turnS s i = false := by
  unfold turnS
  rw [wordS_out (by omega), wordS_out (by omega)]
  simp
theorem trT_tq (s : ByteArray) : trT s = tqS s s.size := by
  have h1 : trT s = tlS s (64 * (need s.size + 1)) := by
    unfold trT placesB tlS
    congr 1
    exact funext (trX_bit s)
  have h2 : ∀ d, tlS s (s.size + 1 + d) = tlS s (s.size + 1) := by
    intro d
    induction d with
    | zero => rfl
    | succ d ih => rw [← Nat.add_assoc, tlS_f (turnS_out (by omega)), ih]
  have h3 : trT s = tlS s (s.size + 1) := by
    rw [h1, show 64 * (need s.size + 1) = s.size + 1 + (64 * (need s.size + 1) - (s.size + 1)) by unfold need; omega]
    exact h2 _
  have hp := tlS_par s s.size
  have h4 : tlS s (s.size + 1) = tqS s s.size := by
    unfold tqS
    cases hprev : (decide (0 < s.size) && wordS s (s.size - 1))
    · rw [hprev, decide_eq_false_iff_not] at hp
      rw [if_neg hp, tlS_f (by unfold turnS; rw [wordS_out (Nat.le_refl _), hprev]; rfl)]
    · rw [hprev, decide_eq_true_eq] at hp
      rw [if_pos hp, tlS_t (by unfold turnS; rw [wordS_out (Nat.le_refl _), hprev]; rfl)]
  rw [h3, h4]
theorem oS_len (s : ByteArray) (i : Nat) : (oS s i).length ≤ i := by
  have h : (oS s i).length = (tqS s i).length / 2 := by simp [oS, prs]
  have h2 : (tlS s i).length ≤ i := by have := List.length_filter_le (turnS s) (List.range i); rw [List.length_range] at this; exact this
  rw [h]
  unfold tqS
  split
  · rw [List.length_append]; simp; omega
  · omega
end Go.Proofs.YthakingpeegagaaDoor
