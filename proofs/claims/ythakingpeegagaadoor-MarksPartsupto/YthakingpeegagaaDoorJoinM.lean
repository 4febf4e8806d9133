/-
  Of no program: two texts, one behind the other: where something begins.
-/
import Derived.Test.YthakingpeegagaaDoorWrdMath
import Derived.Test.YthakingpeegagaaDoorMkKind
namespace Go.Proofs.YthakingpeegagaaDoor

/-- Does the text end in a word? -/
def lastS (s : ByteArray) : Bool := decide (0 < s.size) && wordS s (s.size - 1)
/-- Is the place told of the second text? -/
def keepJ (s t : ByteArray) (i : Nat) : Bool := !(lastS s && (decide (i = 0) && wordS t 0))
theorem kind_w (t : ByteArray) (i : Nat) : (kindN t ((i : Nat) : Int) = 119) ↔ (i < t.size ∧ begS t i = true ∧ wordS t i = true) := by
  unfold kindN
  by_cases hi : i < t.size
  · rw [if_pos (by omega), Int.toNat_natCast]
    cases hb : begS t i
    · simp
    · cases hw : wordS t i
      · simp only [if_true, Bool.false_eq_true, if_false, and_false, iff_false]
        intro e
        have hbt : byteAt t i = 119 := e
        rw [beg_three] at hb
        have hf : firS t i = false := by unfold firS; rw [hw]; rfl
        rw [hf, Bool.or_false] at hb
        have hs : strS t i = false := by
          unfold strS sgnB
          rw [hbt]
          simp
        have ho : opnS t i = false := by
          unfold opnS markS quoB
          have : (t.data[i]?.getD 0).toNat = 119 := hbt
          rw [this]
          rfl
        rw [hs, ho] at hb
        cases hb
      · simp [hi]
  · rw [if_neg (by omega)]
    simp [hi]
theorem idxTo_join (s t : ByteArray) (hb : behindS s false = false) (ho : openS s = false) : ∀ k, idxTo (s ++ t) (s.size + k) = idxS s ++ ((idxTo t k).filter (keepJ s t)).map (· + s.size)
  | 0 => by
    have e : idxTo (s ++ t) s.size = idxS s := by
      unfold idxS idxTo
      apply List.filter_congr
      intro i hi
      rw [List.mem_range] at hi
      exact beg_first s t i hi
    simpa [idxTo] using e
  | k + 1 => by
    have ih := idxTo_join s t hb ho k
    have hs := beg_second (t := t) hb ho k
    have hk : keepJ s t k = !(decide (k = 0) && (wordS t 0 && (decide (0 < s.size) && wordS s (s.size - 1)))) := by
      unfold keepJ lastS
      cases decide (0 < s.size) <;> cases wordS s (s.size - 1) <;> cases decide (k = 0) <;> cases wordS t 0 <;> rfl
    rw [← hk] at hs
    rw [← Nat.add_assoc]
    cases hbt : begS t k
    · rw [idxTo_f (by rw [hs, hbt]; rfl), idxTo_f hbt, ih]
    · cases hkp : keepJ s t k
      · rw [idxTo_f (by rw [hs, hbt, hkp]; rfl), idxTo_t hbt, List.filter_append, ih]
        simp [hkp]
      · rw [idxTo_t (by rw [hs, hbt, hkp]; rfl), idxTo_t hbt, List.filter_append, ih]
        simp [hkp, Nat.add_comm]
theorem idx_join (s t : ByteArray) (hb : behindS s false = false) (ho : openS s = false) : idxS (s ++ t) = idxS s ++ ((idxS t).filter (keepJ s t)).map (· + s.size) := by
  have h := idxTo_join s t hb ho t.size
  rw [← size_join8] at h
  exact h
/-- Is the text's end a word's, as far as r words tell? -/
def lrS (s : ByteArray) : Nat → Bool
  | 0 => decide (0 < s.size) && (begS s (s.size - 1) && wordS s (s.size - 1))
  | r + 1 => lrS s r || decide ((trT s).getD (2 * r + 1) 0 = s.size)
theorem lrS_some (s : ByteArray) (r : Nat) : lrS s r = true ↔ (lrS s 0 = true ∨ ∃ k, k < r ∧ (trT s).getD (2 * k + 1) 0 = s.size) := by
  induction r with
  | zero => exact ⟨.inl, fun h => h.elim id (fun ⟨k, h, _⟩ => by omega)⟩
  | succ r ih =>
    have e : lrS s (r + 1) = (lrS s r || decide ((trT s).getD (2 * r + 1) 0 = s.size)) := rfl
    rw [e, Bool.or_eq_true, ih, decide_eq_true_eq]
    constructor
    · rintro ((h | ⟨k, h1, h2⟩) | h)
      · exact .inl h
      · exact .inr ⟨k, by omega, h2⟩
      · exact .inr ⟨r, by omega, h⟩
    · rintro (h | ⟨k, h1, h2⟩)
      · exact .inl (.inl h)
      · by_cases hk : k = r
        · subst hk; exact .inr h2
        · exact .inl (.inr ⟨k, by omega, h2⟩)
theorem turn_end (s : ByteArray) : turnS s s.size = lastS s := by
  unfold turnS lastS
  rw [wordS_out (Nat.le_refl _), Bool.false_xor]
theorem lrS_all (s : ByteArray) : lrS s ((trT s).length / 2) = lastS s := by
  rw [Bool.eq_iff_iff, lrS_some]
  constructor
  · rintro (h | ⟨k, h1, h2⟩)
    · unfold lrS at h
      unfold lastS
      revert h
      cases decide (0 < s.size) <;> cases wordS s (s.size - 1) <;> simp
    · have hm : s.size ∈ trT s := by
        rw [← h2]
        have hl : 2 * k + 1 < (trT s).length := by omega
        simp [List.getD, hl]
      unfold trT placesB at hm
      rw [List.mem_filter] at hm
      rw [← turn_end, ← trX_bit]
      exact hm.2
  · intro h
    have hp := tlS_par s s.size
    rw [show (decide (0 < s.size) && wordS s (s.size - 1)) = lastS s from rfl, h, decide_eq_true_eq] at hp
    have ht := trT_tq s
    unfold tqS at ht
    rw [if_pos hp] at ht
    refine .inr ⟨(tlS s s.size).length / 2, ?_, ?_⟩
    · rw [ht, List.length_append]; simp; omega
    · rw [ht, show 2 * ((tlS s s.size).length / 2) + 1 = (tlS s s.size).length by omega]
      simp [List.getD]
/-- What the law has gathered behind i places of the second text. -/
def wnt (s t : ByteArray) (i : Nat) : List Nat := idxS s ++ (((idxS t).take i).filter (keepJ s t)).map (· + s.size)
theorem wnt_zero (s t : ByteArray) : wnt s t 0 = idxS s := by simp [wnt]
theorem wnt_all (s t : ByteArray) (hb : behindS s false = false) (ho : openS s = false) : wnt s t (idxS t).length = idxS (s ++ t) := by rw [wnt, List.take_length, idx_join s t hb ho]
theorem wnt_f {s t : ByteArray} {i p : Nat} (h : (idxS t)[i]? = some p) (hk : keepJ s t p = false) : wnt s t (i + 1) = wnt s t i := by
  unfold wnt
  rw [List.take_add_one, h, List.filter_append]
  simp [hk]
theorem wnt_t {s t : ByteArray} {i p : Nat} (h : (idxS t)[i]? = some p) (hk : keepJ s t p = true) : wnt s t (i + 1) = wnt s t i ++ [p + s.size] := by
  unfold wnt
  rw [List.take_add_one, h, List.filter_append]
  simp [hk]
end Go.Proofs.YthakingpeegagaaDoor
