/-
  Two right ones, one behind the other: what their bytes tell.
-/
import Derived.Test.YtlcihopklnnhdaaTxEnd
namespace Go.Proofs.Ytlcihopklnnhdaa
open Go.RowKit Go.Shelf

/-- The fourth sign of a high half, of a low half. -/
def HiD (d : Nat) : Prop := d = 56 ∨ d = 57 ∨ d = 97 ∨ d = 65 ∨ d = 98 ∨ d = 66
def LoD (d : Nat) : Prop := (99 ≤ d ∧ d ≤ 102) ∨ (67 ≤ d ∧ d ≤ 70)
theorem four_bytes {b : Nat → Nat} {n : Nat} (h : (nextP b n).four = true) : 6 ≤ n ∧ b 0 = 92 ∧ b 1 = 117 ∧ hexOk b 4 = true ∧ (nextP b n).means = hexV b 4 := by
  by_cases h0 : b 0 < 32 ∨ b 0 = 34
  · unfold nextP at h
    rw [if_pos h0] at h
    simp [pc0] at h
  by_cases h1 : b 0 = 92
  · have e : b 0 = 92 := h1
    have key : nextP b n = if n < 2 then pc0
        else if b 1 = 34 ∨ b 1 = 92 ∨ b 1 = 47 then ⟨2, b 1, false⟩ else if b 1 = 98 then ⟨2, 8, false⟩ else if b 1 = 102 then ⟨2, 12, false⟩ else if b 1 = 110 then ⟨2, 10, false⟩ else if b 1 = 114 then ⟨2, 13, false⟩ else if b 1 = 116 then ⟨2, 9, false⟩
        else if b 1 = 117 then fourP b n else pc0 := by
      rw [nextP, if_neg h0, if_neg (by simp [e])]
    rw [key] at h ⊢
    by_cases k2 : n < 2
    · rw [if_pos k2] at h; simp [pc0] at h
    rw [if_neg k2] at h ⊢
    by_cases k3 : b 1 = 34 ∨ b 1 = 92 ∨ b 1 = 47
    · rw [if_pos k3] at h; simp at h
    rw [if_neg k3] at h ⊢
    by_cases k4 : b 1 = 98
    · rw [if_pos k4] at h; simp at h
    rw [if_neg k4] at h ⊢
    by_cases k5 : b 1 = 102
    · rw [if_pos k5] at h; simp at h
    rw [if_neg k5] at h ⊢
    by_cases k6 : b 1 = 110
    · rw [if_pos k6] at h; simp at h
    rw [if_neg k6] at h ⊢
    by_cases k7 : b 1 = 114
    · rw [if_pos k7] at h; simp at h
    rw [if_neg k7] at h ⊢
    by_cases k8 : b 1 = 116
    · rw [if_pos k8] at h; simp at h
    rw [if_neg k8] at h ⊢
    by_cases k9 : b 1 = 117
    · rw [if_pos k9] at h ⊢
      unfold fourP at h ⊢
      by_cases k : 6 ≤ n ∧ hexOk b 4 = true
      · rw [if_pos k]
        exact ⟨k.1, h1, k9, k.2, rfl⟩
      · rw [if_neg k] at h
        simp [pc0] at h
    · rw [if_neg k9] at h; simp [pc0] at h
  · unfold nextP at h
    rw [if_neg h0, if_pos h1] at h
    simp at h
theorem hex_dig (c : Nat) : (hexZ c = 13 → c = 100 ∨ c = 68) ∧ (8 ≤ hexZ c → hexZ c ≤ 11 → HiD c) ∧ (12 ≤ hexZ c → LoD c) := by
  unfold hexZ HiD LoD
  repeat' split
  all_goals refine ⟨?_, ?_, ?_⟩ <;> intros <;> omega
theorem half_bytes {b : Nat → Nat} {n : Nat} (h : (nextP b n).four = true) (h1 : 55296 ≤ (nextP b n).means) (h2 : (nextP b n).means ≤ 57343) :
    6 ≤ n ∧ b 0 = 92 ∧ b 1 = 117 ∧ (b 2 = 100 ∨ b 2 = 68) ∧ ((nextP b n).means ≤ 56319 → HiD (b 3)) ∧ (56320 ≤ (nextP b n).means → LoD (b 3)) := by
  obtain ⟨g1, g2, g3, g4, g5⟩ := four_bytes h
  rw [g5] at h1 h2 ⊢
  have z2 := hexZ_lt (b 2)
  have z3 := hexZ_lt (b 3)
  have z4 := hexZ_lt (b 4)
  have z5 := hexZ_lt (b 5)
  have ev : hexV b 4 = (((0 * 16 + (hexZ (b 2)).toNat) * 16 + (hexZ (b 3)).toNat) * 16 + (hexZ (b 4)).toNat) * 16 + (hexZ (b 5)).toNat := rfl
  rw [ev] at h1 h2 ⊢
  have e2 : hexZ (b 2) = 13 := by omega
  refine ⟨g1, g2, g3, (hex_dig _).1 e2, fun h => (hex_dig _).2.1 (by omega) (by omega), fun h => (hex_dig _).2.2 (by omega)⟩
/-- Halves of a pair that meet: what stands there. -/
theorem meet_bytes {a b : ByteArray} (h : meetP (byts a) (byts b)) : (6 ≤ a.size ∧ bAt a (a.size - 6) = 92 ∧ bAt a (a.size - 6 + 1) = 117 ∧ (bAt a (a.size - 6 + 2) = 100 ∨ bAt a (a.size - 6 + 2) = 68) ∧ HiD (bAt a (a.size - 6 + 3))) ∧
    6 ≤ b.size ∧ bAt b 0 = 92 ∧ bAt b 1 = 117 ∧ (bAt b 2 = 100 ∨ bAt b 2 = 68) ∧ LoD (bAt b 3) := by
  obtain ⟨h1, h2, h3⟩ := h
  rw [byts_length] at h1 h2
  unfold highP at h2
  unfold lowP at h3
  rw [Bool.and_eq_true, Bool.and_eq_true, decide_eq_true_eq, decide_eq_true_eq] at h2 h3
  unfold nextL at h2 h3
  rw [lb_drop, ← bAt_lb] at h2
  rw [← bAt_lb, byts_length] at h3
  obtain ⟨a1, a2, a3, a4, a5, -⟩ := half_bytes h2.1 h2.2.1 (by omega)
  obtain ⟨b1, b2, b3, b4, -, b5⟩ := half_bytes h3.1 (by omega) h3.2.2
  exact ⟨⟨h1, a2, a3, a4, a5 h2.2.2⟩, b1, b2, b3, b4, b5 h3.2.1⟩
theorem unesc_len : ∀ (n : Nat) (l : List Nat), l.length ≤ n → (∀ x ∈ l, x < 256) → ∀ o, unescL l = some o → o.length ≤ l.length ∧ ∀ x ∈ o, x < 256 := by
  intro n
  induction n with
  | zero =>
    intro l hn _ o ho
    have e : l = [] := List.eq_nil_of_length_eq_zero (by omega)
    subst e
    rw [unescL_nil] at ho
    cases ho
    exact ⟨Nat.le_refl _, fun x hx => by simp at hx⟩
  | succ n ih =>
    intro l hn hb o ho
    by_cases hl : l = []
    · subst hl
      rw [unescL_nil] at ho
      cases ho
      exact ⟨Nat.le_refl _, fun x hx => by simp at hx⟩
    · cases hs : stepL l with
      | none => rw [unescL_none hl hs] at ho; cases ho
      | some p =>
        obtain ⟨k, o1⟩ := p
        obtain ⟨k1, k2, k3, k4⟩ := stepL_some hl hb hs
        rw [unescL_some hl hb hs] at ho
        cases hr : unescL (l.drop k) with
        | none => rw [hr] at ho; cases ho
        | some o2 =>
          rw [hr] at ho
          cases ho
          obtain ⟨g1, g2⟩ := ih (l.drop k) (by rw [List.length_drop]; omega) (fun x hx => hb x (List.mem_of_mem_drop hx)) o2 hr
          rw [List.length_drop] at g1
          refine ⟨by rw [List.length_append]; omega, fun x hx => ?_⟩
          rcases List.mem_append.1 hx with hx | hx
          · exact k4 x hx
          · exact g2 x hx
theorem runQ_eq : ∀ (l : List Nat) {q q' q1 : Q5}, EqQ q q' → runQ q l = some q1 → ∃ q2, runQ q' l = some q2 ∧ EqQ q1 q2 := by
  intro l
  induction l with
  | nil =>
    intro q q' q1 h hr
    cases hr
    exact ⟨q', rfl, h⟩
  | cons x l ih =>
    intro q q' q1 h hr
    cases hs : stp q x with
    | none => simp [runQ, hs] at hr
    | some qm =>
      have hr' : runQ qm l = some q1 := by simpa [runQ, hs] using hr
      obtain ⟨qm', h1, h2⟩ := stp_eq h hs
      obtain ⟨q2, h3, h4⟩ := ih h2 hr'
      exact ⟨q2, by simpa [runQ, h1] using h3, h4⟩
theorem ok_app {a b : List Nat} (ha : okU a) (hb : okU b) : okU (a ++ b) := by
  obtain ⟨q, h1, h2⟩ := ha
  obtain ⟨q', h3, h4⟩ := hb
  obtain ⟨q2, h5, h6⟩ := runQ_eq b (q := q50) (q' := q) ⟨h2.symm, fun h => absurd rfl h⟩ h3
  refine ⟨q2, ?_, ?_⟩
  · rw [runQ_append, h1]
    exact h5
  · rw [← h6.1]
    exact h4
theorem un_zero {s T : ByteArray} (h : unS s = (T, 0)) : badOf s = -1 ∧ okU (byts s) ∧ ∃ o, unescL (byts s) = some o ∧ T = mkS o ∧ byts T = o := by
  unfold unS at h
  by_cases hb : 0 ≤ badOf s
  · rw [if_pos hb] at h
    simp at h
  · rw [if_neg hb] at h
    cases hu : unescL (byts s) with
    | none => rw [hu] at h; simp at h
    | some o =>
      rw [hu] at h
      simp only [Prod.mk.injEq, and_true] at h
      have ho := (unesc_len _ _ (Nat.le_refl _) (byts_lt s) o hu).2
      exact ⟨ok_bad (bad_ok hb), bad_ok hb, o, rfl, h.symm, by rw [← h]; exact byts_mkS ho⟩
/-- What follows of a right one. -/
theorem right_facts {s T : ByteArray} (h : unS s = (T, 0)) : badOf T = -1 ∧ T.size ≤ s.size ∧ IsEnd (s ++ ⟨#[34]⟩) 0 (s.size : Nat) 0 := by
  obtain ⟨h0, h1, o, h2, h3, h4⟩ := un_zero h
  obtain ⟨g1, g2⟩ := unesc_len _ _ (Nat.le_refl _) (byts_lt s) o h2
  refine ⟨ok_bad (by rw [h4]; exact unesc_ok (byts_lt s) h1 h2), ?_, ?_⟩
  · rw [← byts_length, h4, ← byts_length]
    exact g1
  · have := end_right (t := s ++ ⟨#[34]⟩) (a := byts s) (b := []) (by rw [byts_append]; rfl) (byts_lt s) h2
    rw [byts_length] at this
    exact this
theorem join_facts {a b T T2 : ByteArray} (h1 : unS a = (T, 0)) (h2 : unS b = (T2, 0)) (hm : ¬ meetP (byts a) (byts b)) : unS (a ++ b) = (T ++ T2, 0) := by
  obtain ⟨-, a1, o, a2, -, a4⟩ := un_zero h1
  obtain ⟨-, b1, p, b2, -, b4⟩ := un_zero h2
  have hj := unesc_join _ (byts a) (byts b) (Nat.le_refl _) (byts_lt a) (byts_lt b) o p a2 b2 hm
  unfold unS
  rw [ok_bad (by rw [byts_append]; exact ok_app a1 b1), if_neg (by decide), byts_append, hj]
  show (mkS (o ++ p), (0 : Int)) = _
  rw [← a4, ← b4, ← byts_append, mkS_byts]
end Go.Proofs.Ytlcihopklnnhdaa
