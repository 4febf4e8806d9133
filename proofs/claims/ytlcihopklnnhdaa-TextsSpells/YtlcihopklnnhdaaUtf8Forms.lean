/-
  A character's form, byte by byte.
-/
import Derived.Test.YtlcihopklnnhdaaUtf8Math
namespace Go.Proofs.Ytlcihopklnnhdaa

theorem stp_next {q : Q5} {x : Nat} (h : q.left ≠ 0) (h1 : q.lo ≤ x) (h2 : x ≤ q.hi) : stp q x = some ⟨q.left - 1, 128, 191⟩ := by unfold stp; rw [if_neg h, if_neg (by omega)]
theorem stp_first {q : Q5} {x : Nat} (h : q.left = 0) : (x < 128 → stp q x = some q) ∧ (194 ≤ x → x ≤ 223 → stp q x = some ⟨1, secLo x, secHi x⟩) ∧ (224 ≤ x → x ≤ 239 → stp q x = some ⟨2, secLo x, secHi x⟩) ∧ (240 ≤ x → x ≤ 244 → stp q x = some ⟨3, secLo x, secHi x⟩) := by
  refine ⟨fun a => ?_, fun a b => ?_, fun a b => ?_, fun a b => ?_⟩ <;> (unfold stp begQ; rw [if_pos h, if_neg (by omega)])
  · rw [if_neg (by omega), if_neg (by omega), if_neg (by omega), if_neg (by omega)]
  · rw [if_neg (by omega), if_neg (by omega), if_pos (by omega)]
  · rw [if_neg (by omega), if_pos (by omega)]
  · rw [if_pos (by omega)]
theorem sec_more (x : Nat) : (x ≠ 224 → x ≠ 240 → secLo x = 128) ∧ (x ≠ 237 → x ≠ 244 → secHi x = 191) := by
  constructor
  · intro a b; unfold secLo; rw [if_neg a, if_neg b]
  · intro a b; unfold secHi; rw [if_neg a, if_neg b]

/-- The bytes of a form come one after another: each fits, and only behind the last one nothing is left. -/
theorem run_form {s : St5} (hw : s.wrong = false) (hl : s.q.left = 0) (c : Nat) (hc : sizeN c ≠ 0) :
    (formL c).length = sizeN c ∧ (∀ k, 0 < k → k < sizeN c → ∃ q r, runS s ((formL c).take k) = ⟨s.good + k, false, q⟩ ∧ FormAt ((formL c).take k) q r ∧ 0 < q.left ∧ 128 ≤ q.lo ∧ q.hi ≤ 191) ∧
      ∃ q, runS s (formL c) = ⟨s.good + sizeN c, false, q⟩ ∧ q.left = 0 := by
  have hcases : sizeN c = 1 ∧ c < 128 ∨ sizeN c = 2 ∧ 128 ≤ c ∧ c < 2048 ∨ sizeN c = 3 ∧ 2048 ≤ c ∧ c < 65536 ∧ ¬ (55296 ≤ c ∧ c ≤ 57343) ∨ sizeN c = 4 ∧ 65536 ≤ c ∧ c ≤ 1114111 := by
    unfold sizeN at hc ⊢
    split at hc
    · omega
    · rename_i hn
      rw [if_neg hn]
      split at hc
      · rename_i h1; rw [if_pos h1]; omega
      · rename_i h1; rw [if_neg h1]
        split at hc
        · rename_i h2; rw [if_pos h2]; omega
        · rename_i h2; rw [if_neg h2]
          split at hc
          · rename_i h3; rw [if_pos h3]; omega
          · rename_i h3; rw [if_neg h3]; omega
  clear hc
  rcases hcases with ⟨e, h1⟩ | ⟨e, h1, h2⟩ | ⟨e, h1, h2, h3⟩ | ⟨e, h1, h2⟩
  · have hF : formL c = [c] := by unfold formL; rw [if_pos e]
    rw [hF, e]
    refine ⟨rfl, fun k a b => by omega, s.q, ?_, hl⟩
    rw [runS_cons, tk_some hw ((stp_first hl).1 h1)]
    rfl
  · have hF : formL c = [192 + c / 64, 128 + c % 64] := by unfold formL; rw [if_neg (by omega), if_pos e]
    rw [hF, e]
    have a1 := (stp_first (x := 192 + c / 64) hl).2.1 (by omega) (by omega)
    have m := sec_more (192 + c / 64)
    have l1 := m.1 (by omega) (by omega)
    have l2 := m.2 (by omega) (by omega)
    generalize hx : 192 + c / 64 = x at *
    have a2 := stp_next (q := ⟨1, secLo x, secHi x⟩) (x := 128 + c % 64) (by simp) (by show secLo x ≤ _; omega) (by show _ ≤ secHi x; omega)
    refine ⟨rfl, fun k a b => ?_, ⟨0, 128, 191⟩, ?_, rfl⟩
    · obtain rfl : k = 1 := by omega
      refine ⟨⟨1, secLo x, secHi x⟩, x - 192, ?_, .inl ⟨by omega, by omega, rfl, rfl⟩, by simp, by show 128 ≤ secLo x; omega, by show secHi x ≤ 191; omega⟩
      show runS s [x] = _
      rw [runS_cons, tk_some hw a1]
      rfl
    · rw [runS_cons, tk_some hw a1, runS_cons, tk_some rfl a2]
      rfl
  · have hF : formL c = [224 + c / 4096, 128 + c / 64 % 64, 128 + c % 64] := by unfold formL; rw [if_neg (by omega), if_neg (by omega), if_pos e]
    rw [hF, e]
    have a1 := (stp_first (x := 224 + c / 4096) hl).2.2.1 (by omega) (by omega)
    have f := sec_facts (224 + c / 4096)
    have g := sec_more (224 + c / 4096)
    have b1 := secLo_ge (224 + c / 4096)
    have b2 := secHi_le (224 + c / 4096)
    have d1 : secLo (224 + c / 4096) ≤ 128 + c / 64 % 64 := by
      by_cases k : 224 + c / 4096 = 224
      · rw [f.1 k]; omega
      · rw [g.1 k (by omega)]; omega
    have d2 : 128 + c / 64 % 64 ≤ secHi (224 + c / 4096) := by
      by_cases k : 224 + c / 4096 = 237
      · rw [f.2.2.1 k]; omega
      · rw [g.2 k (by omega)]; omega
    generalize hx : 224 + c / 4096 = x at *
    generalize hy : 128 + c / 64 % 64 = y at *
    have a2 := stp_next (q := ⟨2, secLo x, secHi x⟩) (x := y) (by simp) d1 d2
    have a3 := stp_next (q := ⟨1, 128, 191⟩) (x := 128 + c % 64) (by simp) (by show 128 ≤ _; omega) (by show _ ≤ 191; omega)
    refine ⟨rfl, fun k a b => ?_, ⟨0, 128, 191⟩, ?_, rfl⟩
    · by_cases k1 : k = 1
      · subst k1
        refine ⟨⟨2, secLo x, secHi x⟩, x - 224, ?_, .inr (.inl ⟨by omega, by omega, rfl, rfl⟩), by simp, b1, b2⟩
        show runS s [x] = _
        rw [runS_cons, tk_some hw a1]
        rfl
      · obtain rfl : k = 2 := by omega
        refine ⟨⟨1, 128, 191⟩, (x - 224) * 64 + (y - 128), ?_, ⟨d1, d2, .inl ⟨by omega, by omega, rfl, rfl⟩⟩, by simp, by simp, by simp⟩
        show runS s [x, y] = _
        rw [runS_cons, tk_some hw a1, runS_cons, tk_some rfl a2]
        rfl
    · rw [runS_cons, tk_some hw a1, runS_cons, tk_some rfl a2, runS_cons, tk_some rfl a3]
      rfl
  · have hF : formL c = [240 + c / 262144, 128 + c / 4096 % 64, 128 + c / 64 % 64, 128 + c % 64] := by unfold formL; rw [if_neg (by omega), if_neg (by omega), if_neg (by omega), if_pos e]
    rw [hF, e]
    have a1 := (stp_first (x := 240 + c / 262144) hl).2.2.2 (by omega) (by omega)
    have f := sec_facts (240 + c / 262144)
    have g := sec_more (240 + c / 262144)
    have b1 := secLo_ge (240 + c / 262144)
    have b2 := secHi_le (240 + c / 262144)
    have d1 : secLo (240 + c / 262144) ≤ 128 + c / 4096 % 64 := by
      by_cases k : 240 + c / 262144 = 240
      · rw [f.2.1 k]; omega
      · rw [g.1 (by omega) k]; omega
    have d2 : 128 + c / 4096 % 64 ≤ secHi (240 + c / 262144) := by
      by_cases k : 240 + c / 262144 = 244
      · rw [f.2.2.2 k]; omega
      · rw [g.2 (by omega) k]; omega
    have e1 : 240 ≤ 240 + c / 262144 := by omega
    have e2 : 240 + c / 262144 ≤ 244 := by omega
    generalize 240 + c / 262144 = x at *
    generalize 128 + c / 4096 % 64 = y at *
    have a2 := stp_next (q := ⟨3, secLo x, secHi x⟩) (x := y) (by simp) d1 d2
    have e3 : 128 ≤ 128 + c / 64 % 64 := by omega
    have e4 : 128 + c / 64 % 64 ≤ 191 := by omega
    generalize 128 + c / 64 % 64 = z at *
    have a3 := stp_next (q := ⟨2, 128, 191⟩) (x := z) (by simp) e3 e4
    have a4 := stp_next (q := ⟨1, 128, 191⟩) (x := 128 + c % 64) (by simp) (by show 128 ≤ _; omega) (by show _ ≤ 191; omega)
    refine ⟨rfl, fun k a b => ?_, ⟨0, 128, 191⟩, ?_, rfl⟩
    · by_cases k1 : k = 1
      · subst k1
        refine ⟨⟨3, secLo x, secHi x⟩, x - 240, ?_, .inr (.inr ⟨e1, e2, rfl, rfl⟩), by simp, b1, b2⟩
        show runS s [x] = _
        rw [runS_cons, tk_some hw a1]
        rfl
      · by_cases k2 : k = 2
        · subst k2
          refine ⟨⟨2, 128, 191⟩, (x - 240) * 64 + (y - 128), ?_, ⟨d1, d2, .inr ⟨e1, e2, rfl, rfl⟩⟩, by simp, by simp, by simp⟩
          show runS s [x, y] = _
          rw [runS_cons, tk_some hw a1, runS_cons, tk_some rfl a2]
          rfl
        · obtain rfl : k = 3 := by omega
          refine ⟨⟨1, 128, 191⟩, ((x - 240) * 64 + (y - 128)) * 64 + (z - 128), ?_, ⟨d1, d2, e3, e4, e1, e2, rfl, rfl⟩, by simp, by simp, by simp⟩
          show runS s [x, y, z] = _
          rw [runS_cons, tk_some hw a1, runS_cons, tk_some rfl a2, runS_cons, tk_some rfl a3]
          rfl
    · rw [runS_cons, tk_some hw a1, runS_cons, tk_some rfl a2, runS_cons, tk_some rfl a3, runS_cons, tk_some rfl a4]
      rfl
theorem formL_none {c : Nat} (h : sizeN c = 0) : formL c = [] := by unfold formL; rw [if_neg (by omega), if_neg (by omega), if_neg (by omega), if_neg (by omega)]
theorem formL_len (c : Nat) : (formL c).length = sizeN c := by
  by_cases h : sizeN c = 0
  · rw [formL_none h, h]; rfl
  · exact (run_form (s := s5) rfl rfl c h).1
theorem size_bounds {c k : Nat} (h : sizeN c = k) : (k = 1 → c < 128) ∧ (k = 2 → 128 ≤ c ∧ c < 2048) ∧ (k = 3 → 2048 ≤ c ∧ c < 65536) ∧ (k = 4 → 65536 ≤ c ∧ c ≤ 1114111) := by
  unfold sizeN at h
  split at h
  · omega
  · split at h
    · omega
    · split at h
      · omega
      · split at h <;> omega
theorem formL_lt (c : Nat) : ∀ x ∈ formL c, x < 256 := by
  intro x hx
  have hb := size_bounds (c := c) rfl
  unfold formL at hx
  split at hx
  · simp only [List.mem_cons, List.not_mem_nil, or_false] at hx; omega
  · split at hx
    · simp only [List.mem_cons, List.not_mem_nil, or_false] at hx; omega
    · split at hx
      · simp only [List.mem_cons, List.not_mem_nil, or_false] at hx; omega
      · split at hx
        · simp only [List.mem_cons, List.not_mem_nil, or_false] at hx; omega
        · cases hx
/-- The form of a character is UTF-8. -/
theorem bad_form (c : Nat) : badI (runS s5 (formL c)) = -1 := by
  by_cases h : sizeN c = 0
  · rw [formL_none h]; rfl
  · obtain ⟨_, _, q, h1, h2⟩ := run_form (s := s5) rfl rfl c h
    rw [h1]
    unfold badI
    rw [if_neg]
    intro k
    rcases k with k | k
    · cases k
    · have : 0 < q.left := k
      omega
end Go.Proofs.Ytlcihopklnnhdaa
