/-
  What is written between quotes means what was written; it is UTF-8 as that was.
-/
import Derived.Test.YtlcihopklnnhdaaTxMath
namespace Go.Proofs.Ytlcihopklnnhdaa

/-- The state of the form behind some bytes; none: one of them is wrong. -/
def runQ (q : Q5) : List Nat → Option Q5
  | [] => some q
  | x :: l => match stp q x with
    | none => none
    | some q' => runQ q' l
theorem runQ_append (q : Q5) (a b : List Nat) : runQ q (a ++ b) = match runQ q a with
    | none => none
    | some q' => runQ q' b := by
  induction a generalizing q with
  | nil => rfl
  | cons x a ih =>
    show runQ q (x :: (a ++ b)) = _
    simp only [runQ]
    cases stp q x with
    | none => rfl
    | some q' => exact ih q'
theorem runS_runQ (l : List Nat) : ∀ s : St5, s.wrong = false → (∀ q, runQ s.q l = some q → runS s l = ⟨s.good + l.length, false, q⟩) ∧ (runQ s.q l = none → (runS s l).wrong = true) := by
  induction l with
  | nil =>
    intro s hs
    refine ⟨fun q h => ?_, fun h => by cases h⟩
    simp only [runQ, Option.some.injEq] at h
    subst h
    rw [runS_nil]
    cases s
    simp at hs
    subst hs
    rfl
  | cons x l ih =>
    intro s hs
    simp only [runQ]
    cases hq : stp s.q x with
    | none =>
      refine ⟨fun q h => by simp at h, fun _ => ?_⟩
      rw [runS_cons, tk_none hs hq, runS_wrong rfl]
    | some q' =>
      obtain ⟨h1, h2⟩ := ih ⟨s.good + 1, false, q'⟩ rfl
      refine ⟨fun q h => ?_, fun h => ?_⟩
      · rw [runS_cons, tk_some hs hq, h1 q h, List.length_cons]
        congr 1
        show s.good + 1 + l.length = s.good + (l.length + 1)
        omega
      · rw [runS_cons, tk_some hs hq]
        exact h2 h
/-- The state at a text's beginning. -/
def q50 : Q5 := ⟨0, 0, 0⟩
/-- Is it UTF-8? -/
def okU (l : List Nat) : Prop := ∃ q, runQ q50 l = some q ∧ q.left = 0
theorem bad_iff (l : List Nat) : badI (runS s5 l) = -1 ↔ okU l := by
  obtain ⟨h1, h2⟩ := runS_runQ l s5 rfl
  unfold okU
  cases hq : runQ q50 l with
  | none =>
    have h3 := h2 hq
    refine ⟨fun h => ?_, fun ⟨q, h, _⟩ => by cases h⟩
    unfold badI at h
    rw [if_pos (.inl h3)] at h
    omega
  | some q =>
    have h3 := h1 q hq
    rw [h3]
    unfold badI
    refine ⟨fun h => ?_, fun ⟨q', h, h0⟩ => ?_⟩
    · by_cases h0 : 0 < q.left
      · rw [if_pos (.inr h0)] at h
        omega
      · exact ⟨q, rfl, by omega⟩
    · cases h
      rw [if_neg]
      rintro (h | h)
      · cases h
      · have h5 : 0 < q.left := h
        omega
theorem bad_neg (l : List Nat) : badI (runS s5 l) = -1 ∨ 0 ≤ badI (runS s5 l) := by
  unfold badI
  split
  · right; omega
  · left; rfl
/-- In a form the next byte is none below 128. -/
def LoOk (q : Q5) : Prop := q.left ≠ 0 → 128 ≤ q.lo
theorem loOk_q50 : LoOk q50 := fun h => absurd rfl h
theorem stp_ok {q q' : Q5} {x : Nat} (h : LoOk q) (hs : stp q x = some q') : LoOk q' := by
  unfold stp at hs
  by_cases h0 : q.left = 0
  · rw [if_pos h0] at hs
    unfold begQ at hs
    repeat' split at hs
    all_goals first
      | (cases hs; done)
      | (simp only [Option.some.injEq] at hs; subst hs; first | exact h | (intro _; exact secLo_ge x))
  · rw [if_neg h0] at hs
    split at hs
    · cases hs
    · simp only [Option.some.injEq] at hs
      subst hs
      intro _
      exact Nat.le_refl _
theorem stp_low {q q' : Q5} {x : Nat} (h : LoOk q) (hx : x < 128) (hs : stp q x = some q') : q.left = 0 ∧ q' = q := by
  unfold stp at hs
  by_cases h0 : q.left = 0
  · rw [if_pos h0] at hs
    unfold begQ at hs
    rw [if_neg (by omega), if_neg (by omega), if_neg (by omega), if_neg (by omega), if_neg (by omega)] at hs
    exact ⟨h0, by simpa using hs.symm⟩
  · rw [if_neg h0, if_pos (.inl (by have := h h0; omega))] at hs
    cases hs
theorem runQ_ascii {q : Q5} (h0 : q.left = 0) {l : List Nat} (hl : ∀ x ∈ l, x < 128) : runQ q l = some q := by
  induction l with
  | nil => rfl
  | cons x l ih =>
    have hx := hl x (by simp)
    have hs : stp q x = some q := by
      unfold stp begQ
      rw [if_pos h0, if_neg (by omega), if_neg (by omega), if_neg (by omega), if_neg (by omega), if_neg (by omega)]
    simp only [runQ, hs]
    exact ih (fun y hy => hl y (by simp [hy]))

def hexC (d : Nat) : Nat := if d < 10 then 48 + d else 87 + d
/-- A byte as Escape has it. -/
def oneL (c : Nat) : List Nat :=
  if c = 34 then [92, 34] else if c = 92 then [92, 92] else if c = 8 then [92, 98] else if c = 12 then [92, 102] else if c = 10 then [92, 110] else if c = 13 then [92, 114] else if c = 9 then [92, 116]
  else if c < 32 then [92, 117, 48, 48, hexC (c / 16), hexC (c % 16)] else [c]
theorem oneL_ascii {c : Nat} (h : c < 128) : ∀ x ∈ oneL c, x < 128 := by
  unfold oneL
  repeat' split
  all_goals intro x hx; simp at hx
  all_goals first
    | omega
    | (rcases hx with rfl | rfl | rfl | rfl | rfl | rfl <;> first | omega | (unfold hexC; split <;> omega))
theorem oneL_high {c : Nat} (h : 128 ≤ c) : oneL c = [c] := by
  unfold oneL
  rw [if_neg (by omega), if_neg (by omega), if_neg (by omega), if_neg (by omega), if_neg (by omega), if_neg (by omega), if_neg (by omega), if_neg (by omega)]
/-- What is written is UTF-8 as what was written. -/
theorem esc_utf8 {q q' : Q5} (h : LoOk q) {l : List Nat} (hr : runQ q l = some q') : runQ q (l.flatMap oneL) = some q' := by
  induction l generalizing q with
  | nil => exact hr
  | cons x l ih =>
    simp only [runQ] at hr
    cases hs : stp q x with
    | none => rw [hs] at hr; cases hr
    | some q1 =>
      rw [hs] at hr
      rw [List.flatMap_cons, runQ_append]
      by_cases hx : x < 128
      · obtain ⟨h0, rfl⟩ := stp_low h hx hs
        rw [runQ_ascii h0 (oneL_ascii hx)]
        exact ih h hr
      · rw [oneL_high (by omega)]
        simp only [runQ, hs]
        exact ih (stp_ok h hs) hr
theorem esc_ok {l : List Nat} (h : okU l) : okU (l.flatMap oneL) := by
  obtain ⟨q, h1, h2⟩ := h
  exact ⟨q, esc_utf8 loOk_q50 h1, h2⟩
theorem hexZ_C {d : Nat} (h : d < 16) : hexZ (hexC d) = (d : Int) := by
  unfold hexC hexZ
  split
  · rw [if_pos (by omega)]; omega
  · rw [if_neg (by omega), if_pos (by omega)]; omega
/-- One byte's form means that byte. -/
theorem step_one {c : Nat} (hc : c < 256) (rest : List Nat) : stepL (oneL c ++ rest) = some ((oneL c).length, [c]) := by
  have key : ∀ (a : Nat) (m : Nat), (a = 34 ∨ a = 92 ∨ a = 98 ∨ a = 102 ∨ a = 110 ∨ a = 114 ∨ a = 116) → nextL ([92, a] ++ rest) = ⟨2, m, false⟩ → stepL ([92, a] ++ rest) = some (2, [m]) := by
    intro a m _ h
    unfold stepL
    rw [h]
    simp [highP, lowP]
  unfold oneL
  by_cases k34 : c = 34
  · subst k34
    rw [if_pos rfl]
    exact key 34 34 (by simp) (by simp [nextL, nextP, lb]; intro h; omega)
  rw [if_neg k34]
  by_cases k92 : c = 92
  · subst k92
    rw [if_pos rfl]
    exact key 92 92 (by simp) (by simp [nextL, nextP, lb]; intro h; omega)
  rw [if_neg k92]
  by_cases k8 : c = 8
  · subst k8
    rw [if_pos rfl]
    exact key 98 8 (by simp) (by simp [nextL, nextP, lb]; intro h; omega)
  rw [if_neg k8]
  by_cases k12 : c = 12
  · subst k12
    rw [if_pos rfl]
    exact key 102 12 (by simp) (by simp [nextL, nextP, lb]; intro h; omega)
  rw [if_neg k12]
  by_cases k10 : c = 10
  · subst k10
    rw [if_pos rfl]
    exact key 110 10 (by simp) (by simp [nextL, nextP, lb]; intro h; omega)
  rw [if_neg k10]
  by_cases k13 : c = 13
  · subst k13
    rw [if_pos rfl]
    exact key 114 13 (by simp) (by simp [nextL, nextP, lb]; intro h; omega)
  rw [if_neg k13]
  by_cases k9 : c = 9
  · subst k9
    rw [if_pos rfl]
    exact key 116 9 (by simp) (by simp [nextL, nextP, lb]; intro h; omega)
  rw [if_neg k9]
  by_cases h32 : c < 32
  · rw [if_pos h32]
    have e1 : c / 16 < 16 := by omega
    have e2 : c % 16 < 16 := by omega
    have hn : nextL ([92, 117, 48, 48, hexC (c / 16), hexC (c % 16)] ++ rest) = ⟨6, c, true⟩ := by
      have z0 : hexZ 48 = 0 := by decide
      have hok : hexOk (lb ([92, 117, 48, 48, hexC (c / 16), hexC (c % 16)] ++ rest)) 4 = true := by
        simp [hexOk, lb, hexZ_C e1, hexZ_C e2, z0]
        omega
      have hv : hexV (lb ([92, 117, 48, 48, hexC (c / 16), hexC (c % 16)] ++ rest)) 4 = c := by
        simp [hexV, lb, hexZ_C e1, hexZ_C e2, z0]
        omega
      have hf : fourP (lb ([92, 117, 48, 48, hexC (c / 16), hexC (c % 16)] ++ rest)) ([92, 117, 48, 48, hexC (c / 16), hexC (c % 16)] ++ rest).length = ⟨6, c, true⟩ := by
        unfold fourP
        rw [if_pos ⟨by simp, hok⟩, hv]
      have b0 : lb ([92, 117, 48, 48, hexC (c / 16), hexC (c % 16)] ++ rest) 0 = 92 := rfl
      have b1 : lb ([92, 117, 48, 48, hexC (c / 16), hexC (c % 16)] ++ rest) 1 = 117 := rfl
      unfold nextL nextP
      rw [b0, b1, if_neg (by decide), if_neg (by simp), if_neg (by simp), if_neg (by decide), if_neg (by decide), if_neg (by decide), if_neg (by decide), if_neg (by decide), if_neg (by decide), if_pos rfl]
      exact hf
    unfold stepL
    rw [hn]
    have hh : highP ⟨6, c, true⟩ = false := by simp [highP]; omega
    have hl : lowP ⟨6, c, true⟩ = false := by simp [lowP]; omega
    rw [if_neg (by simp), if_neg (by rw [hh]; simp), if_neg (by rw [hh, hl]; simp), if_pos rfl]
    simp [charL, show c < 128 by omega]
  · rw [if_neg h32]
    have hn : nextL ([c] ++ rest) = ⟨1, c, false⟩ := by
      simp [nextL, nextP, lb, h32, k34, k92]
    unfold stepL
    rw [hn]
    simp [highP, lowP]
theorem unesc_esc {l : List Nat} (h : ∀ x ∈ l, x < 256) : unescL (l.flatMap oneL) = some l := by
  induction l with
  | nil => rfl
  | cons x l ih =>
    have hx := h x (by simp)
    have hl : ∀ y ∈ l, y < 256 := fun y hy => h y (by simp [hy])
    have hs := step_one hx (l.flatMap oneL)
    have hne : oneL x ++ l.flatMap oneL ≠ [] := fun e => by
      rw [e] at hs
      simp [stepL, nextL, nextP, lb, pc0] at hs
    have hb : ∀ y ∈ oneL x ++ l.flatMap oneL, y < 256 := fun y hy => by
      rcases List.mem_append.1 hy with hy | hy
      · by_cases hx2 : x < 128
        · have := oneL_ascii hx2 y hy; omega
        · rw [oneL_high (by omega)] at hy; simp at hy; omega
      · obtain ⟨z, hz, hy⟩ := List.mem_flatMap.1 hy
        have hz2 := hl z hz
        by_cases hx2 : z < 128
        · have := oneL_ascii hx2 y hy; omega
        · rw [oneL_high (by omega)] at hy; simp at hy; omega
    rw [List.flatMap_cons, unescL_some hne hb hs, List.drop_left, ih hl]
    simp
end Go.Proofs.Ytlcihopklnnhdaa
