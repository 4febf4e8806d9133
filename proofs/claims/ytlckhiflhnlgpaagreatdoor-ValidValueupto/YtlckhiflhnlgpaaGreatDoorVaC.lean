/-
  VaRev, VaPa, VaPb, VaPc, one behind the other.
-/
import Derived.Test.YtlckhiflhnlgpaaGreatDoorVaA
import Derived.Test.YtlckhiflhnlgpaaGreatDoorVaB
/- The machine within brackets and the machine alone, step for step, both ways. -/
namespace Go.Proofs.YtlckhiflhnlgpaaGreatDoor

/-- A byte behind which a word or a number ends. -/
def stopN (x : Nat) : Bool := blankN x || (x == 44 || (x == 93 || x == 125))
theorem stop_parts {c : Nat} (h : stopN c = false) : blankN c = false ∧ c ≠ 44 ∧ c ≠ 93 ∧ c ≠ 125 := by
  unfold stopN at h
  simp only [Bool.or_eq_false_iff, beq_eq_false_iff_ne] at h
  exact ⟨h.1, h.2.1, h.2.2.1, h.2.2.2⟩
theorem after_stop {n : Mc} {c : Nat} (hc : stopN c = false) : afterM n c = none := by
  obtain ⟨h1, h2, h3, h4⟩ := stop_parts hc
  unfold afterM
  rw [if_neg (by rw [h1]; simp), if_neg (by omega), if_neg (by omega), if_neg (by omega)]
end Go.Proofs.YtlckhiflhnlgpaaGreatDoor

/- A value within a document, taken by the machine alone. -/
namespace Go.Proofs.YtlckhiflhnlgpaaGreatDoor

theorem take_prefix {m k : Mc} {l : List Nat} {j e : Nat} (hj : j ≤ e) (h : takeM m (l.take e) = some k) : ∃ q, takeM m (l.take j) = some q := by
  have e1 : l.take e = l.take j ++ (l.drop j).take (e - j) := by
    rw [← List.take_append_drop j (l.take e), List.take_take, Nat.min_eq_left hj, List.drop_take]
  rw [e1, takeM_app] at h
  cases hq : takeM m (l.take j) with
  | none => rw [hq] at h; cases h
  | some q => exact ⟨q, rfl⟩
theorem first_step {n n1 : Mc} {x : Nat} (hst : n.st = 0 ∨ n.st = 1) (hb : blankN x = false) (h93 : x ≠ 93) (h : stepM n x = some n1) : valueM n x = some n1 := by
  unfold stepM at h
  rw [if_neg (by omega), if_neg (by omega), if_neg (by omega), if_neg (by omega), if_neg (by rw [hb]; simp), if_neg (by omega), if_neg (by omega)] at h
  split at h
  · exact h
  · rw [if_neg (by omega)] at h
    rw [if_pos (by omega)] at h
    exact h
/-- What a byte within a text does to its being a name, and where it ends. -/
theorem step_nm {m m' : Mc} {c : Nat} (hs : m.st = 6 ∨ m.st = 7 ∨ m.st = 8) (h : stepM m c = some m') : m'.nm = m.nm ∧ (¬ (m'.st = 6 ∨ m'.st = 7 ∨ m'.st = 8) → m'.st = if m.nm = true then 4 else 5) := by
  unfold stepM at h
  rw [if_neg (by omega)] at h
  by_cases h6 : m.st = 6
  · rw [if_pos h6] at h
    unfold charM at h
    repeat' split at h
    all_goals first
      | (cases h; done)
      | (injection h with h; subst h; refine ⟨rfl, fun hn => ?_⟩)
    all_goals first
      | (exfalso; apply hn; simp [h6]; done)
      | (rename_i k1 k2; rw [if_pos k2.2]; done)
      | (rename_i k1 k2 k3; rw [if_neg (fun h => k2 ⟨k3, h⟩)]; done)
      | (exfalso; apply hn; simp)
  · rw [if_neg h6, if_pos (by omega)] at h
    unfold escM at h
    repeat' split at h
    all_goals first
      | (cases h; done)
      | (injection h with h; subst h; refine ⟨rfl, fun hn => absurd ?_ hn⟩; first | exact .inl rfl | exact .inr (.inr rfl) | (by_cases hl : m.lf = 1; exact .inl (if_pos hl); exact .inr (.inr (if_neg hl))))
set_option maxHeartbeats 2000000 in
/-- Behind a byte of a word or a number. -/
theorem step_word {m m' : Mc} {c : Nat} (f : Fit m) (h : stepM m c = some m') (hw : m'.st = 9 ∨ 10 ≤ m'.st) : stopN c = false ∧ c ≠ 58 ∧ c ≠ 91 ∧ c ≠ 123 ∧ c ≠ 34 ∧ ¬ (m.st = 6 ∨ m.st = 7 ∨ m.st = 8) := by
  have key : ∀ c : Nat, ((48 ≤ c ∧ c ≤ 57) ∨ c = 43 ∨ c = 45 ∨ c = 46 ∨ c = 69 ∨ (97 ≤ c ∧ c ≤ 122)) → stopN c = false ∧ c ≠ 58 ∧ c ≠ 91 ∧ c ≠ 123 ∧ c ≠ 34 := fun c hc => by
    refine ⟨?_, by omega, by omega, by omega, by omega⟩
    unfold stopN blankN
    rw [decide_eq_false (by omega), Bool.false_or, Bool.or_eq_false_iff, Bool.or_eq_false_iff]
    exact ⟨by simp; omega, by simp; omega, by simp; omega⟩
  have hdig : ∀ c, digN c = true → 48 ≤ c ∧ c ≤ 57 := fun c h => by unfold digN at h; simpa using h
  unfold stepM at h
  by_cases h10 : 10 ≤ m.st
  · rw [if_pos h10] at h
    suffices hk : ((48 ≤ c ∧ c ≤ 57) ∨ c = 43 ∨ c = 45 ∨ c = 46 ∨ c = 69 ∨ (97 ≤ c ∧ c ≤ 122)) by
      obtain ⟨a1, a2, a3, a4, a5⟩ := key c hk
      exact ⟨a1, a2, a3, a4, a5, by omega⟩
    unfold numM at h
    repeat' split at h
    all_goals first
      | (cases h; done)
      | (rename_i k1; have := hdig c k1; omega)
      | (rename_i k1; have := hdig c k1.2; omega)
      | omega
      | (unfold afterM at h
         repeat' split at h
         all_goals first
           | (cases h; done)
           | (injection h with h; subst h; simp at hw))
  rw [if_neg h10] at h
  by_cases h6 : m.st = 6
  · rw [if_pos h6] at h
    unfold charM at h
    repeat' split at h
    all_goals first
      | (cases h; done)
      | (injection h with h; subst h; simp [h6] at hw)
  rw [if_neg h6] at h
  by_cases h7 : m.st = 7 ∨ m.st = 8
  · rw [if_pos h7] at h
    unfold escM at h
    repeat' split at h
    all_goals first
      | (cases h; done)
      | (injection h with h; subst h; dsimp only at hw; split at hw <;> omega)
      | (injection h with h; subst h; simp at hw)
  rw [if_neg h7] at h
  suffices hk : ((48 ≤ c ∧ c ≤ 57) ∨ c = 43 ∨ c = 45 ∨ c = 46 ∨ c = 69 ∨ (97 ≤ c ∧ c ≤ 122)) by
    obtain ⟨a1, a2, a3, a4, a5⟩ := key c hk
    exact ⟨a1, a2, a3, a4, a5, by omega⟩
  by_cases h9 : m.st = 9
  · rw [if_pos h9] at h
    cases hwd : m.wd with
    | nil => rw [hwd] at h; cases h
    | cons y r =>
      rw [hwd] at h
      simp only at h
      split at h
      · rename_i hy
        subst hy
        have := f.wd y (by rw [hwd]; simp)
        omega
      · cases h
  rw [if_neg h9] at h
  have hval : ∀ m : Mc, valueM m c = some m' → ((48 ≤ c ∧ c ≤ 57) ∨ c = 43 ∨ c = 45 ∨ c = 46 ∨ c = 69 ∨ (97 ≤ c ∧ c ≤ 122)) := fun m h => by
    unfold valueM at h
    repeat' split at h
    all_goals first
      | (cases h; done)
      | (rename_i k1; have := hdig c k1; omega)
      | (injection h with h; subst h; simp at hw; done)
      | omega
  split at h
  · injection h with h
    subst h
    omega
  · split at h
    · unfold afterM at h
      repeat' split at h
      all_goals first
        | (cases h; done)
        | (injection h with h; subst h; simp at hw)
    · split at h
      · split at h
        · injection h with h; subst h; simp at hw
        · cases h
      · split at h
        · exact hval m h
        · split at h
          · injection h with h; subst h; simp at hw
          · split at h
            · exact hval m h
            · split at h
              · injection h with h; subst h; simp at hw
              · cases h
/-- Which states take a byte that is neither a blank nor a sign nor a quote, outside of texts. -/
theorem step_takes {m m' : Mc} {c : Nat} (h : stepM m c = some m') (hc : stopN c = false) (h58 : c ≠ 58) (h34 : c ≠ 34) (h6 : ¬ (m.st = 6 ∨ m.st = 7 ∨ m.st = 8)) : (m.st = 0 ∨ m.st = 1) ∨ m.st = 9 ∨ 10 ≤ m.st := by
  obtain ⟨b1, b2, b3, b4⟩ := stop_parts hc
  by_cases h1 : (m.st = 0 ∨ m.st = 1) ∨ m.st = 9 ∨ 10 ≤ m.st
  · exact h1
  · exfalso
    unfold stepM at h
    rw [if_neg (by omega), if_neg (by omega), if_neg (by omega), if_neg (by omega), if_neg (by rw [b1]; simp)] at h
    split at h
    · rw [after_stop hc] at h; cases h
    · split at h
      · first | (cases h; done) | (rw [if_neg h58] at h; cases h)
      · first | (rw [if_neg (by omega), if_neg (by omega), if_neg (by omega)] at h; first | (cases h; done) | (rw [if_neg h34] at h; cases h)) | (simp [h34] at h; omega)
/-- Which states take an opening bracket, outside of texts. -/
theorem step_open {m m' : Mc} {c : Nat} (f : Fit m) (h : stepM m c = some m') (hc : c = 91 ∨ c = 123) (h6 : ¬ (m.st = 6 ∨ m.st = 7 ∨ m.st = 8)) : m.st = 0 ∨ m.st = 1 := by
  have hs : stopN c = false := by rcases hc with rfl | rfl <;> decide
  rcases step_takes h hs (by omega) (by omega) h6 with h1 | h1 | h1
  · exact h1
  · exfalso
    unfold stepM at h
    rw [if_neg (by omega), if_neg (by omega), if_neg (by omega), if_pos h1] at h
    cases hwd : m.wd with
    | nil => rw [hwd] at h; cases h
    | cons y r =>
      rw [hwd] at h
      simp only at h
      split at h
      · rename_i hy
        subst hy
        have := f.wd y (by rw [hwd]; simp)
        omega
      · cases h
  · exfalso
    have hd : digN c = false := by rcases hc with rfl | rfl <;> decide
    unfold stepM at h
    rw [if_pos h1] at h
    unfold numM at h
    rw [hd] at h
    repeat' split at h
    all_goals first
      | (cases h; done)
      | omega
      | (rename_i k; cases k; done)
      | (rename_i k; exact absurd k.2 (by simp))
      | (rw [after_stop hs] at h; cases h)
/-- Which states take a quote, outside of texts, and what the text is then. -/
theorem step_quote {m m' : Mc} (f : Fit m) (h : stepM m 34 = some m') (h6 : ¬ (m.st = 6 ∨ m.st = 7 ∨ m.st = 8)) : m'.st = 6 ∧ (((m.st = 0 ∨ m.st = 1) ∧ m'.nm = false) ∨ ((m.st = 2 ∨ m.st = 3) ∧ m'.nm = true)) := by
  have hs : stopN 34 = false := by decide
  unfold stepM at h
  by_cases h10 : 10 ≤ m.st
  · exfalso
    rw [if_pos h10] at h
    unfold numM at h
    rw [show digN 34 = false by decide] at h
    repeat' split at h
    all_goals first
      | (cases h; done)
      | omega
      | (rename_i k; cases k; done)
      | (rename_i k; exact absurd k.2 (by simp))
      | (rw [after_stop hs] at h; cases h)
  rw [if_neg h10, if_neg (by omega), if_neg (by omega)] at h
  by_cases h9 : m.st = 9
  · exfalso
    rw [if_pos h9] at h
    cases hwd : m.wd with
    | nil => rw [hwd] at h; cases h
    | cons y r =>
      rw [hwd] at h
      simp only at h
      split at h
      · rename_i hy
        subst hy
        have := f.wd 34 (by rw [hwd]; simp)
        omega
      · cases h
  rw [if_neg h9, if_neg (by decide)] at h
  have hst := f.st
  have hv : ∀ m : Mc, valueM m 34 = some { m with nm := false, st := 6 } := fun m => by unfold valueM; rw [if_neg (by decide), if_neg (by decide), if_pos rfl]
  split at h
  · rw [after_stop hs] at h; cases h
  · split at h
    · rw [if_neg (by decide)] at h; cases h
    · split at h
      · rw [hv] at h
        injection h with h; subst h
        exact ⟨rfl, .inl ⟨by omega, rfl⟩⟩
      · rw [if_neg (by omega)] at h
        split at h
        · rw [hv] at h
          injection h with h; subst h
          exact ⟨rfl, .inl ⟨by omega, rfl⟩⟩
        · rw [if_pos rfl] at h
          injection h with h; subst h
          exact ⟨rfl, .inr ⟨by omega, rfl⟩⟩
end Go.Proofs.YtlckhiflhnlgpaaGreatDoor

/- The text of each value of a document is a document by itself; what begins in a document is a value, a sign or a name. -/
namespace Go.Proofs.YtlckhiflhnlgpaaGreatDoor
open Go.RowKit Go.Shelf

theorem byts_at16 {s : ByteArray} {j : Nat} (hj : j < s.size) : (byts s)[j]? = some (byteAt s j) := by rw [byts_get s j hj, byt_byteAt]
theorem doc_at {s : ByteArray} (hd : docM (byts s)) {j : Nat} (hj : j ≤ s.size) : ∃ n, takeM mc0 ((byts s).take j) = some n := by
  obtain ⟨m, e, -⟩ := hd
  exact take_prefix (e := s.size) (l := byts s) hj (by rw [byts_whole]; exact e)
theorem doc_step {s : ByteArray} {j : Nat} {n k : Mc} (hj : j < s.size) (hn : takeM mc0 ((byts s).take j) = some n) (hk : takeM mc0 ((byts s).take (j + 1)) = some k) : stepM n (byteAt s j) = some k := by
  obtain ⟨q, hq, hs⟩ := take_one hk (byts_at16 hj)
  rw [hn] at hq
  injection hq with hq
  subst hq
  exact hs
theorem doc_next {s : ByteArray} (hd : docM (byts s)) {j : Nat} {n : Mc} (hj : j < s.size) (hn : takeM mc0 ((byts s).take j) = some n) : ∃ k, takeM mc0 ((byts s).take (j + 1)) = some k ∧ stepM n (byteAt s j) = some k := by
  obtain ⟨k, hk⟩ := doc_at hd (j := j + 1) (by omega)
  exact ⟨k, hk, doc_step hj hn hk⟩
theorem doc_end {s : ByteArray} (hd : docM (byts s)) {n : Mc} (hn : takeM mc0 ((byts s).take s.size) = some n) : n.st = 5 ∨ n.st = 11 ∨ n.st = 12 ∨ n.st = 14 ∨ n.st = 17 := by
  obtain ⟨m, e, h⟩ := hd
  rw [byts_whole, e] at hn
  injection hn with hn
  subst hn
  exact (whole_parts h).2
theorem mark_quote {s : ByteArray} {a : Nat} (h : markS s a = true) : byteAt s a = 34 := by
  unfold markS at h
  rw [Bool.and_eq_true] at h
  have h1 := h.1
  unfold quoB at h1
  exact of_decide_eq_true h1
theorem mark_not {s : ByteArray} {a : Nat} (h : byteAt s a ≠ 34) : markS s a = false := by
  cases hm : markS s a with
  | false => rfl
  | true => exact absurd (mark_quote hm) h
/-- Ahead of a place outside the machine is in no text. -/
theorem out_st {s : ByteArray} {a : Nat} {n : Mc} (ho : outS s a = true) (hn : takeM mc0 ((byts s).take a) = some n) : a < s.size ∧ markS s a = false ∧ inS s a = false ∧ ¬ (n.st = 6 ∨ n.st = 7 ∨ n.st = 8) := by
  unfold outS at ho
  simp only [Bool.and_eq_true, Bool.not_eq_true', decide_eq_true_eq] at ho
  obtain ⟨h0, h1, h2⟩ := ho
  refine ⟨h0, h1, h2, ?_⟩
  obtain ⟨-, t2, -⟩ := take_marks (isDep s) a (by omega) hn
  have h3 : oddG (markS s) (a + 1) = false := h2
  rw [oddG_succ, h1, Bool.xor_false, t2] at h3
  simpa using h3
theorem st_out {s : ByteArray} {a : Nat} {n : Mc} (ha : a < s.size) (hn : takeM mc0 ((byts s).take a) = some n) (h6 : ¬ (n.st = 6 ∨ n.st = 7 ∨ n.st = 8)) (hq : byteAt s a ≠ 34) : outS s a = true := by
  obtain ⟨-, t2, -⟩ := take_marks (isDep s) a (by omega) hn
  have hm := mark_not hq
  have h3 : oddG (markS s) (a + 1) = false := by
    rw [oddG_succ, hm, Bool.xor_false, t2]
    simpa using h6
  unfold outS
  rw [decide_eq_true ha, hm, show inS s a = false from h3]
  rfl
/-- Within a text. -/
theorem text_run {s : ByteArray} (hd : docM (byts s)) {a e : Nat} {n1 : Mc} (he : e < s.size) (hin : inS s a = true) (hno : ∀ q, a < q → q < e → markS s q = false) (h1 : takeM mc0 ((byts s).take (a + 1)) = some n1) :
    ∀ j n, a < j → j ≤ e → takeM mc0 ((byts s).take j) = some n → (n.st = 6 ∨ n.st = 7 ∨ n.st = 8) ∧ n.nm = n1.nm := by
  have hst : ∀ j n, a < j → j ≤ e → takeM mc0 ((byts s).take j) = some n → (n.st = 6 ∨ n.st = 7 ∨ n.st = 8) := fun j n j1 j2 hn => by
    obtain ⟨-, t2, -⟩ := take_marks (isDep s) j (by omega) hn
    have h := oddG_same (G := markS s) (a := a + 1) (b := j) (by omega) (fun i i1 i2 => hno i (by omega) (by omega))
    rw [show oddG (markS s) (a + 1) = true from hin, t2] at h
    exact of_decide_eq_true h
  intro j
  induction j with
  | zero => intro n h; omega
  | succ j ih =>
    intro n j1 j2 hn
    refine ⟨hst _ _ j1 j2 hn, ?_⟩
    by_cases e1 : j = a
    · subst e1
      rw [h1] at hn
      injection hn with hn
      subst hn
      rfl
    · obtain ⟨q, hq⟩ := doc_at hd (j := j) (by omega)
      obtain ⟨g1, g2⟩ := ih q (by omega) (by omega) hq
      rw [(step_nm g1 (doc_step (by omega) hq hn)).1, g2]
/-- Behind a text. -/
theorem text_end {s : ByteArray} (hd : docM (byts s)) {a e : Nat} {n1 k : Mc} (hae : a < e) (he : e < s.size) (hin : inS s a = true) (hno : ∀ q, a < q → q < e → markS s q = false) (hm : markS s e = true) (h1 : takeM mc0 ((byts s).take (a + 1)) = some n1) (hk : takeM mc0 ((byts s).take (e + 1)) = some k) :
    k.st = if n1.nm = true then 4 else 5 := by
  obtain ⟨n, hn⟩ := doc_at hd (j := e) (by omega)
  obtain ⟨g1, g2⟩ := text_run hd he hin hno h1 e n hae (Nat.le_refl _) hn
  obtain ⟨-, t2, -⟩ := take_marks (isDep s) e (by omega) hn
  obtain ⟨-, u2, -⟩ := take_marks (isDep s) (e + 1) (by omega) hk
  rw [oddG_succ, hm, t2, decide_eq_true g1] at u2
  have h6 : ¬ (k.st = 6 ∨ k.st = 7 ∨ k.st = 8) := by simpa using u2.symm
  rw [(step_nm g1 (doc_step he hn hk)).2 h6, g2]
/-- Behind a name blanks and a colon stand. -/
theorem name_colon {s : ByteArray} (hd : docM (byts s)) {E k : Nat} {n : Mc} (hn : takeM mc0 ((byts s).take E) = some n) (h4 : n.st = 4) (hk : IsSkip s E k) : k < s.size ∧ byteAt s k = 58 ∧ ∀ j q, E ≤ j → j ≤ k → takeM mc0 ((byts s).take j) = some q → q.st = 4 := by
  obtain ⟨k1, k2, k3, k4⟩ := hk
  have hbl : ∀ j q, E ≤ j → j ≤ k → takeM mc0 ((byts s).take j) = some q → q.st = 4 := by
    intro j
    induction j with
    | zero =>
      intro q j1 j2 hq
      obtain rfl : E = 0 := by omega
      rw [hn] at hq
      injection hq with hq
      subst hq
      exact h4
    | succ j ih =>
      intro q j1 j2 hq
      by_cases e : E = j + 1
      · subst e
        rw [hn] at hq
        injection hq with hq
        subst hq
        exact h4
      · obtain ⟨p, hp⟩ := doc_at hd (j := j) (by omega)
        have hp4 := ih p (by omega) (by omega) hp
        have hs := doc_step (by omega) hp hq
        unfold stepM at hs
        rw [if_neg (by omega), if_neg (by omega), if_neg (by omega), if_neg (by omega), if_pos (k3 j (by omega) (by omega))] at hs
        injection hs with hs
        subst hs
        exact hp4
  obtain ⟨q, hq⟩ := doc_at hd k2
  have hq4 := hbl k q k1 (Nat.le_refl _) hq
  by_cases e : k = s.size
  · subst e
    have := doc_end hd hq
    omega
  · have hlt : k < s.size := by omega
    refine ⟨hlt, ?_, hbl⟩
    obtain ⟨p, -, hs⟩ := doc_next hd hlt hq
    have hb : blankN (byteAt s k) = false := by rcases k4 with h | h; exact absurd h e; exact h
    unfold stepM at hs
    rw [if_neg (by omega), if_neg (by omega), if_neg (by omega), if_neg (by omega), if_neg (by rw [hb]; simp), if_neg (by omega), if_pos (by omega)] at hs
    split at hs
    · rename_i h; exact h
    · cases hs
theorem begC_parts {s : ByteArray} {a : Nat} (h : begC s a = true) : outS s a = true ∧ byteAt s a ≠ 58 ∧ byteAt s a ≠ 44 ∧ clB (byteAt s a) = false ∧ (opB (byteAt s a) = true ∨ a = 0 ∨ outS s (a - 1) = false ∨ blankN (byteAt s (a - 1)) = true ∨ byteAt s (a - 1) = 58 ∨ byteAt s (a - 1) = 44 ∨ byteAt s (a - 1) = 91) := by
  unfold begC at h
  split at h
  · cases h
  · rename_i h1
    have h1a : outS s a = true := by cases ho : outS s a with | true => rfl | false => exact absurd (.inl ho) h1
    have h1d : clB (byteAt s a) = false := by cases ho : clB (byteAt s a) with | false => rfl | true => exact absurd (.inr (.inr (.inr ho))) h1
    refine ⟨h1a, fun e => h1 (.inr (.inl e)), fun e => h1 (.inr (.inr (.inl e))), h1d, ?_⟩
    split at h
    · rename_i h2
      rcases h2 with h2 | h2 | h2
      · exact .inl h2
      · exact .inr (.inl h2)
      · exact .inr (.inr (.inl h2))
    · simp only [Bool.or_eq_true, beq_iff_eq] at h
      rcases h with h | h | h | h
      · exact .inr (.inr (.inr (.inl h)))
      · exact .inr (.inr (.inr (.inr (.inl h))))
      · exact .inr (.inr (.inr (.inr (.inr (.inl h)))))
      · exact .inr (.inr (.inr (.inr (.inr (.inr h)))))
theorem stop_of {c : Nat} (hb : blankN c = false) (h44 : c ≠ 44) (hc : clB c = false) : stopN c = false := by
  unfold clB at hc
  simp only [Bool.or_eq_false_iff, beq_eq_false_iff_ne] at hc
  unfold stopN
  rw [hb, Bool.false_or, Bool.or_eq_false_iff, Bool.or_eq_false_iff]
  exact ⟨by simpa using h44, by simpa using hc.2, by simpa using hc.1⟩
/-- Where a value begins the machine awaits one. -/
theorem beg_state {s : ByteArray} (hd : docM (byts s)) {a : Nat} (ha : a < s.size) (hb : IsBeg s a true) {n : Mc} (hn : takeM mc0 ((byts s).take a) = some n) : n.st = 0 ∨ n.st = 1 := by
  obtain ⟨k, hk, hs⟩ := doc_next hd ha hn
  have f := take_fit fit0 hn
  obtain ⟨t1, t2, t3⟩ := take_marks (isDep s) a (by omega) hn
  rcases hb with ⟨-, h⟩ | ⟨b1, b2, b3, E, kk, c1, c2, c3⟩ | ⟨b1, b2, b3⟩
  · cases h
  · have hodd : oddG (markS s) a = false := by
      have h : oddG (markS s) (a + 1) = true := b3
      rw [oddG_succ, b2] at h
      simpa using h
    have h6 : ¬ (n.st = 6 ∨ n.st = 7 ∨ n.st = 8) := by
      rw [hodd] at t2
      simpa using t2.symm
    have hq : byteAt s a = 34 := mark_quote b2
    rw [hq] at hs
    obtain ⟨q1, q2⟩ := step_quote f hs h6
    rcases q2 with ⟨h, -⟩ | ⟨h, hnm⟩
    · exact h
    · exfalso
      rcases c1 with ⟨o, -⟩ | ⟨-, -, e, e1, e2, e3, e4, e5⟩ | ⟨-, o, -⟩
      · rw [hq] at o
        revert o
        decide
      · obtain ⟨k2, hk2⟩ := doc_at hd (j := e + 1) (by omega)
        have h4 := text_end hd e1 e2 b3 e4 e3 hk hk2
        rw [if_pos hnm] at h4
        obtain rfl : E = e + 1 := by omega
        obtain ⟨g1, g2, -⟩ := name_colon hd hk2 h4 c2
        rw [decide_eq_false (by omega), g2] at c3
        simp at c3
      · exact o hq
  · obtain ⟨g1, g2, g3, g4, g5⟩ := begC_parts b3.symm
    obtain ⟨-, h1, h2, h6⟩ := out_st g1 hn
    have hq : byteAt s a ≠ 34 := fun e => quote_mark hd ha e g1
    have hst := stop_of b1 g3 g4
    rcases step_takes hs hst g2 hq h6 with h | h
    · exact h
    · exfalso
      rcases g5 with g5 | g5 | g5
      · have := step_open f hs (by unfold opB at g5; simp only [Bool.or_eq_true, beq_iff_eq] at g5; omega) h6
        omega
      · subst g5
        simp only [List.take_zero, takeM] at hn
        injection hn with hn
        subst hn
        simp [mc0] at h
      · have ha0 : a ≠ 0 := fun e => by
          subst e
          simp only [List.take_zero, takeM] at hn
          injection hn with hn
          subst hn
          simp [mc0] at h
        obtain ⟨p, hp⟩ := doc_at hd (j := a - 1) (by omega)
        have hsp : stepM p (byteAt s (a - 1)) = some n := doc_step (by omega) hp (by rw [show a - 1 + 1 = a by omega]; exact hn)
        obtain ⟨w1, w2, w3, w4, w5, w6⟩ := step_word (take_fit fit0 hp) hsp h
        obtain ⟨v1, v2, -, -⟩ := stop_parts w1
        rcases g5 with g5 | g5 | g5 | g5 | g5
        · rw [st_out (by omega) hp w6 w5] at g5
          cases g5
        · rw [v1] at g5; cases g5
        · exact w2 g5
        · exact v2 g5
        · exact w3 g5
theorem blk_eq (s : ByteArray) (i : Nat) : blkB s i = blankN (byteAt s i) := by
  unfold blkB blankN
  by_cases h : byteAt s i = 32 ∨ byteAt s i = 9 ∨ byteAt s i = 10 ∨ byteAt s i = 13
  · rw [decide_eq_true h]
    simp only [Bool.or_eq_true, beq_iff_eq]
    omega
  · rw [decide_eq_false h]
    simp only [Bool.or_eq_false_iff, beq_eq_false_iff_ne]
    omega
theorem sgn_iff (s : ByteArray) (i : Nat) : sgnB s i = true ↔ (byteAt s i = 123 ∨ byteAt s i = 125 ∨ byteAt s i = 91 ∨ byteAt s i = 93 ∨ byteAt s i = 58 ∨ byteAt s i = 44) := by
  unfold sgnB
  simp only [Bool.or_eq_true, beq_iff_eq]
  omega
theorem word_no {s : ByteArray} {i : Nat} (h : outS s i = false ∨ blankN (byteAt s i) = true ∨ sgnB s i = true) : wordS s i = false := by
  unfold wordS
  rcases h with h | h | h
  · rw [h]; rfl
  · rw [blk_eq, h]; simp
  · rw [h]; simp
/-- Where a value begins something begins. -/
theorem beg_index {s : ByteArray} {a : Nat} (hb : IsBeg s a true) : begS s a = true := by
  rcases hb with ⟨-, h⟩ | ⟨b1, b2, b3, -⟩ | ⟨b1, b2, b3⟩
  · cases h
  · unfold begS
    rw [b2, b3]
    simp
  · obtain ⟨g1, g2, g3, g4, g5⟩ := begC_parts b3.symm
    unfold begS strS
    cases hs : sgnB s a with
    | true => rw [g1]; rfl
    | false =>
      have hw : wordS s a = true := by
        unfold wordS
        rw [g1, hs, blk_eq, b1]
        rfl
      rw [hw]
      by_cases ha0 : a = 0
      · subst ha0; simp
      · have hp : wordS s (a - 1) = false := by
          refine word_no ?_
          rcases g5 with g5 | g5 | g5 | g5 | g5
          · exfalso
            have : sgnB s a = true := (sgn_iff s a).2 (by unfold opB at g5; simp only [Bool.or_eq_true, beq_iff_eq] at g5; omega)
            rw [hs] at this
            cases this
          · exact absurd g5 ha0
          · exact .inl g5
          · exact .inr (.inl g5)
          · exact .inr (.inr ((sgn_iff s (a - 1)).2 (by omega)))
        rw [hp]
        simp
theorem step_sign {m m' : Mc} {c : Nat} (f : Fit m) (h : stepM m c = some m') (hc : c = 93 ∨ c = 125 ∨ c = 123) (h6 : ¬ (m.st = 6 ∨ m.st = 7 ∨ m.st = 8)) : m'.st = 5 ∨ (c = 123 ∧ m'.st = 2) := by
  by_cases h123 : c = 123
  · have h1 := step_open f h (.inr h123) h6
    have h2 := first_step h1 (by subst h123; decide) (by omega) h
    subst h123
    unfold valueM at h2
    rw [if_neg (by decide), if_pos rfl] at h2
    injection h2 with h2
    subst h2
    exact .inr ⟨rfl, rfl⟩
  · have hd : digN c = false := by unfold digN; rw [decide_eq_false_iff_not]; omega
    have hbl : blankN c = false := by unfold blankN; rw [decide_eq_false_iff_not]; omega
    have haf : ∀ m : Mc, afterM m c = some m' → m'.st = 5 := fun m h => by
      unfold afterM at h
      rw [if_neg (by rw [hbl]; simp), if_neg (by omega), if_neg (by omega)] at h
      split at h
      · injection h with h; subst h; rfl
      · cases h
    have hva : ∀ m : Mc, valueM m c ≠ some m' := fun m h => by
      unfold valueM at h
      rw [hd] at h
      rw [if_neg (by omega), if_neg (by omega), if_neg (by omega), if_neg (by omega), if_neg (by omega), if_neg (by simp), if_neg (by omega), if_neg (by omega), if_neg (by omega)] at h
      cases h
    left
    unfold stepM at h
    by_cases h10 : 10 ≤ m.st
    · rw [if_pos h10] at h
      unfold numM at h
      rw [hd] at h
      repeat' split at h
      all_goals first
        | (cases h; done)
        | omega
        | (rename_i k; cases k; done)
        | (rename_i k; exact absurd k.2 (by simp))
        | exact haf m h
    rw [if_neg h10, if_neg (by omega), if_neg (by omega)] at h
    by_cases h9 : m.st = 9
    · exfalso
      rw [if_pos h9] at h
      cases hwd : m.wd with
      | nil => rw [hwd] at h; cases h
      | cons y r =>
        rw [hwd] at h
        simp only at h
        split at h
        · rename_i hy
          subst hy
          have := f.wd y (by rw [hwd]; simp)
          omega
        · cases h
    rw [if_neg h9, if_neg (by rw [hbl]; simp)] at h
    by_cases h5 : m.st = 5
    · rw [if_pos h5] at h
      exact haf m h
    rw [if_neg h5] at h
    by_cases h4 : m.st = 4
    · rw [if_pos h4, if_neg (by omega)] at h
      cases h
    rw [if_neg h4] at h
    by_cases h0 : m.st = 0
    · rw [if_pos h0] at h
      exact absurd h (hva m)
    rw [if_neg h0] at h
    by_cases h1 : (m.st = 1 ∧ c = 93) ∨ (m.st = 2 ∧ c = 125)
    · rw [if_pos h1] at h
      injection h with h; subst h; rfl
    rw [if_neg h1] at h
    by_cases h2 : m.st = 1
    · rw [if_pos h2] at h
      exact absurd h (hva m)
    rw [if_neg h2, if_neg (by omega)] at h
    cases h
/-- What begins and is no value is a sign or a name, and behind a name what begins next is a colon. -/
theorem index_not {s : ByteArray} (hd : docM (byts s)) {a : Nat} (ha : a < s.size) (hi : begS s a = true) (hb : IsBeg s a false) :
    (byteAt s a = 58 ∨ byteAt s a = 44 ∨ byteAt s a = 93 ∨ byteAt s a = 125 ∨ byteAt s a = 34) ∧
      (byteAt s a = 34 → ∃ k, a < k ∧ k < s.size ∧ byteAt s k = 58 ∧ begS s k = true ∧ ∀ q, a < q → q < k → begS s q = false) := by
  obtain ⟨n, hn⟩ := doc_at hd (j := a) (by omega)
  obtain ⟨k, hk, hs⟩ := doc_next hd ha hn
  have f := take_fit fit0 hn
  have hcases : strS s a = true ∨ (markS s a = true ∧ inS s a = true) ∨ (wordS s a = true ∧ (0 < a → wordS s (a - 1) = false)) := by
    unfold begS at hi
    simp only [Bool.or_eq_true, Bool.and_eq_true, Bool.not_eq_true', Bool.and_eq_false_iff, decide_eq_false_iff_not] at hi
    rcases hi with h | h | ⟨h, g⟩
    · exact .inl h
    · exact .inr (.inl h)
    · exact .inr (.inr ⟨h, fun h0 => by rcases g with g | g; exact absurd h0 g; exact g⟩)
  have hquo : byteAt s a = 34 → markS s a = true ∧ inS s a = true := fun e => by
    rcases hcases with h | h | ⟨h, -⟩
    · unfold strS at h
      rw [Bool.and_eq_true] at h
      exact absurd h.1 (fun g => quote_mark hd ha e g)
    · exact h
    · unfold wordS at h
      rw [Bool.and_eq_true] at h
      exact absurd h.1 (fun g => quote_mark hd ha e g)
  rcases hb with ⟨b1, -⟩ | ⟨b1, b2, b3, E, kk, c1, c2, c3⟩ | ⟨b1, b2, b3⟩
  · exfalso
    rcases hcases with h | h | ⟨h, -⟩
    · unfold strS at h
      rw [Bool.and_eq_true] at h
      have := sgn_blk s a h.2
      rw [blk_eq, b1] at this
      cases this
    · rw [mark_quote h.1] at b1
      revert b1
      decide
    · rw [word_no (.inr (.inl b1))] at h
      cases h
  · have hq : byteAt s a = 34 := mark_quote b2
    refine ⟨by omega, fun _ => ?_⟩
    have c4 := c3.symm
    rw [Bool.or_eq_false_iff, decide_eq_false_iff_not, decide_eq_false_iff_not] at c4
    have h58 : byteAt s kk = 58 := Decidable.not_not.1 c4.2
    obtain ⟨k1, k2, k3, k4⟩ := c2
    rcases c1 with ⟨o, -⟩ | ⟨-, -, e, e1, e2, e3, e4, e5⟩ | ⟨-, o, -⟩
    · rw [hq] at o
      exact absurd o (by decide)
    · obtain rfl : E = e + 1 := by omega
      have hodd1 : oddG (markS s) (a + 1) = true := b3
      have hin : ∀ q, a ≤ q → q < e → inS s q = true := fun q q1 q2 => by
        have := oddG_same (G := markS s) (a := a + 1) (b := q + 1) (by omega) (fun i i1 i2 => e4 i (by omega) (by omega))
        show oddG (markS s) (q + 1) = true
        rw [this]; exact hodd1
      have hend : oddG (markS s) (e + 1) = false := by
        have := oddG_same (G := markS s) (a := a + 1) (b := e) (by omega) (fun i i1 i2 => e4 i (by omega) (by omega))
        rw [oddG_succ, e3, this, hodd1]
        rfl
      have hbn : ∀ q, e < q → q < kk → blankN (byteAt s q) = true := fun q q1 q2 => k3 q (by omega) q2
      have hout : ∀ q, e < q → q ≤ kk → q < s.size → outS s q = true := fun q q1 q2 q3 => by
        have hm : ∀ i, e < i → i ≤ kk → markS s i = false := fun i i1 i2 => by
          refine mark_not fun hh => ?_
          by_cases e6 : i = kk
          · subst e6; omega
          · have := hbn i i1 (by omega)
            rw [hh] at this
            revert this
            decide
        have h := oddG_same (G := markS s) (a := e + 1) (b := q + 1) (by omega) (fun i i1 i2 => hm i (by omega) (by omega))
        unfold outS
        rw [decide_eq_true q3, hm q q1 q2, show inS s q = false from h.trans hend]
        rfl
      have hklt : kk < s.size := by omega
      refine ⟨kk, by omega, hklt, h58, ?_, fun q q1 q2 => ?_⟩
      · unfold begS strS
        rw [hout kk (by omega) (Nat.le_refl _) hklt, (sgn_iff s kk).2 (by omega)]
        rfl
      · unfold begS strS
        rcases Nat.lt_trichotomy q e with h | h | h
        · have hi2 := hin q (by omega) h
          have ho : outS s q = false := by unfold outS; rw [hi2]; simp
          rw [ho, e4 q q1 h, word_no (.inl ho)]
          rfl
        · subst h
          have ho : outS s q = false := by unfold outS; rw [e3]; simp
          rw [ho, show inS s q = false from hend, word_no (.inl ho)]
          simp
        · have hb2 := hbn q h q2
          have hm : markS s q = false := mark_not fun hh => by
            rw [hh] at hb2
            revert hb2
            decide
          have hsg : sgnB s q = false := by
            cases hx : sgnB s q with
            | false => rfl
            | true =>
              have := sgn_blk s q hx
              rw [blk_eq, hb2] at this
              cases this
          rw [hsg, hm, word_no (.inr (.inl hb2))]
          simp
    · exact absurd hq o
  · have hno34 : byteAt s a ≠ 34 := fun e => by
      have := hquo e
      rw [this.1, this.2] at b2
      cases b2
    refine ⟨?_, fun e => absurd e hno34⟩
    have hout : outS s a = true := by
      rcases hcases with h | h | ⟨h, -⟩
      · unfold strS at h; rw [Bool.and_eq_true] at h; exact h.1
      · exact absurd (mark_quote h.1) hno34
      · unfold wordS at h; rw [Bool.and_eq_true] at h; exact h.1
    by_cases hin : byteAt s a = 58 ∨ byteAt s a = 44 ∨ clB (byteAt s a) = true
    · unfold clB at hin
      simp only [Bool.or_eq_true, beq_iff_eq] at hin
      omega
    · exfalso
      have hcl : clB (byteAt s a) = false := by cases hx : clB (byteAt s a) with | false => rfl | true => exact absurd (.inr (.inr hx)) hin
      have hbf := b3.symm
      unfold begC at hbf
      rw [if_neg (by rintro (h | h | h | h); rw [hout] at h; cases h; exact hin (.inl h); exact hin (.inr (.inl h)); exact hin (.inr (.inr h)))] at hbf
      split at hbf
      · cases hbf
      · rename_i h2
        have ho2 : opB (byteAt s a) = false := by cases hx : opB (byteAt s a) with | false => rfl | true => exact absurd (.inl hx) h2
        have ha0 : a ≠ 0 := fun e => h2 (.inr (.inl e))
        have hop : outS s (a - 1) = true := by cases hx : outS s (a - 1) with | true => rfl | false => exact absurd (.inr (.inr hx)) h2
        simp only [Bool.or_eq_false_iff, beq_eq_false_iff_ne] at hbf
        obtain ⟨v1, v2, v3, v4⟩ := hbf
        have hnsg : sgnB s a = false := by
          cases hx : sgnB s a with
          | false => rfl
          | true =>
            exfalso
            have h1 := (sgn_iff s a).1 hx
            unfold opB at ho2
            unfold clB at hcl
            simp only [Bool.or_eq_false_iff, beq_eq_false_iff_ne] at ho2 hcl
            have h3 : ¬ (byteAt s a = 58) := fun e => hin (.inl e)
            have h4 : ¬ (byteAt s a = 44) := fun e => hin (.inr (.inl e))
            omega
        have hw : wordS s (a - 1) = false := by
          rcases hcases with h | h | ⟨-, h⟩
          · unfold strS at h; rw [hnsg] at h; simp at h
          · exact absurd (mark_quote h.1) hno34
          · exact h (by omega)
        have hsp : sgnB s (a - 1) = true := by
          unfold wordS at hw
          rw [hop, blk_eq, v1] at hw
          simpa using hw
        have hp93 : byteAt s (a - 1) = 93 ∨ byteAt s (a - 1) = 125 ∨ byteAt s (a - 1) = 123 := by
          have := (sgn_iff s (a - 1)).1 hsp
          omega
        obtain ⟨p, hp⟩ := doc_at hd (j := a - 1) (by omega)
        have hstp : stepM p (byteAt s (a - 1)) = some n := doc_step (by omega) hp (by rw [show a - 1 + 1 = a by omega]; exact hn)
        obtain ⟨-, -, -, p6⟩ := out_st hop hp
        have h52 := step_sign (take_fit fit0 hp) hstp hp93 p6
        obtain ⟨-, -, -, n6⟩ := out_st hout hn
        have hst := stop_of b1 (fun e => hin (.inr (.inl e))) hcl
        rcases step_takes hs hst (fun e => hin (.inl e)) hno34 n6 with h | h <;> omega
end Go.Proofs.YtlckhiflhnlgpaaGreatDoor

/- The text of each value of a document is a document by itself. -/
namespace Go.Proofs.YtlckhiflhnlgpaaGreatDoor
open Go.RowKit Go.Shelf

theorem stop_eq (c : Nat) : stopB c = stopN c := rfl
end Go.Proofs.YtlckhiflhnlgpaaGreatDoor
