/-
 A document has a value.
-/
import Derived.Test.YtkejlejhnnjdkaaGreatDoorPack8
namespace Go.Proofs.YtkejlejhnnjdkaaGreatDoor
/-- Nothing is wrong anywhere. -/
def NoBad (s : ByteArray) : Prop := ∀ k, ¬ BadAt s k
theorem read_end_scan (s : ByteArray) (p : Nat) : (readS s p).2.1 = (scanS s p).2 := by
 unfold readS
 split
 ·rfl
 ·split <;> rfl
theorem step_in {s : ByteArray} (hb : NoBad s) {i : Nat} {m : Mc} (t : Tk s i m) (hw : wholeM m = false) : ∃ k, stepM m (byteAt s i) = some k := by
 cases h : stepM m (byteAt s i) with
 | none => exact absurd (t.fail hw h) (hb i)
 | some k => exact ⟨k, rfl⟩
/-- Within a text, at a character or a digit: it ends somewhere. -/
theorem qe_ex {s : ByteArray} (hb : NoBad s) {nm : Bool} {op : List Nat} : ∀ (n p : Nat) (m : Mc), s.size - p ≤ n → Tk s p m → (m.st = 6 ∨ m.st = 8) → m.nm = nm → m.op = op → ∃ e k, QE s p e ∧ Tk s (e + 1) k ∧ k.op = op ∧ k.st = if nm then 4 else 5 := by
 intro n
 induction n with
 | zero =>
  intro p m hn t hst hnm hop
  exfalso
  obtain ⟨k, hk⟩ := step_in hb t (whole_not (by omega) (by omega) (by omega) (by omega) (by omega))
  rw [byteAt_out s p (by omega)] at hk
  rcases hst with h | h
  ·rw [step_text h] at hk
   have hlo := t.lo h
   unfold charM at hk
   repeat' split at hk
   all_goals first | (cases hk; done) | omega
  ·rw [step_esc (.inr h)] at hk
   unfold escM at hk
   rw [if_pos h, if_neg (by decide)] at hk
   cases hk
 | succ n ih =>
  intro p m hn t hst hnm hop
  obtain ⟨k, hk⟩ := step_in hb t (whole_not (by omega) (by omega) (by omega) (by omega) (by omega))
  have hlo := t.lo
  have hp : p < s.size := by
   rcases Nat.lt_or_ge p s.size with h | h
   ·exact h
   ·exfalso
    rw [byteAt_out s p h] at hk
    rcases hst with h | h
    ·rw [step_text h] at hk
     have hlo' := hlo h
     unfold charM at hk
     repeat' split at hk
     all_goals first | (cases hk; done) | omega
    ·rw [step_esc (.inr h)] at hk
     unfold escM at hk
     rw [if_pos h, if_neg (by decide)] at hk
     cases hk
  have tk := t.next hp hk
  rcases hst with h | h
  ·by_cases h34 : byteAt s p = 34 ∧ m.lf = 0
   ·obtain ⟨k', t', o', s'⟩ := InT.done (nm := nm) (op := op) t ⟨h, h34.2, hnm, hop⟩ h34.1
    exact ⟨p, k', .stop p hp h34.1, t', o', s'⟩
   ·by_cases h92 : byteAt s p = 92 ∧ m.lf = 0
    ·obtain ⟨k', t', hE⟩ := InT.slash (nm := nm) (op := op) t ⟨h, h92.2, hnm, hop⟩ h92.1
     have hEst := hE.st
     obtain ⟨k2, hk2⟩ := step_in hb t' (whole_not (by omega) (by omega) (by omega) (by omega) (by omega))
     have hk2' := hk2
     rw [step_esc (.inl hE.st)] at hk2
     unfold escM at hk2
     rw [if_neg (by omega)] at hk2
     have hp1 : p + 1 < s.size := by
      rcases Nat.lt_or_ge (p + 1) s.size with x | x
      ·exact x
      ·exfalso
       rw [byteAt_out s _ x] at hk2
       simp at hk2
     have t2 := t'.next hp1 hk2'
     have hst2 : (k2.st = 6 ∨ k2.st = 8) ∧ k2.nm = nm ∧ k2.op = op := by
      split at hk2
      ·injection hk2 with hk2; subst hk2; exact ⟨.inl rfl, hE.nm, hE.op⟩
      ·split at hk2
       ·injection hk2 with hk2; subst hk2; exact ⟨.inr rfl, hE.nm, hE.op⟩
       ·cases hk2
     obtain ⟨e, k3, q1, q2, q3, q4⟩ := ih (p + 2) k2 (by omega) t2 hst2.1 hst2.2.1 hst2.2.2
     exact ⟨e, k3, .esc p e hp h92.1 q1, q2, q3, q4⟩
    ·have hks : k.st = 6 ∧ k.nm = nm ∧ k.op = op ∧ byteAt s p ≠ 34 ∧ byteAt s p ≠ 92 := by
      rw [step_text h] at hk
      unfold charM at hk
      have hlo' := hlo h
      by_cases hlf : 0 < m.lf
      ·rw [if_pos hlf] at hk
       split at hk
       ·cases hk
       ·rename_i hr
        injection hk with hk
        subst hk
        have := hlo' hlf
        exact ⟨h, hnm, hop, by omega, by omega⟩
      ·have n34 : byteAt s p ≠ 34 := fun e => h34 ⟨e, by omega⟩
       have n92 : byteAt s p ≠ 92 := fun e => h92 ⟨e, by omega⟩
       rw [if_neg hlf, if_neg (by omega), if_neg n34, if_neg n92] at hk
       refine ⟨?_, ?_, ?_, n34, n92⟩
       all_goals
        repeat' split at hk
        all_goals first
         | (cases hk; done)
         | (injection hk with hk; subst hk; first | exact h | exact hnm | exact hop)
     obtain ⟨e, k3, q1, q2, q3, q4⟩ := ih (p + 1) k (by omega) tk (.inl hks.1) hks.2.1 hks.2.2.1
     exact ⟨e, k3, .step p e hp hks.2.2.2.1 hks.2.2.2.2 q1, q2, q3, q4⟩
  ·rw [step_esc (.inr h)] at hk
   unfold escM at hk
   rw [if_pos h] at hk
   split at hk
   ·rename_i hx
    injection hk with hk
    have hx' := of_decide_eq_true hx
    have hks : (k.st = 6 ∨ k.st = 8) ∧ k.nm = nm ∧ k.op = op := by
     subst hk
     refine ⟨?_, hnm, hop⟩
     show (if m.lf = 1 then 6 else 8) = 6 ∨ (if m.lf = 1 then 6 else 8) = 8
     split
     ·exact .inl rfl
     ·exact .inr rfl
    obtain ⟨e, k3, q1, q2, q3, q4⟩ := ih (p + 1) k (by omega) tk hks.1 hks.2.1 hks.2.2
    exact ⟨e, k3, .step p e hp (by omega) (by omega) q1, q2, q3, q4⟩
   ·cases hk
/-- A text that is awaited. -/
theorem txt_ex {s : ByteArray} (hb : NoBad s) {nm : Bool} {i : Nat} {m : Mc} (t : Tk s i m) (h : Qw s i nm m) : ∃ T j k, Txt s i j T ∧ Tk s j k ∧ k.op = m.op ∧ k.st = if nm then 4 else 5 := by
 have hc : byteAt s i = 34 := by
  by_cases hc : byteAt s i = 34
  ·exact hc
  ·exact absurd (h.off t hc) (hb i)
 obtain ⟨k, t', hI⟩ := h.go t hc
 obtain ⟨e, k', q1, q2, q3, q4⟩ := qe_ex hb (nm := nm) (op := m.op) _ (i + 1) k (Nat.le_refl _) t' (.inl hI.st) hI.nm hI.op
 exact ⟨_, e + 1, k', ⟨hc, e, q1, rfl, rfl⟩, q2, q3, q4⟩
/-- One of the three words. -/
theorem word_ex {s : ByteArray} (hb : NoBad s) {i : Nat} {m : Mc} (t : Tk s i m) (hv : Vw s i m) {u : List Nat} (hu : IsWord u) (hc : byteAt s i = u.getD 0 0) : ∃ k, Tk s (i + u.length) k ∧ k.op = m.op ∧ k.st = 5 := by
 have key : ∀ j, j ≤ u.length → ∃ k, Tk s (i + j) k ∧ InW u j m k := by
  intro j
  induction j with
  | zero => exact fun _ => ⟨m, t, .inl ⟨rfl, rfl⟩⟩
  | succ j ih =>
   intro hj
   obtain ⟨k, t', h'⟩ := ih (by omega)
   by_cases hx : byteAt s (i + j) = u.getD j 0
   ·exact InW.go hu hv h' t' (by omega) hx
   ·exfalso
    by_cases hj0 : j = 0
    ·subst hj0; exact hx hc
    ·exact hb _ (InW.off (by omega) h' t' (by omega) hx)
 obtain ⟨k, t', h'⟩ := key u.length (Nat.le_refl _)
 obtain ⟨h1, h2⟩ := h'.done hu t'
 exact ⟨k, t', h1, h2⟩
end Go.Proofs.YtkejlejhnnjdkaaGreatDoor
