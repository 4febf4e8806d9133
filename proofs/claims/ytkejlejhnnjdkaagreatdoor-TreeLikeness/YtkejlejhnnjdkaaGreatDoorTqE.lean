/-
 Where a text ends: the quote that End tells.
-/
import Derived.Test.YtkejlejhnnjdkaaGreatDoorPack6
import Derived.Test.YtkejlejhnnjdkaaGreatDoorRefTx5
import Derived.Test.YtkejlejhnnjdkaaGreatDoorPack1
namespace Go.Proofs.YtkejlejhnnjdkaaGreatDoor
theorem bAt_byte (s : ByteArray) (i : Nat) : bAt s i = byteAt s i := rfl
theorem slash_from (s : ByteArray) (p i : Nat) : slash (s.extract p s.size) i = decide (byteAt s (p + i) = 92) := by
 have h := bAt_from s p i
 unfold slash
 have e : ((s.extract p s.size).data[i]?.getD 0).toNat = byteAt s (p + i) := h
 rw [e]
theorem qe_esc {s : ByteArray} {p q e : Nat} (h : QE s q e) : p ≤ q → escG (slash (s.extract p s.size)) false (q - p) = false →
  escG (slash (s.extract p s.size)) false (e - p) = false ∧ ∀ j, q ≤ j → j < e → ¬ (byteAt s j = 34 ∧ escG (slash (s.extract p s.size)) false (j - p) = false) := by
 induction h with
 | stop q hq hc => exact fun _ h => ⟨h, fun j a b => by omega⟩
 | esc q e hq hc hn ih =>
  intro hp h
  have s1 : slash (s.extract p s.size) (q - p) = true := by rw [slash_from, show p + (q - p) = q by omega, hc]; rfl
  have e1 : escG (slash (s.extract p s.size)) false (q + 1 - p) = true := by
   rw [show q + 1 - p = (q - p) + 1 by omega, escG_succ, s1, h]; rfl
  have e2 : escG (slash (s.extract p s.size)) false (q + 2 - p) = false := by
   rw [show q + 2 - p = (q + 1 - p) + 1 by omega, escG_succ, e1]; simp
  obtain ⟨g1, g2⟩ := ih (by omega) e2
  refine ⟨g1, fun j a b => ?_⟩
  by_cases j0 : j = q
  ·subst j0; exact fun x => by have := x.1; omega
  by_cases j1 : j = q + 1
  ·subst j1; exact fun x => by have := x.2; rw [e1] at this; cases this
  ·exact g2 j (by omega) b
 | step q e hq h1 h2 hn ih =>
  intro hp h
  have s1 : slash (s.extract p s.size) (q - p) = false := by rw [slash_from, show p + (q - p) = q by omega]; exact decide_eq_false h2
  have e1 : escG (slash (s.extract p s.size)) false (q + 1 - p) = false := by
   rw [show q + 1 - p = (q - p) + 1 by omega, escG_succ, s1]; rfl
  obtain ⟨g1, g2⟩ := ih (by omega) e1
  refine ⟨g1, fun j a b => ?_⟩
  by_cases j0 : j = q
  ·subst j0; exact fun x => h1 x.1
  ·exact g2 j (by omega) b
theorem qe_quote {s : ByteArray} {q e : Nat} (h : QE s q e) : byteAt s e = 34 := by
 induction h with
 | stop q hq hc => exact hc
 | esc q e hq hc hn ih => exact ih
 | step q e hq h1 h2 hn ih => exact ih
theorem qe_isend {s : ByteArray} {p e : Nat} (h : QE s p e) {n E : Int} (hE : IsEnd s (p : Int) n E) : n = (e : Int) ∧ E = 0 := by
 have hle := h.le
 obtain ⟨g1, g2⟩ := qe_esc (p := p) h (Nat.le_refl _) (by rw [Nat.sub_self]; rfl)
 have h34 := qe_quote h
 rcases hE with ⟨hx, -⟩ | ⟨k, hk, hks, hh⟩
 ·omega
 ·have : k = p := by omega
  subst this
  rcases hh with ⟨i, hi, hb, he, hno, hn, hE⟩ | ⟨hno, -⟩
  ·have hie : i = e - k := by
    rcases Nat.lt_trichotomy i (e - k) with x | x | x
    ·exfalso
     exact g2 (k + i) (by omega) (by omega) ⟨hb, by rw [show k + i - k = i by omega]; exact he⟩
    ·exact x
    ·exfalso
     exact hno (e - k) x ⟨by rw [bAt_byte, show k + (e - k) = e by omega]; exact h34, g1⟩
   refine ⟨?_, hE⟩
   rw [hn, hie, show k + (e - k) = e by omega]
  ·exfalso
   exact hno (e - k) (by omega) ⟨by rw [bAt_byte, show k + (e - k) = e by omega]; exact h34, g1⟩
end Go.Proofs.YtkejlejhnnjdkaaGreatDoor
