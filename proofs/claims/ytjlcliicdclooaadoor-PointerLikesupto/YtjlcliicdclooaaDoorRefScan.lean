/-
 What the reference's scan answers.
-/
import Derived.Test.YtjlcliicdclooaaDoorDecR
namespace Go.Proofs.YtjlcliicdclooaaDoor
open Go.RowKit Go.Shelf
/-- The parts in the making, and the answer's own place ahead of them. -/
def Rp (w0 : World) (n : Bool) (t1 t2 t3 : ByteArray) (w : World) : Prop := At w w0.heap.size #[.bool false, .string ⟨#[]⟩, .string ⟨#[]⟩, .string ⟨#[]⟩] 132 ∧ At w (w0.heap.size + 1) #[.bool n, .string t1, .string t2, .string t3] 132 ∧ Below w0.heap.size w0 w
section
variable {w0 : World} {n : Bool} {t1 t2 t3 : ByteArray} {w : World}
theorem Rp.new : Rp w0 false ⟨#[]⟩ ⟨#[]⟩ ⟨#[]⟩ ((w0.alloc (.cells #[.bool false, .string ⟨#[]⟩, .string ⟨#[]⟩, .string ⟨#[]⟩] 132)).alloc (.cells #[.bool false, .string ⟨#[]⟩, .string ⟨#[]⟩, .string ⟨#[]⟩] 132)) := by
 refine ⟨(At.new w0 _ _).alloc _, ?_, by repeat (first | with_reducible exact Below.refl _ _ | with_reducible refine Below.setCell ?_ (by first | (simp; done) | (simp; omega)) _ | with_reducible refine below_drewN ?_ _ | with_reducible refine Below.alloc ?_ (by first | (simp; done) | (simp; omega)) _ | with_reducible refine Below.drew ?_)⟩
 have := At.new (w0.alloc (.cells #[.bool false, .string ⟨#[]⟩, .string ⟨#[]⟩, .string ⟨#[]⟩] 132)) #[.bool false, .string ⟨#[]⟩, .string ⟨#[]⟩, .string ⟨#[]⟩] 132
 simpa using this
theorem Rp.facts (h : Rp w0 n t1 t2 t3 w) : (w.cell? ⟨w0.heap.size + 1, 0, none⟩ = some (.bool n) ∧ w.cell? ⟨w0.heap.size + 1, 1, none⟩ = some (.string t1) ∧ w.cell? ⟨w0.heap.size + 1, 2, none⟩ = some (.string t2) ∧ w.cell? ⟨w0.heap.size + 1, 3, none⟩ = some (.string t3)) ∧
  (w.frozen? ⟨w0.heap.size + 1, 0, none⟩ = false ∧ w.frozen? ⟨w0.heap.size + 1, 1, none⟩ = false ∧ w.frozen? ⟨w0.heap.size + 1, 2, none⟩ = false ∧ w.frozen? ⟨w0.heap.size + 1, 3, none⟩ = false) ∧
  (w.cell? ⟨w0.heap.size, 0, none⟩ = some (.bool false) ∧ w.cell? ⟨w0.heap.size, 1, none⟩ = some (.string ⟨#[]⟩) ∧ w.cell? ⟨w0.heap.size, 2, none⟩ = some (.string ⟨#[]⟩) ∧ w.cell? ⟨w0.heap.size, 3, none⟩ = some (.string ⟨#[]⟩)) ∧
  (w.frozen? ⟨w0.heap.size, 0, none⟩ = false ∧ w.frozen? ⟨w0.heap.size, 1, none⟩ = false ∧ w.frozen? ⟨w0.heap.size, 2, none⟩ = false ∧ w.frozen? ⟨w0.heap.size, 3, none⟩ = false) :=
 ⟨⟨h.2.1.cell 0, h.2.1.cell 1, h.2.1.cell 2, h.2.1.cell 3⟩, ⟨h.2.1.frozen 0, h.2.1.frozen 1, h.2.1.frozen 2, h.2.1.frozen 3⟩, ⟨h.1.cell 0, h.1.cell 1, h.1.cell 2, h.1.cell 3⟩, h.1.frozen 0, h.1.frozen 1, h.1.frozen 2, h.1.frozen 3⟩
theorem Rp.set0 (h : Rp w0 n t1 t2 t3 w) (n' : Bool) : Rp w0 n' t1 t2 t3 (w.setCell ⟨w0.heap.size + 1, 0, none⟩ (.bool n')) := ⟨h.1.other (by simp) _, by have := h.2.1.set 0 (.bool n'); simpa using this, h.2.2.setCell (p := ⟨w0.heap.size + 1, 0, none⟩) (Nat.le_succ _) _⟩
theorem Rp.set1 (h : Rp w0 n t1 t2 t3 w) (t' : ByteArray) : Rp w0 n t' t2 t3 (w.setCell ⟨w0.heap.size + 1, 1, none⟩ (.string t')) := ⟨h.1.other (by simp) _, by have := h.2.1.set 1 (.string t'); simpa using this, h.2.2.setCell (p := ⟨w0.heap.size + 1, 1, none⟩) (Nat.le_succ _) _⟩
theorem Rp.set2 (h : Rp w0 n t1 t2 t3 w) (t' : ByteArray) : Rp w0 n t1 t' t3 (w.setCell ⟨w0.heap.size + 1, 2, none⟩ (.string t')) := ⟨h.1.other (by simp) _, by have := h.2.1.set 2 (.string t'); simpa using this, h.2.2.setCell (p := ⟨w0.heap.size + 1, 2, none⟩) (Nat.le_succ _) _⟩
theorem Rp.set3 (h : Rp w0 n t1 t2 t3 w) (t' : ByteArray) : Rp w0 n t1 t2 t' (w.setCell ⟨w0.heap.size + 1, 3, none⟩ (.string t')) := ⟨h.1.other (by simp) _, by have := h.2.1.set 3 (.string t'); simpa using this, h.2.2.setCell (p := ⟨w0.heap.size + 1, 3, none⟩) (Nat.le_succ _) _⟩
theorem Rp.out (h : Rp w0 n t1 t2 t3 w) : At ((((w.setCell ⟨w0.heap.size, 0, none⟩ (.bool n)).setCell ⟨w0.heap.size, 1, none⟩ (.string t1)).setCell ⟨w0.heap.size, 2, none⟩ (.string t2)).setCell ⟨w0.heap.size, 3, none⟩ (.string t3)) w0.heap.size #[.bool n, .string t1, .string t2, .string t3] 132 ∧
  Below w0.heap.size w0 ((((w.setCell ⟨w0.heap.size, 0, none⟩ (.bool n)).setCell ⟨w0.heap.size, 1, none⟩ (.string t1)).setCell ⟨w0.heap.size, 2, none⟩ (.string t2)).setCell ⟨w0.heap.size, 3, none⟩ (.string t3)) := by
 constructor
 ·have := (((h.1.set 0 (.bool n)).set 1 (.string t1)).set 2 (.string t2)).set 3 (.string t3)
  simpa using this
 ·exact (((h.2.2.setCell (p := ⟨w0.heap.size, 0, none⟩) (Nat.le_refl _) _).setCell (p := ⟨w0.heap.size, 1, none⟩) (Nat.le_refl _) _).setCell (p := ⟨w0.heap.size, 2, none⟩) (Nat.le_refl _) _).setCell (p := ⟨w0.heap.size, 3, none⟩) (Nat.le_refl _) _
end
/-- The exponent with its sign. -/
def scEx (s : ByteArray) (p : Nat) : ByteArray := if scX s p then s.extract (scC s p + 1) (scH s p) else ⟨#[]⟩
/-- What the reference's scan tells. -/
def RsT (s : ByteArray) (p : Nat) (n : Bool) (t1 t2 t3 : ByteArray) (en : Nat) (ok : Bool) : Prop :=
 en = (scanS s p).2 ∧ (ok = false → (scanS s p).1 = none) ∧ (ok = true → ∃ N, (scanS s p).1 = some N ∧ n = N.neg ∧ t1 = N.wh ∧ t2 = N.be ∧ t3 = scEx s p)
theorem RsT.no {s : ByteArray} {p : Nat} {n : Bool} {t1 t2 t3 : ByteArray} {en : Nat} (h : scanS s p = (none, en)) : RsT s p n t1 t2 t3 en false := by
 exact ⟨by rw [h], (fun _ => by rw [h]), (fun h => by cases h)⟩
theorem RsT.yes {s : ByteArray} {p : Nat} (h1 : dgB (lk s (scA s p)) = true) (h2 : ¬ (lk s (scB s p) = 46 ∧ dgB (lk s (scB s p + 1)) = false)) (h3 : ¬ (scX s p = true ∧ dgB (lk s (scF s p)) = false)) :
  RsT s p (scNeg s p) (s.extract (scA s p) (scB s p)) (scBe s p) (scEx s p) (scH s p) true := by
 have h : scanS s p = (some ⟨scNeg s p, s.extract (scA s p) (scB s p), scBe s p, scDn s p, scPw s p⟩, scH s p) := by
  rw [scanS, if_neg (by rw [h1]; decide), if_neg h2, if_neg h3]
 exact ⟨by rw [h], (fun h => by cases h), fun _ => ⟨_, by rw [h], rfl, rfl, rfl, rfl⟩⟩
end Go.Proofs.YtjlcliicdclooaaDoor
