/-
  What the reference's scan answers.
-/
import Derived.Test.YtheeonlfbnkhgaaDoorRefRead
namespace Go.Proofs.YtheeonlfbnkhgaaDoor
open Go.RowKit Go.Shelf

section
variable {w0 : World} {n : Bool} {t1 t2 t3 : ByteArray} {w : World}
end
/-- The exponent with its sign. -/
def scEx (s : ByteArray) (p : Nat) : ByteArray := if scX s p then s.extract (scC s p + 1) (scH s p) else ⟨#[]⟩
/-- What the reference's scan tells. -/
def RsT (s : ByteArray) (p : Nat) (n : Bool) (t1 t2 t3 : ByteArray) (en : Nat) (ok : Bool) : Prop :=
  en = (scanS s p).2 ∧ (ok = false → (scanS s p).1 = none) ∧ (ok = true → ∃ N, (scanS s p).1 = some N ∧ n = N.neg ∧ t1 = N.wh ∧ t2 = N.be ∧ t3 = scEx s p)
theorem RsT.no {s : ByteArray} {p : Nat} {n : Bool} {t1 t2 t3 : ByteArray} {en : Nat} (h : scanS s p = (none, en)) : RsT s p n t1 t2 t3 en false := by
  exact ⟨by rw [h], (fun _ => by rw [h]), (fun h => by cases h)⟩
theorem RsT.yes {s : ByteArray} {p : Nat} (h1 : dgB (lk s (scA s p)) = true) (h2 : ¬ (lk s (scB s p) = 46 ∧ dgB (lk s (scB s p + 1)) = false)) (h3 : ¬ (scX s p = true ∧ dgB (lk s (scF s p)) = false)) :
    RsT s p (scNeg s p) (s.extract (scA s p) (scB s p)) (scBe s p) (scEx s p) (scH s p) true := by
  have h : scanS s p = (some ⟨scNeg s p, s.extract (scA s p) (scB s p), scBe s p, scDn s p, scPw s p⟩, scH s p) := by
    rw [scanS, if_neg (by rw [h1]; decide), if_neg h2, if_neg h3]
  exact ⟨by rw [h], (fun h => by cases h), fun _ => ⟨_, by rw [h], rfl, rfl, rfl, rfl⟩⟩

end Go.Proofs.YtheeonlfbnkhgaaDoor
