/-
 What the reference's scan answers.
-/
import Derived.Test.YtbabdhepnjacdaaDoorPack1
import Derived.WalkMore
import Derived.ScopeJumps
import Derived.Test.YtbabdhepnjacdaaDoorDecMath
import Derived.Deep.DeepCutAuto
import Derived.Test.YtbabdhepnjacdaaDoorShelfA
import Derived.Deep.RegionHeld
import Derived.Deep.Quiet
namespace Go.Proofs.YtbabdhepnjacdaaDoor
open Go.RowKit Go.Shelf
section
variable {w0 : World} {n : Bool} {t1 t2 t3 : ByteArray} {w : World}
end
/-- The exponent with its sign. -/
def scEx (s : ByteArray) (p : Nat) : ByteArray := if scX s p then s.extract (scC s p + 1) (scH s p) else ⟨#[]⟩
/-- What the reference's scan tells. -/
def RsT (s : ByteArray) (p : Nat) (n : Bool) (t1 t2 t3 : ByteArray) (en : Nat) (ok : Bool) : Prop :=
 en = (scanS s p).2 ∧ (ok = false → (scanS s p).1 = none) ∧ (ok = true → ∃ N, (scanS s p).1 = some N ∧ n = N.neg ∧ t1 = N.wh ∧ t2 = N.be ∧ t3 = scEx s p)
theorem RsT.no {s : ByteArray} {p : Nat} {n : Bool} {t1 t2 t3 : ByteArray} {en : Nat} (h : scanS s p = (none, en)) : RsT s p n t1 t2 t3 en false := by
 exact ⟨by rw [h], (fun _ => by rw [h]), (fun h => by cases h)⟩
end Go.Proofs.YtbabdhepnjacdaaDoor
