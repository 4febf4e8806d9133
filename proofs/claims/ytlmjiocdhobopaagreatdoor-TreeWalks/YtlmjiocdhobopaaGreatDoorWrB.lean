/-
 strings.Builder within write's writer: copyCheck, WriteString, WriteByte, String (by gen_wrb.py, after Bld and BldB).
-/
import Derived.Test.YtlmjiocdhobopaaGreatDoorPack2
import Derived.Laws.AppendOwn
namespace Go.Proofs.YtlmjiocdhobopaaGreatDoor
open Go.RowKit Go.Shelf
/-- What a writer's call keeps: all below it, and beyond it all that are no bytes. -/
structure WrF (m : Nat) (w w' : World) : Prop where
 low : Below m w w'
 at_ : ∀ b cs t, b ≠ m → t ≠ 5 → At w b cs t → At w' b cs t
theorem WrF.refl (m : Nat) (w : World) : WrF m w w := ⟨Below.refl _ _, fun _ _ _ _ _ h => h⟩
theorem WrF.trans {m : Nat} {x y z : World} (h : WrF m x y) (k : WrF m y z) : WrF m x z := ⟨h.low.trans k.low, fun b cs t h1 h2 h3 => k.at_ b cs t h1 h2 (h.at_ b cs t h1 h2 h3)⟩
theorem WrF.set {m : Nat} {w : World} (k : Nat) (v : Value) : WrF m w (w.setCell ⟨m, k, none⟩ v) := ⟨(Below.refl _ _).setCell (p := ⟨m, k, none⟩) (Nat.le_refl _) _, fun _ _ _ h1 _ h3 => h3.other (p := ⟨m, k, none⟩) h1 v⟩
section
variable {W W' : World} {m B : Nat} {cl ln : ByteArray} {ix : Int} {l : List UInt8}
end
end Go.Proofs.YtlmjiocdhobopaaGreatDoor
