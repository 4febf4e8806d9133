/-
  A row of bits that comes in by value; lists of words.
-/
import Derived.Test.YtlckhiflhnlgpaaGreatDoorKit
import Derived.ChangeSlices
import Derived.ChangeSame
import Derived.SizedLaws
namespace Go.Proofs.YtlckhiflhnlgpaaGreatDoor
open Go.ChangeShapes Go.WideShapes Go.ChangeAt Go.RowKit
set_option maxRecDepth 100000

/-- The slice's cells hold these words. -/
def Wds (w : World) (ao : Option Addr) (k : Nat) (X : Nat → Nat) : Prop :=
  ∀ j, j < k → X j < 18446744073709551616 ∧ ∃ g off, ao = some ⟨g, off, none⟩ ∧ w.cell? ⟨g, off + j, none⟩ = some (.int .u64 ((X j : Nat) : Int))
/-- The slice's cells hold these numbers. -/
def Nums (w : World) (ao : Option Addr) (k : Nat) (Z : Nat → Int) : Prop :=
  ∀ j, j < k → (Lit.int .i64 (Z j)).wf = true ∧ ∃ g off, ao = some ⟨g, off, none⟩ ∧ w.cell? ⟨g, off + j, none⟩ = some (.int .i64 (Z j))

theorem cell_block {w : World} {a : Addr} {v : Value} (h : w.cell? a = some v) : a.block < w.heap.size := by
  unfold World.cell? at h
  cases ho : w.heap[a.block]? with
  | none => simp [ho] at h
  | some o => exact (Array.getElem?_eq_some_iff.1 ho).1
theorem Wds.kept {w w' : World} {ao : Option Addr} {k : Nat} {X : Nat → Nat} (h : Wds w ao k X) (hb : Below w.heap.size w w') : Wds w' ao k X := fun j hj => by
  obtain ⟨h1, g, off, h2, h3⟩ := h j hj
  exact ⟨h1, g, off, h2, (hb.cell (p := ⟨g, off + j, none⟩) (cell_block h3)).trans h3⟩
theorem Nums.kept {w w' : World} {ao : Option Addr} {k : Nat} {Z : Nat → Int} (h : Nums w ao k Z) (hb : Below w.heap.size w w') : Nums w' ao k Z := fun j hj => by
  obtain ⟨h1, g, off, h2, h3⟩ := h j hj
  exact ⟨h1, g, off, h2, (hb.cell (p := ⟨g, off + j, none⟩) (cell_block h3)).trans h3⟩
theorem Wds.le {w : World} {ao : Option Addr} {k k' : Nat} {X : Nat → Nat} (h : Wds w ao k X) (hk : k' ≤ k) : Wds w ao k' X := fun j hj => h j (by omega)

section
variable {H : Type} {enc : TypeId × Value → H} {P : Program} {w : World} {base : Nat} {spare : Nat → Bool} {held : Bool}
/-- What the datum of a slice tells of its length. -/
def Long (d : DataW H) (k : Nat) : Prop := k = 0 ∨ ∃ elems spare, d = .slice elems spare ∧ elems.length = k

end

section
variable {H : Type} {enc : TypeId × Value → H} {w : World} {base : Nat} {spare : Nat → Bool} {held : Bool}
end
end Go.Proofs.YtlckhiflhnlgpaaGreatDoor
