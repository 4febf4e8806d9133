/-
  What quarryref00.SameInts answers of two lists of the same numbers.
-/
import Derived.Test.YtlckhiflhnlgpaaGreatDoorKitB
namespace Go.Proofs.YtlckhiflhnlgpaaGreatDoor
open Go.RowKit Go.Shelf

/-- The numbers lie there. -/
def IntsAt (w : World) (ao : Option Addr) (L : List Nat) : Prop := ∀ j p, L[j]? = some p → ∃ g, ao = some ⟨g, 0, none⟩ ∧ g < w.heap.size ∧ w.cell? ⟨g, j, none⟩ = some (.int .i64 ((p : Nat) : Int))
theorem IntsAt.kept {m : Nat} {w w' : World} {ao : Option Addr} {L : List Nat} (h : IntsAt w ao L) (hm : w.heap.size ≤ m) (hb : Below m w w') : IntsAt w' ao L := fun j p hj => by
  obtain ⟨g, h1, h2, h3⟩ := h j p hj
  exact ⟨g, h1, Nat.lt_of_lt_of_le h2 hb.size, (hb.cell (p := ⟨g, j, none⟩) (by show g < m; omega)).trans h3⟩
end Go.Proofs.YtlckhiflhnlgpaaGreatDoor
