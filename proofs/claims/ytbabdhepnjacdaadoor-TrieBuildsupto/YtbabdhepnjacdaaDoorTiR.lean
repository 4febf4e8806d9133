/-
 slices.Clone of a list of paths; trie.Paths.
-/
import Derived.Test.YtbabdhepnjacdaaDoorTiQ
import Derived.Test.YtbabdhepnjacdaaDoorTiJ
import Derived.Test.YtbabdhepnjacdaaDoorTiG
namespace Go.Proofs.YtbabdhepnjacdaaDoor
open Go.RowKit Go.Shelf
/-- A list of paths in memory. -/
def PthsAt (w : World) (ao : Option Addr) (L : List (List Stp)) : Prop := ∀ (i : Nat) (p : List Stp), L[i]? = some p → ∃ b off so sc, ao = some ⟨b, off, none⟩ ∧ b < w.heap.size ∧ w.cell? ⟨b, off + i, none⟩ = some (.slice so p.length sc) ∧ StepsAt w so p
theorem PthsAt.kept {w w' : World} {ao : Option Addr} {L : List (List Stp)} (h : PthsAt w ao L) (hb : Below w.heap.size w w') : PthsAt w' ao L := fun i p hi => by
 obtain ⟨b, off, so, sc, h1, h2, h3, h4⟩ := h i p hi
 exact ⟨b, off, so, sc, h1, Nat.lt_of_lt_of_le h2 hb.size, (hb.cell (p := ⟨b, off + i, none⟩) h2).trans h3, h4.kept hb⟩
theorem infoRw : (Tryd.prog.info? 45).map (fun i => (i.zero, i.size, i.bytes)) = some (some (.slice none 0 0), 1, 24) := by kernel_rfl
theorem StepsAt.on {w w' : World} {g o : Nat} {p : List Stp} (h : StepsAt w (some ⟨g, o, none⟩) p) (hs : w.heap.size ≤ w'.heap.size) (he : w'.heap[g]? = w.heap[g]?) : StepsAt w' (some ⟨g, o, none⟩) p := fun i s hi => by
 obtain ⟨h0, b, off, e, h1, h2⟩ := h i s hi
 cases e
 exact ⟨h0, g, o, rfl, Nat.lt_of_lt_of_le h1 hs, fun j y hj => (World.cell?_of_block (w := w) he).trans (h2 j y hj)⟩
end Go.Proofs.YtbabdhepnjacdaaDoor
