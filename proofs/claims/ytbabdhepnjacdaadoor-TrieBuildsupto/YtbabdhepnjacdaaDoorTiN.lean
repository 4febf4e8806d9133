/-
 Tries and what Go is asked, as they come in; the law TrieGoes, walked.
-/
import Derived.Test.YtbabdhepnjacdaaDoorTiL
import Derived.BigQuiet
namespace Go.Proofs.YtbabdhepnjacdaaDoor
open Go.ChangeShapes Go.WideShapes Go.ChangeAt Go.RowKit Go.Shelf
set_option maxRecDepth 100000
/-- What Go is asked. -/
structure AskZ where
 node : Int
 name : ByteArray
 place : Int
 obj : Bool
def AsksAt (w : World) (ao : Option Addr) (L : List AskZ) : Prop := ∀ (i : Nat) (x : AskZ), L[i]? = some x → ∃ b off, ao = some ⟨b, off, none⟩ ∧ b < w.heap.size ∧ w.rangeAt b (off + i * 4) [.int .i64 x.node, .string x.name, .int .i64 x.place, .bool x.obj]
theorem AsksAt.kept {w w' : World} {ao : Option Addr} {L : List AskZ} (h : AsksAt w ao L) (hb : Below w.heap.size w w') : AsksAt w' ao L := fun i x hi => by
 obtain ⟨b, off, h1, h2, h3⟩ := h i x hi
 exact ⟨b, off, h1, Nat.lt_of_lt_of_le h2 hb.size, range_kept h3 hb⟩
section
variable {H : Type} {enc : TypeId × Value → H} {w : World} {base : Nat} {spare : Nat → Bool} {held : Bool}
end
end Go.Proofs.YtbabdhepnjacdaaDoor
