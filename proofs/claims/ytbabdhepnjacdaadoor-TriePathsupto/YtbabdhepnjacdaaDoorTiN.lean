/-
 Tries and what Go is asked, as they come in; the law TrieGoes, walked.
-/
import Derived.Test.YtbabdhepnjacdaaDoorTiM
namespace Go.Proofs.YtbabdhepnjacdaaDoor
open Go.ChangeShapes Go.WideShapes Go.ChangeAt Go.RowKit Go.Shelf
set_option maxRecDepth 100000
/-- What Go is asked. -/
structure AskZ where
 node : Int
 name : ByteArray
 place : Int
 obj : Bool
def AsksAt (w : World) (ao : Option Addr) (L : List AskZ) : Prop := ∀ (i : Nat) (x : AskZ), L[i]? = some x → ∃ b off, ao = some ⟨b, off, none⟩ ∧ b < w.heap.size ∧ w.rangeAt b (off + i * 4) [.int .i64 x.node, .string x.name, .int .i64 x.place, .bool x.obj]
theorem AsksAt.kept {w w' : World} {ao : Option Addr} {L : List AskZ} (h : AsksAt w ao L) (hb : Below w.heap.size w w') : AsksAt w' ao L := fun i x hi => by
 obtain ⟨b, off, h1, h2, h3⟩ := h i x hi
 exact ⟨b, off, h1, Nat.lt_of_lt_of_le h2 hb.size, range_kept h3 hb⟩
section
variable {H : Type} {enc : TypeId × Value → H} {w : World} {base : Nat} {spare : Nat → Bool} {held : Bool}
theorem open_nodesU {r : Reach} {b0 : Nat} {v : Value} {d : DataW H} {ps : List MemPlace} (hval : Value.okWide Tryd.prog w r b0 23 v) (hd : DataW.Trod enc Tryd.prog w base spare held 23 v d ps) (hwt : Rows.uptoBulk d ≤ 1048576) :
  ∃ (ao : Option Addr) (cap : Nat) (t : List Nod), v = .slice ao t.length cap ∧ (t.map blkNd).sum ≤ 1048576 ∧ (∀ n ∈ t, ∀ s ∈ n.steps, s.name.size ≤ 1048576) ∧ NodesAt w ao t := by
 obtain ⟨ao, len, cap, rfl⟩ := okWide_slice Tryd.underlying23 hval
 obtain ⟨fuel, hf⟩ := hd
 have hf' : DataW.trod enc Tryd.prog w base spare held fuel 23 [.slice ao len cap] = some (d, ps) := by simpa [Value.cells] using hf
 obtain ⟨ao', cap', t, h1, h2, h3, h4⟩ := open_nodes hf' hwt
 exact ⟨ao', cap', t, h1, Nat.le_trans h2 hwt, h3, h4⟩
end
end Go.Proofs.YtbabdhepnjacdaaDoor
