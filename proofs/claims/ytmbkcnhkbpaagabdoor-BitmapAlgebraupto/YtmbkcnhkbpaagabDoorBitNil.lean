/-
  A row of bits that comes in without words: its slice is the empty one.
-/
import Derived.Test.YtmbkcnhkbpaagabDoorBitOpen
namespace Go.Proofs.YtmbkcnhkbpaagabDoor
open Go.ChangeShapes Go.WideShapes Go.ChangeAt Go.RowKit

theorem bits_nil {H : Type} {enc : TypeId × Value → H} {w : World} {base : Nat} {spare : Nat → Bool} {held : Bool} {n : Int} {k cap : Nat} {d : DataW H} {ps : List MemPlace} (hd : DataW.Trod enc Tryd.prog w base spare held 24 (.agg #[.int .i64 n, .slice none k cap]) d ps) : k = 0 ∧ cap = 0 := by
  obtain ⟨fuel, hf⟩ := hd
  obtain ⟨y0, y1, m, hx, hl, h0, h1⟩ := trod_struct2 Tryd.underlying24 hf
  have e1 : (((Value.agg #[.int .i64 n, .slice none k cap]).cells.toList.drop 1).take (Tryd.prog.cellsOf 22)) = [.slice none k cap] := by rw [cellsSl]; rfl
  have h1' : DataW.trod enc Tryd.prog w base spare held m 22 [.slice none k cap] = some y1 := by rw [← e1]; exact h1
  rcases open_ints Tryd.underlying22 Tryd.underlying47 cellsW h1' with ⟨hcs, _⟩ | ⟨a, len, cap', zs, hcs, _⟩
  · simpa using hcs
  · simp at hcs
end Go.Proofs.YtmbkcnhkbpaagabDoor
