/-
  What quarryref08.Minify answers.
-/
import Derived.Test.YtomeaejjdjidlaaDoorRefM2
import Derived.Test.YtomeaejjdjidlaaDoorPack1
import Derived.Lib.AppendStr
import Derived.Lib.BufferRead
import Derived.Laws.IdiomStrings
namespace Go.Proofs.YtomeaejjdjidlaaDoor
open Go.RowKit Go.Shelf

/-- The bytes as cells. -/
def by8 (l : List UInt8) : List Value := l.map fun x => Value.int .u8 ((x.toNat : Nat) : Int)
theorem by8_snoc (l : List UInt8) (x : UInt8) : by8 (l ++ [x]) = by8 l ++ [.int .u8 ((x.toNat : Nat) : Int)] := by simp [by8]
/-- The text of a row of bytes. -/
theorem conv_row8 {w : World} {B : Nat} {v : Value} {l : List UInt8} (h : w.ownsRow B 5 1 v l.length (by8 l)) : (convert 82 9 v).run Tryd.prog w = .ok (.string ⟨l.toArray⟩) w := by
  rcases h.2 with ⟨rfl, h0⟩ | ⟨g, cap, cur, rfl, hb, hgb, h3⟩
  · rw [List.eq_nil_of_length_eq_zero h0]
    exact Lib.run_convert_nil_bytes w 82 9 5 0 Tryd.underlying82 Tryd.underlying5 Tryd.underlying9
  · exact run_convert_bytes_back (P := Tryd.prog) w 82 9 5 ⟨g, 0, none⟩ cap l Tryd.underlying82 Tryd.underlying5 Tryd.underlying9 (fun j hj => by
      exact h.cells (g := g) rfl j _ (by
        unfold by8
        rw [List.getElem?_map, List.getElem?_eq_getElem hj]
        rfl))
theorem infoU88 : (Tryd.prog.info? 5).map (fun i => (i.zero, i.size, i.bytes)) = some (some (.int .u8 0), 1, 1) := by kernel_rfl

end Go.Proofs.YtomeaejjdjidlaaDoor
