import Derived.Test.YtjcpamjeekfblaaGreatDoorPack20
import Derived.Test.YtjcpamjeekfblaaGreatDoorPack1
import Derived.Test.YtjcpamjeekfblaaGreatDoorRows
import Derived.SliceStrings
import Derived.Lib.BufferRead
import Derived.Laws.IdiomStrings
namespace Go.Proofs.YtjcpamjeekfblaaGreatDoor
open Go.RowKit Go.Shelf
def BytG (B:Nat) (W:World) (v:Value) (l:List UInt8):Prop:=W.ownsRow B 5 1 v l.length (Lib.byteCells l)
theorem BytG.nil (B:Nat) (W:World):BytG B W (.slice none 0 0) []:=by
 unfold BytG
 simpa [Lib.byteCells] using World.ownsRow_nil W B 5 1
theorem BytG.kept {B:Nat} {W W':World} {v:Value} {l:List UInt8} (h:BytG B W v l) (hb:Below W.heap.size W W'):BytG B W' v l:=World.ownsRow.kept h (grown_of_below hb) (by
 rcases rowY_block h with e | ⟨g,cur,e,_⟩
 ·exact .inl e
 ·exact .inr (by rw [e];simp))
theorem BytG.conv {B:Nat} {w:World} {v:Value} {l:List UInt8} (h:BytG B w v l):(convert 63 9 v).run Tryz.prog w = .ok (.string (mkL l)) w:=by
 unfold BytG at h
 rcases h.2 with ⟨rfl,h0⟩ | ⟨g,cap,cur,rfl,hb,hgb,h3⟩
 ·obtain rfl:l=[]:=List.length_eq_zero_iff.1 h0
  exact Lib.run_convert_nil_bytes w 63 9 5 0 Tryz.underlying63 Tryz.underlying5 Tryz.underlying9
 ·exact run_convert_bytes_back (P:=Tryz.prog) w 63 9 5 ⟨g,0,none⟩ cap l Tryz.underlying63 Tryz.underlying5 Tryz.underlying9 (fun j hj=>by
   exact h.cells (g:=g) rfl j _ (by
    unfold Lib.byteCells
    rw [List.getElem?_map,List.getElem?_eq_getElem hj]
    rfl))
theorem BytG.slice {B:Nat} {w:World} {v:Value} {l:List UInt8} (h:BytG B w v l):∃ so c,v = .slice so l.length c:=rowY_slice h
theorem BytG.blk {B:Nat} {w:World} {v:Value} {l:List UInt8} (h:BytG B w v l) (b:Nat) (e:v.ownBlock=some b):B≤b:=(World.ownsRow.lt h b e).1
end Go.Proofs.YtjcpamjeekfblaaGreatDoor
