import Derived.Test.YtjcpamjeekfblaaGreatDoorPack1
import Derived.Test.YtjcpamjeekfblaaGreatDoorPack3
import Derived.Lib.Bytealg
import Derived.Lib.Small
namespace Go.Proofs.YtjcpamjeekfblaaGreatDoor
open Go.RowKit Go.Shelf
def TwoD (w:World) (n:Bool) (t:ByteArray) (x:Int) (n':Bool) (t':ByteArray) (x':Int) (w':World):Prop :=
 At w' w.heap.size #[.bool n,.string t,.int .i64 x] 170∧At w' (w.heap.size+1) #[.bool n',.string t',.int .i64 x'] 170∧Below w.heap.size w w'
theorem TwoD.new (w:World) (n:Bool) (t:ByteArray) (x:Int) (n':Bool) (t':ByteArray) (x':Int):TwoD w n t x n' t' x' ((w.alloc (.cells #[.bool n,.string t,.int .i64 x] 170)).alloc (.cells #[.bool n',.string t',.int .i64 x'] 170)):=by
 refine ⟨(At.new w _ _).alloc _,?_,by exact bw⟩
 have:=At.new (w.alloc (.cells #[.bool n,.string t,.int .i64 x] 170)) #[.bool n',.string t',.int .i64 x'] 170
 simpa using this
section
variable {w:World} {n:Bool} {t:ByteArray} {x:Int} {n':Bool} {t':ByteArray} {x':Int} {u v:World}
theorem TwoD.drew (h:TwoD w n t x n' t' x' u):TwoD w n t x n' t' x' u.drew:=⟨h.1,h.2.1,h.2.2.drew⟩
theorem TwoD.kept (h:TwoD w n t x n' t' x' u) (hb:Below u.heap.size u v):TwoD w n t x n' t' x' v:=⟨h.1.keptAll hb,h.2.1.keptAll hb,h.2.2.trans (hb.mono h.2.2.size)⟩
theorem TwoD.one (h:TwoD w n t x n' t' x' u):At u w.heap.size #[.bool n,.string t,.int .i64 x] 170:=h.1
theorem TwoD.two (h:TwoD w n t x n' t' x' u):At u (w.heap.size+1) #[.bool n',.string t',.int .i64 x'] 170:=h.2.1
theorem TwoD.below (h:TwoD w n t x n' t' x' u):Below w.heap.size w u:=h.2.2
theorem TwoD.facts (h:TwoD w n t x n' t' x' u):u.cell? ⟨w.heap.size,0,none⟩=some (.bool n)∧u.cell? ⟨w.heap.size,1,none⟩=some (.string t)∧u.cell? ⟨w.heap.size,2,none⟩=some (.int .i64 x)∧u.cell? ⟨w.heap.size+1,0,none⟩=some (.bool n')∧u.cell? ⟨w.heap.size+1,1,none⟩=some (.string t')∧u.cell? ⟨w.heap.size+1,2,none⟩=some (.int .i64 x') :=
 ⟨h.1.cell 0,h.1.cell 1,h.1.cell 2,h.2.1.cell 0,h.2.1.cell 1,h.2.1.cell 2⟩
end
end Go.Proofs.YtjcpamjeekfblaaGreatDoor
