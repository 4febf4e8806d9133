/-
 quarryref17.Member: the first member of a name.
-/
import Derived.Test.YtgpagaielnemmaaDoorTrE
namespace Go.Proofs.YtgpagaielnemmaaDoor
open Go.RowKit Go.Shelf
def vt0 : Vt := .mk 0 false ⟨#[]⟩ ⟨#[]⟩ [] []
theorem At.six {w : World} {b : Nat} {x0 x1 x2 x3 x4 x5 y0 y1 y2 y3 y4 y5 : Value} (h : At w b #[x0, x1, x2, x3, x4, x5] 25) :
  At ((((((w.setCell ⟨b, 0, none⟩ y0).setCell ⟨b, 1, none⟩ y1).setCell ⟨b, 2, none⟩ y2).setCell ⟨b, 3, none⟩ y3).setCell ⟨b, 4, none⟩ y4).setCell ⟨b, 5, none⟩ y5) b #[y0, y1, y2, y3, y4, y5] 25 := by
 have := (((((h.set 0 y0).set 1 y1).set 2 y2).set 3 y3).set 4 y4).set 5 y5
 simpa using this
theorem below_six {w w' : World} {n b : Nat} (h : Below n w w') (hb : n ≤ b) (y0 y1 y2 y3 y4 y5 : Value) : Below n w ((((((w'.setCell ⟨b, 0, none⟩ y0).setCell ⟨b, 1, none⟩ y1).setCell ⟨b, 2, none⟩ y2).setCell ⟨b, 3, none⟩ y3).setCell ⟨b, 4, none⟩ y4).setCell ⟨b, 5, none⟩ y5) :=
 (((((h.setCell hb _).setCell hb _).setCell hb _).setCell hb _).setCell hb _).setCell hb _
end Go.Proofs.YtgpagaielnemmaaDoor
