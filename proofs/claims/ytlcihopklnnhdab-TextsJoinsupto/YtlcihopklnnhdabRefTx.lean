/-
  What the reference of texts answers of a piece.
-/
import Derived.Test.YtlcihopklnnhdabTxMath
import Derived.Test.YtlcihopklnnhdabKitA
namespace Go.Proofs.Ytlcihopklnnhdab
open Go.RowKit Go.Shelf

theorem At.three15 {w : World} {b : Nat} {x0 x1 x2 y0 y1 y2 : Value} {t : TypeId} (h : At w b #[x0, x1, x2] t) : At (((w.setCell ⟨b, 0, none⟩ y0).setCell ⟨b, 1, none⟩ y1).setCell ⟨b, 2, none⟩ y2) b #[y0, y1, y2] t := by
  have := ((h.set 0 y0).set 1 y1).set 2 y2
  simpa using this
/-- A piece as a value. -/
def pcV (p : Pc) : Value := .agg #[.int .i64 (p.size : Int), .int .i64 (p.means : Int), .bool p.four]

end Go.Proofs.Ytlcihopklnnhdab
