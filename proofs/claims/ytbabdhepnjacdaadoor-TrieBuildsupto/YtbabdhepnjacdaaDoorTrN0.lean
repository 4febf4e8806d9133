/-
 A value that comes in, of a bulk that is bounded.
-/
import Derived.Test.YtbabdhepnjacdaaDoorPack1
namespace Go.Proofs.YtbabdhepnjacdaaDoor
open Go.ChangeShapes Go.WideShapes Go.ChangeAt Go.RowKit
set_option maxRecDepth 100000
theorem bulk_snoc {H : Type} (ds : List (DataW H)) (d : DataW H) : Rows.uptoBulkAll (ds ++ [d]) = Rows.uptoBulkAll ds + Rows.uptoBulk d := by
 induction ds with
 | nil => simp [Rows.uptoBulkAll]
 | cons a ds ih => simp only [List.cons_append, Rows.uptoBulkAll, ih]; omega
section
variable {H : Type} {enc : TypeId × Value → H} {w : World} {base : Nat} {spare : Nat → Bool} {held : Bool}
end
end Go.Proofs.YtbabdhepnjacdaaDoor
