/-
 What utf8.Size answers: how many bytes a character takes.
-/
import Derived.Test.YtbabdhepnjacdaaDoorPack1
namespace Go.Proofs.YtbabdhepnjacdaaDoor
open Go.RowKit
def sizeZ (r : Int) : Nat := if r < 0 then 0 else sizeN r.toNat
end Go.Proofs.YtbabdhepnjacdaaDoor
