/-
 The laws' own small value.
-/
import Derived.Test.YtbabdhepnjacdaaDoorPack1
namespace Go.Proofs.YtbabdhepnjacdaaDoor
open Go.RowKit Go.Shelf
theorem At.newAt {w : World} {b : Nat} (cs : Array Value) (ty : TypeId) (h : b = w.heap.size) : At (w.alloc (.cells cs ty)) b cs ty := by
 subst h
 exact At.new _ _ _
end Go.Proofs.YtbabdhepnjacdaaDoor
