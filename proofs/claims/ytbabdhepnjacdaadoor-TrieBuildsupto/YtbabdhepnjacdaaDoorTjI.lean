/-
 How many nodes a trie has: the math.
-/
import Derived.Test.YtbabdhepnjacdaaDoorTjF
namespace Go.Proofs.YtbabdhepnjacdaaDoor
open Go.RowKit Go.Shelf
theorem pth_lt {Q : Stp → Prop} {T : List Nod} {k x : Nat} {p : List Stp} (hI : Inv Q T k) (hp : PthOf T x p) : x < T.length := by
 cases hp with
 | root => have := hI.len; omega
 | step hn hx _ _ =>
  have := hI.ok _ _ hn _ (List.mem_of_getElem? hx)
  omega
end Go.Proofs.YtbabdhepnjacdaaDoor
