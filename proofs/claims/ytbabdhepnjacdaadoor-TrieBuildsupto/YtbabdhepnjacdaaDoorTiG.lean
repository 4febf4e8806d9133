/-
 trie.Formed, trie.Go.
-/
import Derived.Test.YtbabdhepnjacdaaDoorTiC
import Derived.Test.YtbabdhepnjacdaaDoorTiD
import Derived.Test.YtbabdhepnjacdaaDoorTiE
import Derived.Test.YtbabdhepnjacdaaDoorTiF
import Derived.Test.YtbabdhepnjacdaaDoorPyI
namespace Go.Proofs.YtbabdhepnjacdaaDoor
open Go.RowKit Go.Shelf
/-- A trie that is neither great in number nor in its names. -/
def Mid (t : List Nod) : Prop := t.length ≤ 1048576 ∧ (toA t).length ≤ 1048576 ∧ (enA t).length ≤ 1048576 ∧ ∀ n ∈ t, n.steps.length ≤ 1048576
end Go.Proofs.YtbabdhepnjacdaaDoor
