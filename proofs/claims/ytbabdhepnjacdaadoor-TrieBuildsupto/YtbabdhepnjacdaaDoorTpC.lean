/-
 tree.Formed: bare, keysFormed, kidsFormed, formed.
-/
import Derived.Test.YtbabdhepnjacdaaDoorPack1
import Derived.Test.YtbabdhepnjacdaaDoorPack2
import Derived.Deep.Cut
import Derived.Test.YtbabdhepnjacdaaDoorPack3
import Derived.Test.YtbabdhepnjacdaaDoorShelfV
namespace Go.Proofs.YtbabdhepnjacdaaDoor
open Go.RowKit Go.Shelf
/-- The language's own tables of UTF-8 are as they are laid. -/
def TabU (w : World) : Prop := Lib.Utf8Tabs (Tryd.lays196_ren.g 3) (Tryd.lays196_ren.g 4) w
theorem TabU.below {w w' : World} (h : TabU w) (hb : Below w.heap.size w w') : TabU w' := Utf8Tabs_below h hb
theorem validS_calls (s : ByteArray) (hs : s.size ≤ 9223372036854775807) (B : Bool) (hB : Hid (decide (badOf s = -1) = B)) (w : World) (hT : TabU w) :
  Calls Tryd.prog 57 #[.string s] w fun e w' => e = .returned (.bool B) ∧ Below w.heap.size w w' := by
 have h : Calls Tryd.prog 57 _ _ _ := Any.utf8_ValidString Tryd.lays196 s w hs hT
 rw [valid_bad, hB.out] at h
 exact h
end Go.Proofs.YtbabdhepnjacdaaDoor
