/-
 What quarryref05.Bad answers.
-/
import Derived.Test.YtbabdhepnjacdaaDoorRefWalk
import Derived.Test.YtbabdhepnjacdaaDoorPack1
namespace Go.Proofs.YtbabdhepnjacdaaDoor
open Go.RowKit
set_option maxRecDepth 10000 in
theorem refBad_calls (s : ByteArray) (hs : s.size ≤ 4294967296) (w : World) :
  Calls Tryd.prog 81 #[.string s] w fun e w' => e = .returned (.int .i64 (badOf s)) ∧ Below w.heap.size w w' := by
 have hw := hid (walk5_calls s hs w)
 clear hs
 go_enter Tryd.func81, Tryd.ntmps81
 go_wp2_with fail
 refine Calls.mono hw.out ?_
 rintro e w1 ⟨v, u, rfl, -, hb⟩
 have hb' := hid hb
 clear hb hw
 go_wp2
 go_ret
 exact ⟨rfl, hb'.out⟩
end Go.Proofs.YtbabdhepnjacdaaDoor
