/-
 What a raw name means, by the program: meant.
-/
import Derived.Test.YtdkcgfcmmdkmpaaDoorPtD
namespace Go.Proofs.YtdkcgfcmmdkmpaaDoor
open Go.RowKit Go.Shelf
/-- A builder that is new. -/
theorem BdI.fresh0 (w : World) : BdI (w.alloc (.cells #[.pointer none, .slice none 0 0] 28)) w.heap.size (w.heap.size + 1) [] :=
 ⟨_, _, At.new w _ _, .inl rfl, by simpa [Lib.byteCells] using World.ownsRow_nil (w.alloc (.cells #[.pointer none, .slice none 0 0] 28)) (w.heap.size + 1) 5 1⟩
end Go.Proofs.YtdkcgfcmmdkmpaaDoor
