/-
  The walk of quarrylaw08.MarksMinifies.
-/
import Derived.Test.YtomeaejjdjidlaaDoorPack1
import Derived.Test.YtomeaejjdjidlaaDoorRefMin
import Derived.Test.YtomeaejjdjidlaaDoorMKinds
namespace Go.Proofs.YtomeaejjdjidlaaDoor
open Go.RowKit Go.Shelf

/-- The law's small text without its blanks. -/
abbrev smM : ByteArray := ⟨#[123, 34, 97, 32, 98, 34, 58, 91, 49, 44, 116, 114, 117, 101, 93, 125]⟩
theorem min_small : minS smB = smM := by
  apply ByteArray.ext
  decide +kernel
theorem minC_calls (w : World) (hT : Tab w) (hM : TabM w) (hw0 : 1 < w.heap.size) :
    Calls Tryd.prog 32 #[.string smB] w fun e w' => e = .returned (.string smM) ∧ Below w.heap.size w w' := by
  have h := minify8_calls smB (by decide) w hT hM hw0
  rw [min_small] at h
  exact h

end Go.Proofs.YtomeaejjdjidlaaDoor
