/-
  The walk of quarrylaw08.MarksKinds.
-/
import Derived.Test.YtomeaejjdjidlaaDoorMkKind
namespace Go.Proofs.YtomeaejjdjidlaaDoor
open Go.RowKit Go.Shelf

/-- The law's small text. -/
abbrev smB : ByteArray := ⟨#[123, 34, 97, 32, 98, 34, 32, 58, 32, 91, 49, 44, 116, 114, 117, 101, 93, 125]⟩
theorem kindC_calls (a : Int) (ha : (Lit.int .i64 a).wf = true) (k : Nat) (hk : kindN smB a = k) (w : World) (hT : Tab w) (hM : TabM w) (hw0 : 1 < w.heap.size) :
    Calls Tryd.prog 63 #[.string smB, .int .i64 a] w fun e w' => e = .returned (.int .u8 (k : Int)) ∧ Below w.heap.size w w' := kind8_calls smB (by decide) a ha k hk w hT hM hw0

end Go.Proofs.YtomeaejjdjidlaaDoor
