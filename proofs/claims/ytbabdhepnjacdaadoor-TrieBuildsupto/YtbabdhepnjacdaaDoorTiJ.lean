/-
 quarryref23.node.
-/
import Derived.Test.YtbabdhepnjacdaaDoorTiI
import Derived.Test.YtbabdhepnjacdaaDoorFrA
namespace Go.Proofs.YtbabdhepnjacdaaDoor
open Go.RowKit Go.Shelf
theorem one_steps {w : World} {b : Nat} {s : Stp} (h : At w b #[.int .i64 s.kind, .string s.name, .int .i64 s.place] 53) (hs : s.name.size ≤ capT) : StepsAt w (some ⟨b, 0, none⟩) [s] := fun i x hi => by
 match i, hi with
 | 0, hi =>
  simp at hi
  subst hi
  refine ⟨hs, b, 0, rfl, h.lt, ?_⟩
  exact h.range rfl
 | i + 1, hi => simp at hi
end Go.Proofs.YtbabdhepnjacdaaDoor
