/-
 tree.Depth and tree.Count.
-/
import Derived.Test.YtbabdhepnjacdaaDoorTrAA
namespace Go.Proofs.YtbabdhepnjacdaaDoor
open Go.RowKit Go.Shelf
theorem ValAt.six {w : World} {u : Vt} {L : List Value} (h : ValAt w u (.agg L.toArray)) : ∃ k b r t ko N kc vo M vc, L = [.int .i64 k, .bool b, .string r, .string t, .slice ko N kc, .slice vo M vc] := by
 obtain ⟨ko, kc, vo, vc, h⟩ := h.cells
 exact ⟨_, _, _, _, _, _, _, _, _, _, by simpa using congrArg Array.toList h⟩
end Go.Proofs.YtbabdhepnjacdaaDoor
