/-
  What the walks through the laws of escape share.
-/
import Derived.Test.YtkdcloiepeenoaaDoorEscRow
import Derived.Test.YtkdcloiepeenoaaDoorSameWalk
namespace Go.Proofs.YtkdcloiepeenoaaDoor
open Go.RowKit

theorem At.row6 {w : World} {g N : Nat} {G : Nat → Bool} (h : At w g (rowCells (need N) (rowOf G N)) 39) : Wds w (some ⟨g, 0, none⟩) (need N) (rowOf G N) := h.wds (fun _ _ => rowOf_lt _ _ _) (Nat.le_refl _)
theorem wf_size {n : Nat} (h : n ≤ 281474976710656) : (Lit.int .i64 (n : Int)).wf = true := by
  simp [Lit.wf, IntKind.min, IntKind.max, IntKind.bits, IntKind.signed]
  omega
theorem need_le {n : Nat} (h : n ≤ 281474976710656) : need n ≤ 17592186044416 := by unfold need; omega
theorem same6 {N : Nat} {G : Nat → Bool} (hN : N ≤ 281474976710656) (ao bo : Option Addr) (cap cap' : Nat) (w : World) (hW : Wds w ao (need N) (rowOf G N)) (hV : Wds w bo (need N) (rowOf G N)) :
    Calls Tryd.prog 16 #[.agg #[.int .i64 (N : Int), .slice ao (need N) cap], .agg #[.int .i64 (N : Int), .slice bo (need N) cap']] w fun e w' => e = .returned (.bool true) ∧ Below w.heap.size w w' :=
  same_calls N N ao bo (need N) (need N) cap cap' (rowOf G N) (rowOf G N) true (wf_size hN) (wf_size hN) (need_le hN) (need_le hN) ⟨fun _ => rfl, fun _ => ⟨rfl, rfl, fun _ _ => rfl⟩⟩ w hW hV
end Go.Proofs.YtkdcloiepeenoaaDoor
