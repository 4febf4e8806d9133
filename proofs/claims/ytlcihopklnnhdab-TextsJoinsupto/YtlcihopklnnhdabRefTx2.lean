/-
  What the reference of texts answers: halves, characters.
-/
import Derived.Test.YtlcihopklnnhdabRefTx
namespace Go.Proofs.Ytlcihopklnnhdab
open Go.RowKit Go.Shelf

/-- Bytes as cells. -/
def byC (l : List Nat) : List Value := l.map fun (x : Nat) => Value.int .u8 (x : Int)
theorem byC_app (a b : List Nat) : byC (a ++ b) = byC a ++ byC b := by simp [byC]
theorem byC_len (l : List Nat) : (byC l).length = l.length := by simp [byC]

end Go.Proofs.Ytlcihopklnnhdab
