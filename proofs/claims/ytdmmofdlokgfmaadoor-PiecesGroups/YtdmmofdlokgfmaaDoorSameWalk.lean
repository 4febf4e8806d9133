/-
  What quarryref00.SameBits answers.
-/
import Derived.Test.YtdmmofdlokgfmaaDoorFormedWalk
namespace Go.Proofs.YtdmmofdlokgfmaaDoor
open Go.RowKit

end Go.Proofs.YtdmmofdlokgfmaaDoor
