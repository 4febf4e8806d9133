/-
  What quarryref06.Odd, Is and Behind answer.
-/
import Derived.Test.YtkdcloiepeenoaaDoorOddWalk
namespace Go.Proofs.YtkdcloiepeenoaaDoor
open Go.RowKit

end Go.Proofs.YtkdcloiepeenoaaDoor
