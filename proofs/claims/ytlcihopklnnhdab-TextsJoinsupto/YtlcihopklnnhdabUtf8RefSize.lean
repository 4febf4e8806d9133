/-
  What quarryref05.Size answers: how many bytes a character takes.
-/
import Derived.Test.YtlcihopklnnhdabUtf8Size
namespace Go.Proofs.Ytlcihopklnnhdab
open Go.RowKit

end Go.Proofs.Ytlcihopklnnhdab
