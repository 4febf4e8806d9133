/-
  What quarryref05.Bad and Beginning answer; Utf8Bads: every Bad.
-/
import Derived.Test.YtlcihopklnnhdabRefWalk
import Derived.Test.YtlcihopklnnhdabUtf8Read
namespace Go.Proofs.Ytlcihopklnnhdab
open Go.RowKit

end Go.Proofs.Ytlcihopklnnhdab
