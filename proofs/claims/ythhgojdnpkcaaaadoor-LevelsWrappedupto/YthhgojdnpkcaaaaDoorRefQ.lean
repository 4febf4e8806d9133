/-
  What quarryref07.Marks, Inside, Open and Control answer.
-/
import Derived.Test.YthhgojdnpkcaaaaDoorQuoA
import Derived.Test.YthhgojdnpkcaaaaDoorBoolRow
namespace Go.Proofs.YthhgojdnpkcaaaaDoor
open Go.RowKit

end Go.Proofs.YthhgojdnpkcaaaaDoor
