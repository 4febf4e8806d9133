/-
  What quarryref07.Marks, Inside, Open and Control answer.
-/
import Derived.Test.YtomeaejjdjidlaaDoorQuoA
import Derived.Test.YtomeaejjdjidlaaDoorBoolRow
namespace Go.Proofs.YtomeaejjdjidlaaDoor
open Go.RowKit

end Go.Proofs.YtomeaejjdjidlaaDoor
