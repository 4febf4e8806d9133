/-
  What quarryref07.Marks, Inside, Open and Control answer.
-/
import Derived.Test.YtodhekdnbenobaaDoorQuoA
import Derived.Test.YtodhekdnbenobaaDoorBoolRow
namespace Go.Proofs.YtodhekdnbenobaaDoor
open Go.RowKit

end Go.Proofs.YtodhekdnbenobaaDoor
