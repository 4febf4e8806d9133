/-
  What bitmap.And, Or, Xor and Minus answer.
-/
import Derived.Test.YtmjmcdoanolelaaDoorJoinWalk
import Derived.Shelf.Abstract
namespace Go.Proofs.YtmjmcdoanolelaaDoor
open Go.RowKit Go.Shelf

end Go.Proofs.YtmjmcdoanolelaaDoor
