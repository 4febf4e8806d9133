/-
  What the calls that ask a row of bits have in common.
-/
import Derived.Test.YtmjmcdoanolelaaDoorJoinWalk
import Derived.Test.YtmjmcdoanolelaaDoorSelectWalk
import Derived.Test.YtmjmcdoanolelaaDoorLen64Walk
namespace Go.Proofs.YtmjmcdoanolelaaDoor
open Go.RowKit Go.Shelf

end Go.Proofs.YtmjmcdoanolelaaDoor
