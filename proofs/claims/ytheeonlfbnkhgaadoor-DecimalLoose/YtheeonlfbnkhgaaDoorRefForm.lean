/-
  What the reference's Formed answers.
-/
import Derived.Test.YtheeonlfbnkhgaaDoorDecForm
namespace Go.Proofs.YtheeonlfbnkhgaaDoor
open Go.RowKit Go.Shelf

end Go.Proofs.YtheeonlfbnkhgaaDoor
