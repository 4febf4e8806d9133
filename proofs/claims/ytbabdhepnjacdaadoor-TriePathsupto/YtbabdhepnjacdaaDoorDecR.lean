/-
 ScopeKit, DecForm, DecScan, DecWorth, DecRead, one behind the other.
-/
import Derived.Test.YtbabdhepnjacdaaDoorPack1
import Derived.WalkMore
import Derived.ScopeJumps
import Derived.Test.YtbabdhepnjacdaaDoorDecMath
import Derived.Deep.DeepCutAuto
import Derived.Shelf.LaysM
import Derived.Shelf.Strconv.Clone
import Derived.Test.YtbabdhepnjacdaaDoorShelfF
import Derived.Test.YtbabdhepnjacdaaDoorProg
import Derived.Deep.RegionHeld
import Derived.Deep.Quiet
/- A scope with several labels: what holds at each of them, and a number that every way from label to label lowers. -/
namespace Go.Proofs.YtbabdhepnjacdaaDoor
open Go.RowKit
section
variable {P : Program} {a : Act} {w : World} {Q : Exit → Act → World → Prop}
end
end Go.Proofs.YtbabdhepnjacdaaDoor
/- What decimal.Formed and the reference's Formed answer. -/
namespace Go.Proofs.YtbabdhepnjacdaaDoor
open Go.RowKit Go.Shelf
end Go.Proofs.YtbabdhepnjacdaaDoor
/- What decimal.scan answers. -/
namespace Go.Proofs.YtbabdhepnjacdaaDoor
open Go.RowKit Go.Shelf
section
variable {w0 : World} {b : Nat} {n : Bool} {t1 t2 : ByteArray} {d : Bool} {t3 : ByteArray} {w : World}
end
/-! What holds at the labels. -/
section
variable (s : ByteArray) (p b : Nat) (w0 : World)
end
end Go.Proofs.YtbabdhepnjacdaaDoor
/- What decimal.power answers. -/
namespace Go.Proofs.YtbabdhepnjacdaaDoor
open Go.RowKit Go.Shelf
/-! worth -/
section
variable {w0 : World} {b : Nat} {n : Bool} {t : ByteArray} {x : Int} {w w' : World}
end
theorem data_append (a b : ByteArray) : (a ++ b).data.toList = a.data.toList ++ b.data.toList := by
 rw [ByteArray.data_append]; simp
section
variable {w0 : World} {ng : Bool} {t1 t2 : ByteArray} {dn : Bool} {t : ByteArray} {w w' : World}
end
end Go.Proofs.YtbabdhepnjacdaaDoor
/- What decimal.Read and decimal.Of answer. -/
namespace Go.Proofs.YtbabdhepnjacdaaDoor
open Go.RowKit Go.Shelf
end Go.Proofs.YtbabdhepnjacdaaDoor
