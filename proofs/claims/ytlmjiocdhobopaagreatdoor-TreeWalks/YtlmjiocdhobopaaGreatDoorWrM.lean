/-
 The texts of a value, as the writer writes them: math.
-/
import Derived.Test.YtlmjiocdhobopaaGreatDoorWrB
import Derived.Test.YtlmjiocdhobopaaGreatDoorPack5
import Derived.Deep.DeepCutAuto
import Derived.Deep.RegionHeld
import Derived.BigQuiet
import Derived.Test.YtlmjiocdhobopaaGreatDoorTxMath
import Derived.Test.YtlmjiocdhobopaaGreatDoorPack1
import Derived.Test.YtlmjiocdhobopaaGreatDoorRefBad
import Derived.Test.YtlmjiocdhobopaaGreatDoorTrHA
import Derived.Test.YtlmjiocdhobopaaGreatDoorPack4
namespace Go.Proofs.YtlmjiocdhobopaaGreatDoor
open Go.RowKit Go.Shelf
section
variable {cl ln : ByteArray} {ix : Nat}
end
/-- The value's lists lie below the heap's end. -/
theorem ValAt.on {w : World} {t : Vt} {v : Value} (h : ValAt w t v) : ValOn (fun c => c < w.heap.size) w t v := by
 induction h with
 | mk k b r t ks vs ko kc vo vc X hw hz hk hr hv ih =>
  refine .mk k b r t ks vs ko kc vo vc X hw hz (fun i s hi => ?_) (fun i hi => ?_) ih
  ·obtain ⟨h0, b, off, h1, h2, h3⟩ := hk i s hi
   exact ⟨h0, b, off, h1, h2, h2, h3⟩
  ·obtain ⟨h0, b, off, h1, h2, h3⟩ := hr i hi
   exact ⟨h0, b, off, h1, h2, h2, h3⟩
end Go.Proofs.YtlmjiocdhobopaaGreatDoor
