/-
  The walk of quarrylaw06.EscapeRows.
-/
import Derived.Test.YtmjmcdoanolelabDoorEscB
import Derived.Test.YtmjmcdoanolelabDoorGetWalk
import Derived.SizedLaws
import Derived.Deep.DeepCutAuto
import Derived.Deep.DeepMust
import Derived.Deep.CondSized
namespace Go.Proofs.YtmjmcdoanolelabDoor
open Go.RowKit Go.Shelf

theorem formed6 {N : Nat} {G : Nat → Bool} (hN : N ≤ 281474976710656) (ao : Option Addr) (cap : Nat) (w : World) (hW : Wds w ao (need N) (rowOf G N)) :
    Calls Tryd.prog 38 #[.agg #[.int .i64 (N : Int), .slice ao (need N) cap]] w fun e w' => e = .returned (.bool true) ∧ Below w.heap.size w w' :=
  formed_calls N ao (need N) cap (rowOf G N) true (wf_size hN) (need_le hN) ⟨fun _ => rfl, fun _ => rowOf_formed G N⟩ w hW

end Go.Proofs.YtmjmcdoanolelabDoor
