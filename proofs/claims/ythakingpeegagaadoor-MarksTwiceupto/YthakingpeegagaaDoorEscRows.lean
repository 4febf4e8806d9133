/-
  The walk of quarrylaw06.EscapeRows.
-/
import Derived.Test.YthakingpeegagaaDoorEscB
import Derived.Test.YthakingpeegagaaDoorBitsD
import Derived.SizedLaws
import Derived.Deep.DeepCutAuto
import Derived.Deep.DeepMust
import Derived.Deep.CondSized
namespace Go.Proofs.YthakingpeegagaaDoor
open Go.RowKit Go.Shelf

theorem get6 {N : Nat} {G : Nat → Bool} (hN : N ≤ 562949953421312) (i : Nat) (hi : i < N) (B : Bool) (hB : Hid (G i = B)) (ao : Option Addr) (cap : Nat) (w : World) (hW : Wds w ao (need N) (rowOf G N)) :
    Calls Tryd.prog 13 #[.agg #[.int .i64 (N : Int), .slice ao (need N) cap], .int .i64 (i : Int)] w fun e w' => e = .returned (.bool B) ∧ Below w.heap.size w w' :=
  get_calls N i ao (need N) cap (rowOf G N) N B (wf_size hN) (wf_size (by omega)) (need_le hN) (.inl ⟨rowOf_formed G N, rfl⟩) (by show _ = _; rw [getB_nat hi, rowOf_bit, decide_eq_true hi, Bool.true_and]; exact hB.out) w hW
theorem formed6 {N : Nat} {G : Nat → Bool} (hN : N ≤ 562949953421312) (ao : Option Addr) (cap : Nat) (w : World) (hW : Wds w ao (need N) (rowOf G N)) :
    Calls Tryd.prog 34 #[.agg #[.int .i64 (N : Int), .slice ao (need N) cap]] w fun e w' => e = .returned (.bool true) ∧ Below w.heap.size w w' :=
  formed_calls N ao (need N) cap (rowOf G N) true (wf_size hN) (need_le hN) ⟨fun _ => rfl, fun _ => rowOf_formed G N⟩ w hW

end Go.Proofs.YthakingpeegagaaDoor
