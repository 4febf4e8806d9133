/-
  What quarryref07.Marks, Inside, Open and Control answer.
-/
import Derived.Test.YthakingpeegagaaDoorQuoA
import Derived.Test.YthakingpeegagaaDoorBoolRow
namespace Go.Proofs.YthakingpeegagaaDoor
open Go.RowKit

theorem make_bools47 (K : Nat) (hK : K ≤ 140737488351232) (u : World) : (Instr.makeSlice 29 (.int .i64 (K : Int)) (.int .i64 (K : Int))).run Tryd.prog u =
    .ok (.slice (some ⟨u.heap.size, 0, none⟩) K K) (u.alloc (.cells (boolCells K (fun _ => false)) 4)) := by
  obtain ⟨i0, hi, hz0, hz1, hz2⟩ := info_parts infoB
  have h := run_make (P := Tryd.prog) u 29 4 i0 (.bool false) Tryd.underlying29 hi hz0 .i64 .i64 (K : Int) (K : Int) (by omega) (Int.le_refl _) (by rw [hz2]; omega) (by omega)
  rw [Int.toNat_natCast] at h
  rw [h, ← boolCells_zero]
  simp [hz1, Value.cells]

end Go.Proofs.YthakingpeegagaaDoor
