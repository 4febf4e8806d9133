/-
  Blocks held against one another.
-/
import Derived.Test.YtjeecpgcokjjjaaBlockMask
import Derived.Test.YtjeecpgcokjjjaaKit
namespace Go.Proofs.Ytjeecpgcokjjjaa
open Go.RowKit

theorem size_byte (w : World) : (sizeOf 5).run Try.prog w = .ok 1 w := by kernel_rfl
theorem eqIn64 (f g : Nat → Nat) (w : World) : (Op.equalIn 10000 33 (.agg (arr64 f)) (.agg (arr64 g))).run Try.prog w = .ok ((List.range 64).all fun i => ((f i : Nat) : Int) == ((g i : Nat) : Int)) w :=
  run_equalIn_fun w 9998 33 5 64 .u8 Try.underlying33 Try.underlying5 size_byte (arr64 f) (arr64 g) (fun i => ((f i : Nat) : Int)) (fun i => ((g i : Nat) : Int)) (arr64_at f) (arr64_at g)
theorem eql64_same (f : Nat → Nat) (w : World) : (binOp .eql 33 (.agg (arr64 f)) (.agg (arr64 f))).run Try.prog w = .ok (.bool true) w := by
  rw [run_eql_struct, eqIn64]; simp
theorem neq64_same (f : Nat → Nat) (w : World) : (binOp .neq 33 (.agg (arr64 f)) (.agg (arr64 f))).run Try.prog w = .ok (.bool false) w := by
  rw [run_neq_struct, eqIn64]; simp

end Go.Proofs.Ytjeecpgcokjjjaa
