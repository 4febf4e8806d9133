/-
  Classes held against one another.
-/
import Derived.Test.YtjeecpgcokjjjabBlockOnly
namespace Go.Proofs.Ytjeecpgcokjjjab
open Go.RowKit

theorem fields_class : Try.prog.fieldsOf 25 = #[{ name := "Words", type := 23, offset := 0, embedded := false, tag := "", pkgPath := "", byteOffset := 0 }] := by kernel_rfl
theorem part_class (c : Nat → Nat) (w : World) : (Go.part 23 (clsArr c) 0).run Try.prog w = .ok (.agg (clsArr c)) w := by
  rw [clsArr_lit]; kernel_rfl
theorem eqIn_class (c d : Nat → Nat) (w : World) : (Op.equalIn 10000 25 (.agg (clsArr c)) (.agg (clsArr d))).run Try.prog w = .ok ((List.range 4).all fun i => ((c i : Nat) : Int) == ((d i : Nat) : Int)) w := by
  rw [run_equalIn_struct w 9999 25 _ _ (by kernel_rfl) (by kernel_rfl), fields_class]
  simp only [Op.eqFields, Sem.run_bind, Sem.run_ite]
  rw [if_pos (by decide), part_class, Result.andThen_ok, part_class, Result.andThen_ok,
    run_equalIn_fun w 9997 23 22 4 .u64 Try.underlying23 Try.underlying22 size_word (clsArr c) (clsArr d) (fun i => ((c i : Nat) : Int)) (fun i => ((d i : Nat) : Int)) (clsArr_at c) (clsArr_at d), Result.andThen_ok]
  cases ((List.range 4).all fun i => ((c i : Nat) : Int) == ((d i : Nat) : Int)) <;> simp
theorem eqIn_same (c : Nat → Nat) (w : World) : (Op.equalIn 10000 25 (.agg (clsArr c)) (.agg (clsArr c))).run Try.prog w = .ok true w := by
  rw [eqIn_class]; simp
theorem eql_same (c : Nat → Nat) (w : World) : (binOp .eql 25 (.agg (clsArr c)) (.agg (clsArr c))).run Try.prog w = .ok (.bool true) w := by
  rw [run_eql_struct, eqIn_same]; rfl
theorem neq_same (c : Nat → Nat) (w : World) : (binOp .neq 25 (.agg (clsArr c)) (.agg (clsArr c))).run Try.prog w = .ok (.bool false) w := by
  rw [run_neq_struct, eqIn_same]; rfl
end Go.Proofs.Ytjeecpgcokjjjab
