/-
  What quarryref05.span and quarryref05.Begins answer of the first bytes of a form.
-/
import Derived.Test.YtlcihopklnnhdabUtf8RefMath
import Derived.Test.YtlcihopklnnhdabUtf8RefSize
namespace Go.Proofs.Ytlcihopklnnhdab
open Go.RowKit

/-- What span answers. -/
noncomputable def spanV (x : Nat) (t : List Nat) : Value := open Classical in if SpanOk x t then .tuple #[.int .i64 (sizeB x : Int), .int .i64 (loB x t : Int), .int .i64 (hiB5u x t : Int)] else .tuple #[.int .i64 0, .int .i64 1, .int .i64 0]
theorem spanV_pos {x : Nat} {t : List Nat} (h : SpanOk x t) : spanV x t = .tuple #[.int .i64 (sizeB x : Int), .int .i64 (loB x t : Int), .int .i64 (hiB5u x t : Int)] := if_pos h
theorem spanV_neg {x : Nat} {t : List Nat} (h : ¬ SpanOk x t) : spanV x t = .tuple #[.int .i64 0, .int .i64 1, .int .i64 0] := if_neg h
theorem okC_take {t : List Nat} (h : okC t) (k : Nat) : okC (t.take k) := fun y hy => h y (List.mem_of_mem_take hy)

end Go.Proofs.Ytlcihopklnnhdab
