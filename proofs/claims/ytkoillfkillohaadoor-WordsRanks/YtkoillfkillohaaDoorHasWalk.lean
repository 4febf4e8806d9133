/-
  What quarryref03.Has answers: whether a bit is set.
-/
import Derived.Test.YtkoillfkillohaaDoorWordsMath
namespace Go.Proofs.YtkoillfkillohaaDoor
open Go.RowKit

theorem has_eq (x i : Nat) (hx : x < 18446744073709551616) : (bits BinOp.and IntKind.u64 ((x : Int) / 2 ^ i) 1 == 1) = x.testBit i := by
  have e : ((x : Int) / 2 ^ i) = ((x / 2 ^ i : Nat) : Int) := by simp
  have h := bits_and_u64_nat (x / 2 ^ i) 1 (Nat.lt_of_le_of_lt (Nat.div_le_self _ _) hx) (by decide)
  rw [e, show (1 : Int) = ((1 : Nat) : Int) from rfl, h, and_one]
  cases x.testBit i <;> rfl

theorem has_calls (x i : Nat) (hx : x < 18446744073709551616) (hi : i < 64) (w : World) : Calls Tryd.prog 20 #[.int .u64 (x:Int), .int .i64 (i:Int)] w fun e w' => e = .returned (.bool (x.testBit i)) ∧ w' = w := by
  go_enter Tryd.func20, Tryd.ntmps20
  go_wp2
  go_ret
  exact ⟨by simp [has_eq x i hx], rfl⟩

end Go.Proofs.YtkoillfkillohaaDoor
