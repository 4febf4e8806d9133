/-
  What quarryref03.Has answers: whether a bit is set.
-/
import Derived.Test.YtkoillfkillohaaWordsMath
namespace Go.Proofs.Ytkoillfkillohaa
open Go.RowKit

theorem has_calls (x i : Nat) (hx : x < 18446744073709551616) (hi : i < 64) (w : World) : Calls Try.prog 11 #[.int .u64 (x:Int), .int .i64 (i:Int)] w fun e w' => e = .returned (.bool (x.testBit i)) ∧ w' = w := by
  go_enter Try.func11, Try.ntmps11
  go_wp2
  go_ret
  exact ⟨by simp [has_eq x i hx], rfl⟩

end Go.Proofs.Ytkoillfkillohaa
