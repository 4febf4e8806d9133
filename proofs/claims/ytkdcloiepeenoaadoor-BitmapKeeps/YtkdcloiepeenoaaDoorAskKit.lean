/-
  What the calls that ask a row of bits have in common.
-/
import Derived.Test.YtkdcloiepeenoaaDoorJoinWalk
import Derived.Test.YtkdcloiepeenoaaDoorSelectWalk
import Derived.Test.YtkdcloiepeenoaaDoorLen64Walk
namespace Go.Proofs.YtkdcloiepeenoaaDoor
open Go.RowKit Go.Shelf

theorem len64_calls (x K : Nat) (hx : x < 18446744073709551616) (hK : Hid (Lib.bitLen x = K)) (w : World) : Calls Tryd.prog 55 #[.int .u64 (x : Int)] w fun e w' => e = .returned (.int .i64 (K : Int)) ∧ w' = w := by
  have h := len64_int (x : Int) (by omega) (by omega) w
  rw [Int.toNat_natCast, hK.out] at h
  exact h
end Go.Proofs.YtkdcloiepeenoaaDoor
