/-
 quarryref00.told: the most that an answer writes of one part.
-/
import Derived.Test.YtlmjiocdhobopaaGreatDoorPack1
namespace Go.Proofs.YtlmjiocdhobopaaGreatDoor
open Go.RowKit Go.Shelf
/-- The most that is written of a part with x bytes of text at depth d, to which a way of y bytes leads. -/
def toldN (x d y : Int) : Int := if 1025 < d then 1 + x else 16 + 6 * x + 16 * d + y
theorem toldN_deep {x d y : Int} (h : 1025 < d) : toldN x d y = 1 + x := by simp [toldN, h]
theorem toldN_flat {x d y : Int} (h : ¬ 1025 < d) : toldN x d y = 16 + 6 * x + 16 * d + y := by simp [toldN, h]
/-- A part whose cost is within what is left has texts that are. -/
theorem toldN_text {x d y : Int} (hx : 0 ≤ x) (hd : 0 ≤ d) (hy : 0 ≤ y) : x < toldN x d y := by unfold toldN; split <;> omega
set_option maxRecDepth 10000 in
set_option maxHeartbeats 1000000 in
theorem told_calls (x d y : Int) (hx : 0 ≤ x) (hx' : x ≤ 281474976702464) (hd : 0 ≤ d) (hd' : d ≤ 65536) (hy : 0 ≤ y) (hy' : y ≤ 281479271677952) (w : World) :
  Calls Tryz.prog 29 #[.int .i64 x, .int .i64 d, .int .i64 y] w fun e w' => e = .returned (.int .i64 (toldN x d y)) ∧ w' = w := by
 by_cases h : 1025 < d
 ·rw [toldN_deep h]
  go_enter Tryz.func29, Tryz.ntmps29
  go_wp2
  go_ret
  exact ⟨rfl, rfl⟩
 ·rw [toldN_flat h]
  go_enter Tryz.func29, Tryz.ntmps29
  go_wp2
  go_ret
  exact ⟨rfl, rfl⟩
end Go.Proofs.YtlmjiocdhobopaaGreatDoor
