/-
  What quarryref04.need, quarryref04.bit and quarryref04.Formed answer.
-/
import Derived.Test.YtmgbgphlkhkldaaDoorFormedWalk
namespace Go.Proofs.YtmgbgphlkhkldaaDoor
open Go.RowKit

theorem refNeed_calls (N : Nat) (M : Nat) (hN : N < 9223372036854775808) (hM : Hid (need N = M)) (w : World) : Calls Tryd.prog 82 #[.int .i64 (N : Int)] w fun e w' => e = .returned (.int .i64 (M : Int)) ∧ w' = w := by
  have hM' := hM.out
  unfold need at hM'
  clear hM
  go_enter Tryd.func82, Tryd.ntmps82
  by_cases h : (N : Int) % 64 = 0
  · have e1 : (N : Int) / 64 = (M : Int) := by omega
    have e2 : ((N : Int) % 64 != 0) = false := by simp [h]
    clear hM' h
    go_wp2
    go_ret
    exact ⟨rfl, rfl⟩
  · have e1 : (N : Int) / 64 + 1 = (M : Int) := by omega
    have e2 : ((N : Int) % 64 != 0) = true := by simpa using h
    clear hM' h
    go_wp2
    go_ret
    exact ⟨rfl, rfl⟩

theorem mod2_bit (x r : Nat) : (((x : Int) / 2 ^ r).tmod 2 == 1) = x.testBit r := by
  have h0 : 0 ≤ (x : Int) / 2 ^ r := Int.ediv_nonneg (by omega) (Int.le_of_lt (Int.pow_pos (by decide)))
  rw [Nat.testBit_eq_decide_div_mod_eq, Int.tmod_eq_emod_of_nonneg h0]
  have : ((x : Int) / 2 ^ r) % 2 = ((x / 2 ^ r % 2 : Nat) : Int) := by simp
  rw [this]
  by_cases h : x / 2 ^ r % 2 = 1
  · simp [h]
  · rw [decide_eq_false h]
    simp; omega

end Go.Proofs.YtmgbgphlkhkldaaDoor
