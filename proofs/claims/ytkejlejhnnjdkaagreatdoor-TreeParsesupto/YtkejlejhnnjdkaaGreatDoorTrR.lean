/-
 quarryref17.skip: behind blanks.
-/
import Derived.Test.YtkejlejhnnjdkaaGreatDoorPack5
namespace Go.Proofs.YtkejlejhnnjdkaaGreatDoor
open Go.RowKit Go.Shelf
set_option maxRecDepth 10000 in
set_option maxHeartbeats 4000000 in
theorem skip17_calls (s : ByteArray) (hs : s.size ≤ 281474976710656) (j k : Nat) (hk : Hid (IsSkip s j k)) (w : World) :
  Calls Tryz.prog 37 #[.string s, .int .i64 (j : Int)] w fun e w' => e = .returned (.int .i64 (k : Int)) ∧ w' = w := by
 have hsi : (s.size : Int) ≤ 281474976710656 := by omega
 obtain ⟨k1, k2, k3, k4⟩ := hk.out
 have k3' := hid k3
 have k4' := hid k4
 have hki : (k : Int) ≤ (s.size : Int) := by omega
 clear k3 k4 hk
 go_enter Tryz.func37, Tryz.ntmps37
 go_wp2
 go_loopw [1] (fun ii wr => ∃ q : Nat, j ≤ q ∧ q ≤ k ∧ ii = .int .i64 (q : Int) ∧ wr = w) (fun ii _ => k + 1 - (intOf ii).toNat)
 case atStart => exact ⟨j, Nat.le_refl _, k1, rfl, rfl⟩
 case round =>
  obtain ⟨q, hq1, hq2, rfl, rfl⟩ := hrel
  by_cases hqs : q < s.size
  ·have hqi : (q : Int) < (s.size : Int) := by omega
   obtain ⟨y, hY⟩ : ∃ y, Hid (byteAt s q = y) := ⟨_, rfl⟩
   have hy := byteAt_eq s q hqs
   rw [hY.out] at hy
   have hyl : y < 256 := by rw [← hy]; exact (s[q]'hqs).toNat_lt
   by_cases hqe : q = k
   ·subst hqe
    have hb0 : blankN y = false := by
     rcases k4'.out with h | h
     ·omega
     ·rw [← hY.out]; exact h
    have hb1 : ¬ (y = 32 ∨ y = 9 ∨ y = 10 ∨ y = 13) := by simpa [blankN] using hb0
    have e1 : ((y : Int) == 32) = false := by simp; omega
    have e2 : ((y : Int) == 9) = false := by simp; omega
    have e3 : ((y : Int) == 10) = false := by simp; omega
    have e4 : ((y : Int) == 13) = false := by simp; omega
    clear hb0 hb1
    go_wp2
    go_ret
    exact ⟨rfl, rfl⟩
   ·have hb0 : blankN y = true := by rw [← hY.out]; exact k3'.out q hq1 (by omega)
    have hb1 : y = 32 ∨ y = 9 ∨ y = 10 ∨ y = 13 := by simpa [blankN] using hb0
    clear hb0
    rcases hb1 with rfl | rfl | rfl | rfl
    all_goals
     go_wp2
     go_roundw
     case rel => exact ⟨q + 1, by omega, by omega, by simp, by trivial⟩
     case measure => simp [intOf]; omega
  ·have hqi : ¬ (q : Int) < (s.size : Int) := by omega
   obtain rfl : q = k := by omega
   go_wp2
   go_ret
   exact ⟨rfl, rfl⟩
end Go.Proofs.YtkejlejhnnjdkaaGreatDoor
