/-
 What the reference's Formed answers.
-/
import Derived.Test.YtlmjiocdhobopaaGreatDoorDecR
namespace Go.Proofs.YtlmjiocdhobopaaGreatDoor
open Go.RowKit Go.Shelf
set_option maxRecDepth 10000 in
theorem refDig_calls (s : ByteArray) (i : Nat) (B : Bool) (hB : Hid (dgB (lk s i) = B)) (w : World) :
  Calls Tryz.prog 94 #[.string s, .int .i64 (i : Int)] w fun e w' => e = .returned (.bool B) ∧ w' = w := by
 go_enter Tryz.func94, Tryz.ntmps94
 by_cases hi : i < s.size
 ·have e0 : decide ((i : Int) < (s.size : Int)) = true := by simp; omega
  have hiI : (i : Int) < (s.size : Int) := by omega
  obtain ⟨y, hy⟩ : ∃ y, s[i].toNat = y := ⟨_, rfl⟩
  have hb := hid (show dgB y = B by rw [← hB.out, lk_at s i hi, hy])
  clear hB
  by_cases h1 : 48 ≤ y
  ·by_cases h2 : y ≤ 57
   ·have e : B = true := by rw [← hb.out]; exact (dgB_iff y).2 ⟨h1, h2⟩
    subst e
    have e1 : decide ((48 : Int) ≤ (y : Int)) = true := by simp; omega
    have e2 : decide ((y : Int) ≤ 57) = true := by simp; omega
    clear hb
    go_wp2
    go_ret
    exact ⟨by first | rfl | (simp; done) | (simp; omega), rfl⟩
   ·have e : B = false := by rw [← hb.out]; unfold dgB; simp; omega
    subst e
    have e1 : decide ((48 : Int) ≤ (y : Int)) = true := by simp; omega
    have e2 : decide ((y : Int) ≤ 57) = false := by simp; omega
    clear hb
    go_wp2
    go_ret
    exact ⟨by first | rfl | (simp; done) | (simp; omega), rfl⟩
  ·have e : B = false := by rw [← hb.out]; unfold dgB; simp; omega
   subst e
   have e1 : decide ((48 : Int) ≤ (y : Int)) = false := by simp; omega
   clear hb
   go_wp2
   go_ret
   exact ⟨by first | rfl | (simp; done) | (simp; omega), rfl⟩
 ·have e : B = false := by rw [← hB.out, lk_out s i (by omega)]; rfl
  subst e
  have e0 : decide ((i : Int) < (s.size : Int)) = false := by simp; omega
  clear hB
  go_wp2
  go_ret
  exact ⟨by first | rfl | (simp; done) | (simp; omega), rfl⟩
end Go.Proofs.YtlmjiocdhobopaaGreatDoor
