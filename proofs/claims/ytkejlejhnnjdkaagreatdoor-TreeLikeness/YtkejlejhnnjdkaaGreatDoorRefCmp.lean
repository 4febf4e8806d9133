/-
 What the reference's Cmp answers: the same.
-/
import Derived.Test.YtkejlejhnnjdkaaGreatDoorDecCmp
import Derived.Test.YtkejlejhnnjdkaaGreatDoorDecR
namespace Go.Proofs.YtkejlejhnnjdkaaGreatDoor
open Go.RowKit Go.Shelf
theorem cmpB_neg : ∀ (a b : List UInt8), Lib.compareBytes b a = - Lib.compareBytes a b
 | [], [] => rfl
 | [], _ :: _ => rfl
 | _ :: _, [] => rfl
 | a :: u, b :: v => by
  unfold Lib.compareBytes
  have ih := cmpB_neg u v
  by_cases h1 : a < b
  ·have h2 : ¬ b < a := fun h => by have := UInt8.lt_iff_toNat_lt.1 h1; have := UInt8.lt_iff_toNat_lt.1 h; omega
   simp only [h1, h2, if_true, if_false]; rfl
  ·by_cases h2 : b < a
   ·simp only [h1, h2, if_true, if_false]
   ·simp only [h1, h2, if_false]; exact ih
theorem cmpI_neg (a b : Int) : Lib.compareInt b a = - Lib.compareInt a b := by
 unfold Lib.compareInt
 split <;> split <;> (try split) <;> (try rfl) <;> omega
theorem siz_neg (t : ByteArray) (x : Int) (t' : ByteArray) (x' : Int) : sizS t' x' t x = - sizS t x t' x' := by
 unfold sizS
 rw [cmpI_neg (topS t x) (topS t' x'), cmpB_neg t.data.toList t'.data.toList]
 by_cases h : Lib.compareInt (topS t x) (topS t' x') = 0
 ·rw [if_neg (by simp [h]), if_neg (by simp [h])]
 ·rw [if_pos (by simpa using h), if_pos h]
end Go.Proofs.YtkejlejhnnjdkaaGreatDoor
