/-
  What words.Select answers.
-/
import Derived.Test.YtkdcloiepeenoabDoorEachSeq
namespace Go.Proofs.YtkdcloiepeenoabDoor
open Go.RowKit Go.Shelf

attribute [local go_sem] Oper.semAt_some

/-- The place of the set bit that has k set ones below it, or -1. -/
def selW (x : Nat) (k : Int) : Int := if 0 ≤ k then (match (places x)[k.toNat]? with | some p => (p : Int) | none => -1) else -1
theorem selW_at {x : Nat} {pre : List Nat} {p : Nat} {k : Int} (h : pre ++ [p] <+: places x) (hk : (pre.length : Int) = k) : selW x k = ((p % 64 : Nat) : Int) := by
  obtain ⟨t, ht⟩ := h
  subst hk
  have e : (places x)[pre.length]? = some p := by rw [← ht]; simp
  have hp : p < 64 := (places_lt (List.mem_of_getElem? e)).1
  rw [selW, if_pos (by omega), Int.toNat_natCast, e, Nat.mod_eq_of_lt hp]
theorem selW_none {x : Nat} {k : Int} (h : k < 0 ∨ (places x).length ≤ k) : selW x k = -1 := by
  rw [selW]
  split
  · rw [List.getElem?_eq_none (by omega)]
  · rfl

end Go.Proofs.YtkdcloiepeenoabDoor
