/-
 A name as a place: what the reference says.
-/
import Derived.Test.YtjlcliicdclooaaDoorPack1
namespace Go.Proofs.YtjlcliicdclooaaDoor
open Go.RowKit Go.Shelf
/-- The number of the first digits. -/
def plN (s : ByteArray) : Nat → Nat
 | 0 => 0
 | i + 1 => plN s i * 10 + (lk s i - 48)
/-- Is a name a place? -/
def plB (s : ByteArray) : Bool := decide (1 ≤ s.size ∧ s.size ≤ 18 ∧ (lk s 0 = 48 → s.size = 1)) && decide (∀ i, i < s.size → 48 ≤ lk s i ∧ lk s i ≤ 57)
def plV (s : ByteArray) : Int := if plB s = true then (plN s s.size : Int) else 0
theorem plN_lt (s : ByteArray) : ∀ i, (∀ j, j < i → lk s j ≤ 57) → plN s i < 10 ^ i
 | 0, _ => by simp [plN]
 | i + 1, h => by
  have h1 := plN_lt s i (fun j hj => h j (by omega))
  have h2 := h i (by omega)
  rw [plN, Nat.pow_succ]
  omega
theorem plN_17 (s : ByteArray) (i : Nat) (hi : i ≤ 17) (h : ∀ j, j < i → lk s j ≤ 57) : plN s i < 100000000000000000 := by
 have h1 := plN_lt s i h
 have h2 : 10 ^ i ≤ 10 ^ 17 := Nat.pow_le_pow_right (by decide) hi
 exact Nat.lt_of_lt_of_le h1 h2
theorem plB_no {s : ByteArray} (h : ¬ (1 ≤ s.size ∧ s.size ≤ 18 ∧ (lk s 0 = 48 → s.size = 1))) : plB s = false := by unfold plB; rw [decide_eq_false h]; rfl
theorem plB_bad {s : ByteArray} {i : Nat} (hi : i < s.size) (h : ¬ (48 ≤ lk s i ∧ lk s i ≤ 57)) : plB s = false := by
 unfold plB
 rw [show decide (∀ i, i < s.size → 48 ≤ lk s i ∧ lk s i ≤ 57) = false from decide_eq_false (fun h' => h (h' i hi)), Bool.and_false]
theorem plB_yes {s : ByteArray} (h1 : 1 ≤ s.size) (h2 : s.size ≤ 18) (h3 : lk s 0 = 48 → s.size = 1) (h : ∀ i, i < s.size → 48 ≤ lk s i ∧ lk s i ≤ 57) : plB s = true := by
 unfold plB
 rw [decide_eq_true (show 1 ≤ s.size ∧ s.size ≤ 18 ∧ (lk s 0 = 48 → s.size = 1) from ⟨h1, h2, h3⟩), decide_eq_true h]
 rfl
theorem plV_no {s : ByteArray} (h : plB s = false) : plV s = 0 := by unfold plV; rw [h]; rfl
theorem plV_yes {s : ByteArray} (h : plB s = true) : plV s = (plN s s.size : Int) := by unfold plV; rw [h]; rfl
end Go.Proofs.YtjlcliicdclooaaDoor
