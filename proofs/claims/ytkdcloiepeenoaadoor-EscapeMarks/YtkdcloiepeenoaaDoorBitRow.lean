/-
  Rows of words and rows of truths that a call has made.
-/
import Derived.Test.YtkdcloiepeenoaaDoorFormedWalk
import Derived.Laws.OwnMore
namespace Go.Proofs.YtkdcloiepeenoaaDoor
open Go.RowKit

/-- The words as cells. -/
def rowCells (K : Nat) (Y : Nat → Nat) : Array Value := ((List.range K).map fun j => Value.int .u64 ((Y j : Nat) : Int)).toArray
theorem rowCells_size (K : Nat) (Y : Nat → Nat) : (rowCells K Y).size = K := by simp [rowCells]
theorem rowCells_get {K j : Nat} (Y : Nat → Nat) (h : j < K) : (rowCells K Y)[j]? = some (.int .u64 ((Y j : Nat) : Int)) := by simp [rowCells, h]
theorem rowCells_congr {K : Nat} {Y Y' : Nat → Nat} (h : ∀ j, j < K → Y j = Y' j) : rowCells K Y = rowCells K Y' := by
  unfold rowCells
  congr 1
  apply List.map_congr_left
  intro j hj
  rw [h j (by simpa using hj)]
theorem rowCells_set (K j x : Nat) (Y : Nat → Nat) : (rowCells K Y).setIfInBounds j (.int .u64 ((x : Nat) : Int)) = rowCells K (fun i => if i = j then x else Y i) := by
  apply Array.ext_getElem?
  intro i
  by_cases hi : i < K
  · rw [rowCells_get _ hi]
    by_cases hij : i = j
    · subst hij
      rw [Array.getElem?_setIfInBounds_self_of_lt (by rw [rowCells_size]; exact hi)]
      simp
    · rw [Array.getElem?_setIfInBounds_ne (by omega), rowCells_get _ hi]
      simp [hij]
  · rw [Array.getElem?_eq_none (by simp [rowCells_size]; omega), Array.getElem?_eq_none (by rw [rowCells_size]; omega)]
theorem rowCells_zero (K : Nat) : madeCells #[.int .u64 0] K = rowCells K (fun _ => 0) := by
  apply Array.ext_getElem?
  intro i
  by_cases hi : i < K
  · rw [rowCells_get _ hi]
    simp [madeCells, hi, Nat.mod_one]
  · rw [Array.getElem?_eq_none (by simp [madeCells]; omega), Array.getElem?_eq_none (by rw [rowCells_size]; omega)]
theorem infoW : (Tryd.prog.info? 39).map (fun i => (i.zero, i.size, i.bytes)) = some (some (.int .u64 0), 1, 8) := by kernel_rfl
theorem make_row (K : Nat) (hK : K ≤ 17592186044416) (u : World) : (Instr.makeSlice 22 (.int .i64 (K : Int)) (.int .i64 (K : Int))).run Tryd.prog u =
    .ok (.slice (some ⟨u.heap.size, 0, none⟩) K K) (u.alloc (.cells (rowCells K (fun _ => 0)) 39)) := by
  obtain ⟨i0, hi, hz0, hz1, hz2⟩ := info_parts infoW
  have h := run_make (P := Tryd.prog) u 22 39 i0 (.int .u64 0) Tryd.underlying22 hi hz0 .i64 .i64 (K : Int) (K : Int) (by omega) (Int.le_refl _) (by rw [hz2]; omega) (by omega)
  rw [Int.toNat_natCast] at h
  rw [h, ← rowCells_zero]
  simp [hz1, Value.cells]
/-- A block of words is read as a list of words. -/
theorem At.wds {w : World} {g K : Nat} {Y : Nat → Nat} {t : TypeId} (h : At w g (rowCells K Y) t) (hY : ∀ j, j < K → Y j < 18446744073709551616) {k : Nat} (hk : k ≤ K) : Wds w (some ⟨g, 0, none⟩) k Y := fun j hj => by
  refine ⟨hY j (by omega), g, 0, rfl, ?_⟩
  rw [Nat.zero_add, h.cell j, rowCells_get Y (by omega)]
theorem wds_none (w : World) (ao : Option Addr) (X : Nat → Nat) : Wds w ao 0 X := fun j hj => by omega

/-- Which places are named by the first m numbers. -/
def setTo (Z : Nat → Int) : Nat → Nat → Bool
  | 0, _ => false
  | m + 1, i => setTo Z m i || decide (Z m = (i : Int))
theorem rowOf_none (Z : Nat → Int) (N j : Nat) : rowOf (setTo Z 0) N j = 0 := by
  refine (rowOf_eq (by decide) (fun r _ => ?_)).symm
  simp [setTo]
/-- One place more. -/
theorem rowOf_next {Z : Nat → Int} {m N P : Nat} (hZ : Z m = (P : Int)) (hP : P < N) (j : Nat) : rowOf (setTo Z (m + 1)) N j = if j = P / 64 then rowOf (setTo Z m) N (P / 64) ||| 2 ^ (P % 64) else rowOf (setTo Z m) N j := by
  have hx : (if j = P / 64 then rowOf (setTo Z m) N (P / 64) ||| 2 ^ (P % 64) else rowOf (setTo Z m) N j) < 18446744073709551616 := by
    split
    · exact Nat.or_lt_two_pow (n := 64) (rowOf_lt _ _ _) (Nat.pow_lt_pow_right (by decide) (by omega))
    · exact rowOf_lt _ _ _
  refine (rowOf_eq hx (fun r hr => ?_)).symm
  have hb : ∀ j', (rowOf (setTo Z m) N j').testBit r = (decide (64 * j' + r < N) && setTo Z m (64 * j' + r)) := fun j' => by
    rw [rowOf, sumBits_bit, decide_eq_true hr]; rfl
  rw [setTo, hZ]
  by_cases hj : j = P / 64
  · rw [if_pos hj, Nat.testBit_or, hb, Nat.testBit_two_pow, ← hj]
    by_cases hr' : P % 64 = r
    · have e : (P : Int) = ((64 * j + r : Nat) : Int) := by omega
      rw [decide_eq_true hr', decide_eq_true e, decide_eq_true (show 64 * j + r < N by omega)]
      simp
    · have e : ¬ (P : Int) = ((64 * j + r : Nat) : Int) := by omega
      rw [decide_eq_false hr', decide_eq_false e]
      simp
  · rw [if_neg hj, hb]
    have e : ¬ (P : Int) = ((64 * j + r : Nat) : Int) := by omega
    rw [decide_eq_false e]
    simp
end Go.Proofs.YtkdcloiepeenoaaDoor
