/-
 Tables of rows; the path of a node.
-/
import Derived.Test.YtbabdhepnjacdaaDoorTiG
namespace Go.Proofs.YtbabdhepnjacdaaDoor
open Go.RowKit Go.Shelf
/-- A table of N rows, each of as many cells. -/
def tabC (N : Nat) (C : Nat → List Value) : Array Value := ((List.range N).flatMap C).toArray
section
variable {z N : Nat} {C : Nat → List Value}
theorem tabL_len : ∀ N, (∀ i, i < N → (C i).length = z) → ((List.range N).flatMap C).length = N * z
 | 0, _ => by simp
 | N + 1, h => by
  have := tabL_len N (fun i hi => h i (by omega))
  rw [List.range_succ, List.flatMap_append, List.length_append, this]
  simp [h N (by omega)]
  rw [Nat.succ_mul]
theorem tabL_get : ∀ N, (∀ i, i < N → (C i).length = z) → ∀ i j, i < N → j < z → ((List.range N).flatMap C)[i * z + j]? = (C i)[j]?
 | 0, _, i, j, hi, _ => by omega
 | N + 1, h, i, j, hi, hj => by
  have hl := tabL_len (z := z) N (fun i hi => h i (by omega))
  rw [List.range_succ, List.flatMap_append]
  by_cases e : i < N
  ·have ih := tabL_get N (fun i hi => h i (by omega)) i j e hj
   have h1 : i * z + j < N * z := by
    have : (i + 1) * z ≤ N * z := Nat.mul_le_mul_right z e
    rw [Nat.succ_mul] at this
    omega
   rw [List.getElem?_append_left (by rw [hl]; exact h1)]
   exact ih
  ·obtain rfl : i = N := by omega
   rw [List.getElem?_append_right (by rw [hl]; omega), hl, show i * z + j - i * z = j by omega]
   simp
theorem tabC_size (h : ∀ i, i < N → (C i).length = z) : (tabC N C).size = N * z := by simp only [tabC, List.size_toArray]; exact tabL_len N h
theorem tabC_get (h : ∀ i, i < N → (C i).length = z) {i j : Nat} (hi : i < N) (hj : j < z) : (tabC N C)[i * z + j]? = (C i)[j]? := by
 simp only [tabC, List.getElem?_toArray]
 exact tabL_get N h i j hi hj
theorem tabC_congr {D : Nat → List Value} (h : ∀ i, i < N → C i = D i) : tabC N C = tabC N D := by
 unfold tabC
 congr 1
 induction N with
 | zero => rfl
 | succ N ih =>
  rw [List.range_succ, List.flatMap_append, List.flatMap_append, ih (fun i hi => h i (by omega))]
  simp [h N (by omega)]
theorem tab_ext {D : Array Value} (h : ∀ i, i < N → (C i).length = z) (hz : 0 < z) (hs : D.size = N * z) (hg : ∀ i j, i < N → j < z → D[i * z + j]? = (C i)[j]?) : D = tabC N C := by
 apply Array.ext_getElem?
 intro k
 by_cases hk : k < N * z
 ·have h1 : k / z < N := Nat.div_lt_of_lt_mul (by rwa [Nat.mul_comm] at hk)
  have h2 : k % z < z := Nat.mod_lt _ hz
  have h3 : k / z * z + k % z = k := Nat.div_add_mod' k z
  have h4 := hg (k / z) (k % z) h1 h2
  have h5 := tabC_get h h1 h2
  rw [h3] at h4 h5
  rw [h4, h5]
 ·rw [Array.getElem?_eq_none (by omega), Array.getElem?_eq_none (by rw [tabC_size h]; omega)]
theorem tab_made (zc : Array Value) (hzc : 0 < zc.size) (N : Nat) : madeCells zc (N * zc.size) = tabC N (fun _ => zc.toList) := by
 refine tab_ext (z := zc.size) (fun i _ => by simp) hzc (size_madeCells _ _) (fun i j hi hj => ?_)
 have h1 : i * zc.size + j < N * zc.size := by
  have : (i + 1) * zc.size ≤ N * zc.size := Nat.mul_le_mul_right _ hi
  rw [Nat.succ_mul] at this
  omega
 have h2 : (i * zc.size + j) % zc.size = j := by rw [Nat.mul_comm, Nat.mul_add_mod, Nat.mod_eq_of_lt hj]
 simp [madeCells, h1, h2, hj]
theorem tab_set {w : World} {b : Nat} {t : TypeId} (h : At w b (tabC N C) t) (hC : ∀ i, i < N → (C i).length = z) (hz : 0 < z) {x : Nat} (hx : x < N) {v : List Value} (hv : v.length = z) :
  At (w.setCells b (x * z) v) b (tabC N fun i => if i = x then v else C i) t := by
 have hs := tabC_size hC
 have hb : x * z + z ≤ N * z := by
  have : (x + 1) * z ≤ N * z := Nat.mul_le_mul_right z hx
  rw [Nat.succ_mul] at this
  exact this
 obtain ⟨ds, h1, h2, lo, mid, hi⟩ := At.setCells_at v (x * z) h (by rw [hs, hv]; exact hb)
 have e : ds = tabC N fun i => if i = x then v else C i := by
  refine tab_ext (z := z) (fun i hi => by split; exact hv; exact hC i hi) hz (by rw [h2, hs]) (fun i j hi' hj => ?_)
  by_cases e : i = x
  ·subst e
   rw [if_pos rfl, mid j (by rw [hv]; exact hj)]
  ·rw [if_neg e, ← tabC_get hC hi' hj]
   by_cases hl : i < x
   ·have : (i + 1) * z ≤ x * z := Nat.mul_le_mul_right z hl
    rw [Nat.succ_mul] at this
    exact lo _ (by omega)
   ·have : (x + 1) * z ≤ i * z := Nat.mul_le_mul_right z (by omega)
    rw [Nat.succ_mul] at this
    exact hi _ (by rw [hv]; omega)
 rw [← e]
 exact h1
theorem tab_cell {w : World} {b : Nat} {t : TypeId} (h : At w b (tabC N C) t) (hC : ∀ i, i < N → (C i).length = z) {i j : Nat} (hi : i < N) (hj : j < z) : w.cell? ⟨b, i * z + j, none⟩ = (C i)[j]? := by rw [h.cell, tabC_get hC hi hj]
theorem tab_row {w : World} {b : Nat} {t : TypeId} (h : At w b (tabC N C) t) (hC : ∀ i, i < N → (C i).length = z) {i : Nat} (hi : i < N) : w.rangeAt b (i * z) (C i) := fun j y hj => by
 have hj' : j < z := by have := (List.getElem?_eq_some_iff.1 hj).1; rw [hC i hi] at this; exact this
 rw [tab_cell h hC hi hj']
 exact hj
theorem tab_there {w : World} {b : Nat} {t : TypeId} (h : At w b (tabC N C) t) (hC : ∀ i, i < N → (C i).length = z) {i : Nat} (hi : i < N) : w.there b (i * z) z := fun j hj => by
 refine ⟨?_, h.frozen _⟩
 rw [tab_cell h hC hi hj, List.getElem?_eq_getElem (by rw [hC i hi]; exact hj)]
 rfl
end
/-- The path of a node. -/
inductive PthOf (t : List Nod) : Nat → List Stp → Prop
 | root : PthOf t 0 []
 | step {a j x : Nat} {n : Nod} {s : Stp} {p : List Stp} (hn : t[a]? = some n) (hx : n.tos[j]? = some (x : Int)) (hs : n.steps[j]? = some s) (h : PthOf t a p) : PthOf t x (p ++ [s])
theorem frm_lnk {t : List Nod} (h : FrmR t) : (toA t).Nodup ∧ ToOk t t.length := ⟨((frm_iff t).1 h).2.1.2.1, ((frm_iff t).1 h).2.1.1⟩
theorem PthOf.len {t : List Nod} (hf : FrmR t) {x : Nat} {p : List Stp} (hp : PthOf t x p) : p.length ≤ x := by
 obtain ⟨hd, hto⟩ := frm_lnk hf
 induction hp with
 | root => exact Nat.le_refl _
 | step hn hx hs h ih =>
  have := hto _ _ hn _ (List.mem_of_getElem? hx)
  rw [List.length_append, List.length_singleton]
  omega
end Go.Proofs.YtbabdhepnjacdaaDoor
