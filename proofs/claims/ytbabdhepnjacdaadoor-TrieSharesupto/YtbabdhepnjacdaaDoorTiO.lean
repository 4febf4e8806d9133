/-
 Tables of rows; the path of a node.
-/
import Derived.Test.YtbabdhepnjacdaaDoorTiH
namespace Go.Proofs.YtbabdhepnjacdaaDoor
open Go.RowKit Go.Shelf
/-- A table of N rows, each of as many cells. -/
def tabC (N : Nat) (C : Nat → List Value) : Array Value := ((List.range N).flatMap C).toArray
section
variable {z N : Nat} {C : Nat → List Value}
theorem tabL_len : ∀ N, (∀ i, i < N → (C i).length = z) → ((List.range N).flatMap C).length = N * z
 | 0, _ => by simp
 | N + 1, h => by
  have := tabL_len N (fun i hi => h i (by omega))
  rw [List.range_succ, List.flatMap_append, List.length_append, this]
  simp [h N (by omega)]
  rw [Nat.succ_mul]
theorem tabL_get : ∀ N, (∀ i, i < N → (C i).length = z) → ∀ i j, i < N → j < z → ((List.range N).flatMap C)[i * z + j]? = (C i)[j]?
 | 0, _, i, j, hi, _ => by omega
 | N + 1, h, i, j, hi, hj => by
  have hl := tabL_len (z := z) N (fun i hi => h i (by omega))
  rw [List.range_succ, List.flatMap_append]
  by_cases e : i < N
  ·have ih := tabL_get N (fun i hi => h i (by omega)) i j e hj
   have h1 : i * z + j < N * z := by
    have : (i + 1) * z ≤ N * z := Nat.mul_le_mul_right z e
    rw [Nat.succ_mul] at this
    omega
   rw [List.getElem?_append_left (by rw [hl]; exact h1)]
   exact ih
  ·obtain rfl : i = N := by omega
   rw [List.getElem?_append_right (by rw [hl]; omega), hl, show i * z + j - i * z = j by omega]
   simp
theorem tabC_size (h : ∀ i, i < N → (C i).length = z) : (tabC N C).size = N * z := by simp only [tabC, List.size_toArray]; exact tabL_len N h
theorem tabC_get (h : ∀ i, i < N → (C i).length = z) {i j : Nat} (hi : i < N) (hj : j < z) : (tabC N C)[i * z + j]? = (C i)[j]? := by
 simp only [tabC, List.getElem?_toArray]
 exact tabL_get N h i j hi hj
theorem tabC_congr {D : Nat → List Value} (h : ∀ i, i < N → C i = D i) : tabC N C = tabC N D := by
 unfold tabC
 congr 1
 induction N with
 | zero => rfl
 | succ N ih =>
  rw [List.range_succ, List.flatMap_append, List.flatMap_append, ih (fun i hi => h i (by omega))]
  simp [h N (by omega)]
theorem tab_ext {D : Array Value} (h : ∀ i, i < N → (C i).length = z) (hz : 0 < z) (hs : D.size = N * z) (hg : ∀ i j, i < N → j < z → D[i * z + j]? = (C i)[j]?) : D = tabC N C := by
 apply Array.ext_getElem?
 intro k
 by_cases hk : k < N * z
 ·have h1 : k / z < N := Nat.div_lt_of_lt_mul (by rwa [Nat.mul_comm] at hk)
  have h2 : k % z < z := Nat.mod_lt _ hz
  have h3 : k / z * z + k % z = k := Nat.div_add_mod' k z
  have h4 := hg (k / z) (k % z) h1 h2
  have h5 := tabC_get h h1 h2
  rw [h3] at h4 h5
  rw [h4, h5]
 ·rw [Array.getElem?_eq_none (by omega), Array.getElem?_eq_none (by rw [tabC_size h]; omega)]
theorem tab_made (zc : Array Value) (hzc : 0 < zc.size) (N : Nat) : madeCells zc (N * zc.size) = tabC N (fun _ => zc.toList) := by
 refine tab_ext (z := zc.size) (fun i _ => by simp) hzc (size_madeCells _ _) (fun i j hi hj => ?_)
 have h1 : i * zc.size + j < N * zc.size := by
  have : (i + 1) * zc.size ≤ N * zc.size := Nat.mul_le_mul_right _ hi
  rw [Nat.succ_mul] at this
  omega
 have h2 : (i * zc.size + j) % zc.size = j := by rw [Nat.mul_comm, Nat.mul_add_mod, Nat.mod_eq_of_lt hj]
 simp [madeCells, h1, h2, hj]
theorem tab_set {w : World} {b : Nat} {t : TypeId} (h : At w b (tabC N C) t) (hC : ∀ i, i < N → (C i).length = z) (hz : 0 < z) {x : Nat} (hx : x < N) {v : List Value} (hv : v.length = z) :
  At (w.setCells b (x * z) v) b (tabC N fun i => if i = x then v else C i) t := by
 have hs := tabC_size hC
 have hb : x * z + z ≤ N * z := by
  have : (x + 1) * z ≤ N * z := Nat.mul_le_mul_right z hx
  rw [Nat.succ_mul] at this
  exact this
 obtain ⟨ds, h1, h2, lo, mid, hi⟩ := At.setCells_at v (x * z) h (by rw [hs, hv]; exact hb)
 have e : ds = tabC N fun i => if i = x then v else C i := by
  refine tab_ext (z := z) (fun i hi => by split; exact hv; exact hC i hi) hz (by rw [h2, hs]) (fun i j hi' hj => ?_)
  by_cases e : i = x
  ·subst e
   rw [if_pos rfl, mid j (by rw [hv]; exact hj)]
  ·rw [if_neg e, ← tabC_get hC hi' hj]
   by_cases hl : i < x
   ·have : (i + 1) * z ≤ x * z := Nat.mul_le_mul_right z hl
    rw [Nat.succ_mul] at this
    exact lo _ (by omega)
   ·have : (x + 1) * z ≤ i * z := Nat.mul_le_mul_right z (by omega)
    rw [Nat.succ_mul] at this
    exact hi _ (by rw [hv]; omega)
 rw [← e]
 exact h1
theorem tab_cell {w : World} {b : Nat} {t : TypeId} (h : At w b (tabC N C) t) (hC : ∀ i, i < N → (C i).length = z) {i j : Nat} (hi : i < N) (hj : j < z) : w.cell? ⟨b, i * z + j, none⟩ = (C i)[j]? := by rw [h.cell, tabC_get hC hi hj]
theorem tab_row {w : World} {b : Nat} {t : TypeId} (h : At w b (tabC N C) t) (hC : ∀ i, i < N → (C i).length = z) {i : Nat} (hi : i < N) : w.rangeAt b (i * z) (C i) := fun j y hj => by
 have hj' : j < z := by have := (List.getElem?_eq_some_iff.1 hj).1; rw [hC i hi] at this; exact this
 rw [tab_cell h hC hi hj']
 exact hj
theorem tab_there {w : World} {b : Nat} {t : TypeId} (h : At w b (tabC N C) t) (hC : ∀ i, i < N → (C i).length = z) {i : Nat} (hi : i < N) : w.there b (i * z) z := fun j hj => by
 refine ⟨?_, h.frozen _⟩
 rw [tab_cell h hC hi hj, List.getElem?_eq_getElem (by rw [hC i hi]; exact hj)]
 rfl
end
/-- The path of a node. -/
inductive PthOf (t : List Nod) : Nat → List Stp → Prop
 | root : PthOf t 0 []
 | step {a j x : Nat} {n : Nod} {s : Stp} {p : List Stp} (hn : t[a]? = some n) (hx : n.tos[j]? = some (x : Int)) (hs : n.steps[j]? = some s) (h : PthOf t a p) : PthOf t x (p ++ [s])
theorem to_uniq {t : List Nod} (hd : (toA t).Nodup) {a b i j : Nat} {n m : Nod} {x : Int} (hn : t[a]? = some n) (hx : n.tos[i]? = some x) (hm : t[b]? = some m) (hy : m.tos[j]? = some x) : a = b ∧ i = j := by
 have key : ∀ {a b i j : Nat} {n m : Nod}, t[a]? = some n → n.tos[i]? = some x → t[b]? = some m → m.tos[j]? = some x → ¬ a < b := fun {a b i j n m} hn hx hm hy hab => by
  have h1 := hd.sublist (flat_pre Nod.tos hm m.tos.length)
  rw [List.take_length] at h1
  have h2 : x ∈ (t.take b).flatMap Nod.tos := List.mem_flatMap.2 ⟨n, by
   have : (t.take b)[a]? = some n := by rw [List.getElem?_take_of_lt hab]; exact hn
   exact List.mem_of_getElem? this, List.mem_of_getElem? hx⟩
  exact (List.nodup_append.1 h1).2.2 _ h2 _ (List.mem_of_getElem? hy) rfl
 have e : a = b := by
  have h1 := key hn hx hm hy
  have h2 := key hm hy hn hx
  omega
 subst e
 have := hn.symm.trans hm
 cases this
 refine ⟨rfl, ?_⟩
 have h1 := hd.sublist (flat_pre Nod.tos hn n.tos.length)
 rw [List.take_length] at h1
 have h2 := (List.nodup_append.1 h1).2.1
 obtain ⟨l1, e1⟩ := List.getElem?_eq_some_iff.1 hx
 obtain ⟨l2, e2⟩ := List.getElem?_eq_some_iff.1 hy
 have h3 := List.pairwise_iff_getElem.1 h2
 rcases Nat.lt_trichotomy i j with h | h | h
 ·exact absurd (e1.trans e2.symm) (h3 i j l1 l2 h)
 ·exact h
 ·exact absurd (e2.trans e1.symm) (h3 j i l2 l1 h)
theorem frm_lnk {t : List Nod} (h : FrmR t) : (toA t).Nodup ∧ ToOk t t.length := ⟨((frm_iff t).1 h).2.1.2.1, ((frm_iff t).1 h).2.1.1⟩
theorem PthOf.uniq {t : List Nod} (hf : FrmR t) {x : Nat} {p q : List Stp} (hp : PthOf t x p) (hq : PthOf t x q) : p = q := by
 obtain ⟨hd, hto⟩ := frm_lnk hf
 induction hp generalizing q with
 | root =>
  generalize e : (0 : Nat) = y at hq
  cases hq with
  | root => rfl
  | step hn hx hs h =>
   have := hto _ _ hn _ (List.mem_of_getElem? hx)
   omega
 | step hn hx hs h ih =>
  cases hq with
  | root =>
   have := hto _ _ hn _ (List.mem_of_getElem? hx)
   omega
  | step hn' hx' hs' h' =>
   obtain ⟨rfl, rfl⟩ := to_uniq hd hn hx hn' hx'
   have := hn.symm.trans hn'
   cases this
   have := hs.symm.trans hs'
   cases this
   rw [ih h']
theorem PthOf.len {t : List Nod} (hf : FrmR t) {x : Nat} {p : List Stp} (hp : PthOf t x p) : p.length ≤ x := by
 obtain ⟨hd, hto⟩ := frm_lnk hf
 induction hp with
 | root => exact Nat.le_refl _
 | step hn hx hs h ih =>
  have := hto _ _ hn _ (List.mem_of_getElem? hx)
  rw [List.length_append, List.length_singleton]
  omega
/-- What is known of how a node is come to. -/
def ArrP (t : List Nod) (x : Nat) (g : Nat × Stp × Nat) : Prop :=
 (x = 0 ∧ g.2.2 = 0) ∨ ∃ (n : Nod) (j : Nat) (p : List Stp), t[g.1]? = some n ∧ n.tos[j]? = some (x : Int) ∧ n.steps[j]? = some g.2.1 ∧ PthOf t g.1 p ∧ g.2.2 = p.length + 1
theorem ArrP.pth {t : List Nod} {x : Nat} {g : Nat × Stp × Nat} (h : ArrP t x g) : ∃ p, PthOf t x p ∧ g.2.2 = p.length := by
 rcases h with ⟨rfl, h⟩ | ⟨n, j, p, h1, h2, h3, h4, h5⟩
 ·exact ⟨[], .root, h⟩
 ·exact ⟨p ++ [g.2.1], .step h1 h2 h3 h4, by rw [h5]; simp⟩
/-- Each node but 0 is led to from one ahead of it. -/
theorem led_ahead {t : List Nod} (hf : FrmR t) {i : Nat} (h0 : 0 < i) (hi : i < t.length) : (i : Int) ∈ toA (t.take i) := by
 obtain ⟨hd, hto⟩ := frm_lnk hf
 have hc := hf.2.2.2.1 i h0 hi
 have hm : (i : Int) ∈ toA t := List.count_pos_iff.1 (by omega)
 obtain ⟨n, hn, hx⟩ := List.mem_flatMap.1 hm
 obtain ⟨a, ha, e⟩ := List.mem_iff_getElem.1 hn
 have hn' : t[a]? = some n := by rw [List.getElem?_eq_getElem ha, e]
 have := hto a n hn' _ hx
 refine List.mem_flatMap.2 ⟨n, ?_, hx⟩
 have : (t.take i)[a]? = some n := by rw [List.getElem?_take_of_lt (by omega)]; exact hn'
 exact List.mem_of_getElem? this
/-- An arrival's cells. -/
def arV (g : Nat × Stp × Nat) : List Value := [.int .i64 (g.1 : Int), .int .i64 g.2.1.kind, .string g.2.1.name, .int .i64 g.2.1.place, .int .i64 (g.2.2 : Int)]
def nulG : Nat × Stp × Nat := (0, ⟨0, ⟨#[]⟩, 0⟩, 0)
theorem infoAr : (Tryd.prog.info? 86).map (fun i => (i.zero, i.size, i.bytes)) = some (some (.agg #[.int .i64 0, .int .i64 0, .string ⟨#[]⟩, .int .i64 0, .int .i64 0]), 5, 48) := by kernel_rfl
theorem make_arr (K : Nat) (hK : K ≤ 4294967296) (u : World) : (Instr.makeSlice 66 (.int .i64 (K : Int)) (.int .i64 (K : Int))).run Tryd.prog u =
  .ok (.slice (some ⟨u.heap.size, 0, none⟩) K K) (u.alloc (.cells (tabC K (fun _ => arV nulG)) 86)) := by
 obtain ⟨i0, hi, hz0, hz1, hz2⟩ := info_partsV infoAr
 have h := run_make (P := Tryd.prog) u 66 86 i0 _ Tryd.underlying66 hi hz0 .i64 .i64 (K : Int) (K : Int) (by omega) (Int.le_refl _) (by rw [hz2]; omega) (by omega)
 rw [Int.toNat_natCast] at h
 rw [h, hz1]
 have := tab_made #[.int .i64 0, .int .i64 0, .string ⟨#[]⟩, .int .i64 0, .int .i64 0] (by decide) K
 simp only [Value.cells]
 rw [show K * 5 = K * (#[Value.int .i64 0, .int .i64 0, .string ⟨#[]⟩, .int .i64 0, .int .i64 0] : Array Value).size from rfl, this]
 rfl
end Go.Proofs.YtbabdhepnjacdaaDoor
