/-
 quarryref23.Paths.
-/
import Derived.Test.YtbabdhepnjacdaaDoorTiT
namespace Go.Proofs.YtbabdhepnjacdaaDoor
open Go.RowKit Go.Shelf
theorem StO.shape {B : Nat} {W : World} {v : Value} {ss : List Stp} (h : StO B W v ss) : ∃ so cap, v = .slice so ss.length cap := own_shape h.1
theorem StO.grown {B : Nat} {W W' : World} {v : Value} {ss : List Stp} {row : Option Nat} (h : StO B W v ss) (hg : W.grownBy W' row) (hr : ∀ g cs, row = some g → ¬ At W g cs 53) : StO B W' v ss := by
 refine ⟨own_on h.1 (fun g hv _ hl => hg.block g hl (fun e => ?_)), h.2⟩
 rcases h.1.2 with ⟨rfl, -⟩ | ⟨g', cap, cur, rfl, -, hgb, -⟩
 ·cases hv
 ·cases hv
  exact hr g' cur e.symm hgb
/-- A list of paths of its own. -/
def PlO (B : Nat) (w : World) (v : Value) (L : List (List Stp)) : Prop := ∃ vals : List Value, w.ownsRow B 45 1 v L.length vals ∧ ∀ (i : Nat) (p : List Stp), L[i]? = some p → ∃ u, vals[i]? = some u ∧ StO B w u p
theorem PlO.nil (B : Nat) (W : World) : PlO B W (.slice none 0 0) [] := ⟨[], by simpa using World.ownsRow_nil W B 45 1, fun i s h => by simp at h⟩
theorem PlO.lt {B : Nat} {W : World} {v : Value} {L : List (List Stp)} (h : PlO B W v L) (g : Nat) (hg : v.ownBlock = some g) : B ≤ g ∧ g < W.heap.size := by
 obtain ⟨vals, h1, h2⟩ := h
 exact h1.lt g hg
theorem PlO.row {B : Nat} {W : World} {vo : Option Addr} {n vc : Nat} {L : List (List Stp)} (h : PlO B W (.slice vo n vc) L) : n = L.length ∧ PthsAt W vo L := by
 obtain ⟨vals, h1, h2⟩ := h
 obtain ⟨so, cap, e⟩ := own_shape h1
 cases e
 refine ⟨rfl, fun i p hi => ?_⟩
 have hl := (List.getElem?_eq_some_iff.1 hi).1
 obtain ⟨u, h3, h4⟩ := h2 i p hi
 obtain ⟨ro, rc, rfl⟩ := h4.shape
 rcases h1.2 with ⟨e, h0⟩ | ⟨g, cap, cur, e, hb, hg, -⟩
 ·omega
 ·cases e
  refine ⟨g, 0, ro, rc, rfl, (h1.lt g rfl).2, ?_, h4.row.2⟩
  have := h1.cellAt i (by omega)
  rw [Nat.zero_add, this, h3]
theorem PlO.app {B : Nat} {W : World} {v u : Value} {L : List (List Stp)} {p : List Stp} {ty : TypeId} (h : PlO B W v L) (hu : StO B W u p) (ad : Addr) (c : Nat) (hC : W.cell? (ad.add 0) = some u) (hn : L.length < 1099511627776) (hB : B ≤ W.heap.size) :
  ∃ v' W', (Builtin.append_ #[22, 22] ty #[v, .slice (some ad) 1 c]).run Tryd.prog W = .ok v' W' ∧ PlO B W' v' (L ++ [p]) ∧ W.grownBy W' v.ownBlock := by
 obtain ⟨vals, h1, h2⟩ := h
 obtain ⟨i0, hi, hz0, hz1, hz2⟩ := info_partsV infoRw
 obtain ⟨ro, rc, rfl⟩ := hu.shape
 obtain ⟨v', W', hr, r1, r2⟩ := appendV (P := Tryd.prog) (ty := ty) Tryd.underlying22 hi hz0 hz1 hz2 rfl (by decide) h1 ad 1 c [.slice ro p.length rc] (by simp) (fun j y hj => by
  match j, hj with
  | 0, hj => rw [hC]; simpa using hj
  | j + 1, hj => simp at hj) (by simp; rfl) (by unfold maxLen; omega) (by omega) hB
 have hg : W.grownBy W' v.ownBlock := by
  rcases r2 with ⟨g, cap, rfl, rfl, hg⟩ | ⟨-, hg⟩
  ·exact hg
  ·exact grown_weaken hg
 have hne : ∀ g cs, v.ownBlock = some g → ¬ At W g cs 53 := fun g cs e h => own_ne h1 h (by decide) e
 refine ⟨v', W', hr, ⟨vals ++ [.slice ro p.length rc], by rw [List.length_append, List.length_singleton]; exact r1, fun i q hq => ?_⟩, hg⟩
 have hvl : vals.length = L.length := by have := h1.1; omega
 by_cases e : i < L.length
 ·rw [List.getElem?_append_left e] at hq
  obtain ⟨u, h3, h4⟩ := h2 i q hq
  exact ⟨u, by rw [List.getElem?_append_left (by omega)]; exact h3, h4.grown hg hne⟩
 ·have hl := (List.getElem?_eq_some_iff.1 hq).1
  rw [List.length_append, List.length_singleton] at hl
  obtain rfl : i = L.length := by omega
  rw [List.getElem?_append_right (Nat.le_refl _)] at hq
  simp at hq
  subst hq
  exact ⟨_, by rw [List.getElem?_append_right (by omega), hvl]; simp, hu.grown hg hne⟩
/-- So far: each path of those told is that of its number. -/
def PthR (t : List Nod) (L : List (List Stp)) : Prop := ∀ (k : Nat) (p : List Stp), L[k]? = some p → ∃ (q : Nat) (n : Nod), t[q]? = some n ∧ (k : Int) ∈ n.ends ∧ PthOf t q p
theorem PthR.app {t : List Nod} {L : List (List Stp)} {p : List Stp} {q : Nat} {n : Nod} (h : PthR t L) (hn : t[q]? = some n) (hk : (L.length : Int) ∈ n.ends) (hp : PthOf t q p) : PthR t (L ++ [p]) := fun k x hx => by
 by_cases e : k < L.length
 ·rw [List.getElem?_append_left e] at hx
  exact h k x hx
 ·have hl := (List.getElem?_eq_some_iff.1 hx).1
  rw [List.length_append, List.length_singleton] at hl
  obtain rfl : k = L.length := by omega
  rw [List.getElem?_append_right (Nat.le_refl _)] at hx
  simp at hx
  subst hx
  exact ⟨q, n, hn, hk, hp⟩
end Go.Proofs.YtbabdhepnjacdaaDoor
