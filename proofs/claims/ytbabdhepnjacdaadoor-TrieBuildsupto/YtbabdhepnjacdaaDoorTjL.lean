/-
 The law TrieShares, walked.
-/
import Derived.Test.YtbabdhepnjacdaaDoorTjI
namespace Go.Proofs.YtbabdhepnjacdaaDoor
open Go.ChangeShapes Go.WideShapes Go.ChangeAt Go.RowKit Go.Shelf
/-- A list of paths that grows; the paths themselves lie in the world w0. -/
def PthG (w0 w : World) (v : Value) (X : List (List Stp)) : Prop := ∃ vals : List Value, w.ownsRow w0.heap.size 45 1 v X.length vals ∧ ∀ (i : Nat) (p : List Stp), X[i]? = some p → ∃ so sc, vals[i]? = some (.slice so p.length sc) ∧ StepsAt w0 so p
theorem PthG.nil (w0 w : World) : PthG w0 w (.slice none 0 0) [] := ⟨[], World.ownsRow_nil w w0.heap.size 45 1, fun i p h => by simp at h⟩
theorem PthG.shape {w0 w : World} {v : Value} {X : List (List Stp)} (h : PthG w0 w v X) : ∃ so cap, v = .slice so X.length cap := by
 obtain ⟨vals, h1, -⟩ := h
 exact own_shape h1
theorem PthG.row {w0 w : World} {vo : Option Addr} {n vc : Nat} {X : List (List Stp)} (h : PthG w0 w (.slice vo n vc) X) (hb : Below w0.heap.size w0 w) : n = X.length ∧ PthsAt w vo X := by
 obtain ⟨vals, hO, hall⟩ := h
 obtain ⟨so, cap, e⟩ := own_shape hO
 cases e
 refine ⟨rfl, fun i p hi => ?_⟩
 obtain ⟨s1, c1, hv, hS⟩ := hall i p hi
 have hl := (List.getElem?_eq_some_iff.1 hi).1
 rcases hO.2 with ⟨e, h0⟩ | ⟨g, cap, cur, e, hb2, hg, -⟩
 ·omega
 ·cases e
  refine ⟨g, 0, s1, c1, rfl, (hO.lt g rfl).2, ?_, hS.kept hb⟩
  have := hO.cellAt i (by omega)
  rw [Nat.zero_add, this]
  simpa using hv
theorem PthG.app {w0 w : World} {v : Value} {X : List (List Stp)} {p : List Stp} {so : Option Addr} {sc : Nat} (h : PthG w0 w v X) (hS : StepsAt w0 so p) (ad : Addr) (c : Nat) (hC : w.cell? (ad.add 0) = some (.slice so p.length sc)) (hn : X.length < 1099511627776) (hB : w0.heap.size ≤ w.heap.size) :
  ∃ v' w', (∀ ty, (Builtin.append_ #[22, 22] ty #[v, .slice (some ad) 1 c]).run Tryd.prog w = .ok v' w') ∧ PthG w0 w' v' (X ++ [p]) ∧ Below w0.heap.size w w' := by
 obtain ⟨vals, h1, h2⟩ := h
 obtain ⟨v', w', hr, r1, r2, -⟩ := app_gen Tryd.underlying22 infoRw rfl (by decide) h1 ad c [.slice so p.length sc] rfl (fun j u hj => by
  match j, hj with
  | 0, hj => simp at hj; subst hj; exact hC
  | j + 1, hj => simp at hj) (by simp [Value.oneCell']) hn (by decide) hB
 refine ⟨v', w', hr, ⟨vals ++ [.slice so p.length sc], by rw [List.length_append, List.length_singleton]; exact r1, fun i q hi => ?_⟩, (Below.refl _ w).grown r2 hB (fun k hk => (h1.lt k hk).1)⟩
 have hvl : vals.length = X.length := by have := h1.1; omega
 by_cases e : i < X.length
 ·rw [List.getElem?_append_left e] at hi
  obtain ⟨s1, c1, h3, h4⟩ := h2 i q hi
  exact ⟨s1, c1, by rw [List.getElem?_append_left (by omega)]; exact h3, h4⟩
 ·have hl := (List.getElem?_eq_some_iff.1 hi).1
  rw [List.length_append, List.length_singleton] at hl
  obtain rfl : i = X.length := by omega
  rw [List.getElem?_append_right (Nat.le_refl _)] at hi
  simp at hi
  subst hi
  exact ⟨so, sc, by rw [← hvl, List.getElem?_append_right (Nat.le_refl _)]; simp, hS⟩
end Go.Proofs.YtbabdhepnjacdaaDoor
