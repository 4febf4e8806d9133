/-
 quarryref00.HasInt; quarryref23.pathOf.
-/
import Derived.Test.YtbabdhepnjacdaaDoorTiS
namespace Go.Proofs.YtbabdhepnjacdaaDoor
open Go.RowKit Go.Shelf
theorem stC3_get : ∀ (ss : List Stp) (i : Nat) (s : Stp) (j : Nat), ss[i]? = some s → j < 3 → (ss.flatMap stC3)[i * 3 + j]? = (stC3 s)[j]?
 | [], i, s, j, h, _ => by simp at h
 | a :: ss, 0, s, j, h, hj => by
  simp at h
  subst h
  rw [List.flatMap_cons, show 0 * 3 + j = j by omega, List.getElem?_append_left (by simpa [stC3] using hj)]
 | a :: ss, i + 1, s, j, h, hj => by
  have ih := stC3_get ss i s j (by simpa using h) hj
  rw [List.flatMap_cons, List.getElem?_append_right (by simp [stC3]; omega), ← ih]
  congr 1
  simp [stC3]
  omega
/-- A list of steps of its own. -/
def StO (B : Nat) (w : World) (v : Value) (ss : List Stp) : Prop := w.ownsRow B 53 3 v ss.length (ss.flatMap stC3) ∧ ∀ (i : Nat) (s : Stp), ss[i]? = some s → s.name.size ≤ capT
section
variable {B : Nat} {W W' : World} {v : Value} {ss : List Stp}
theorem StO.nil (B : Nat) (W : World) : StO B W (.slice none 0 0) [] := ⟨by simpa using World.ownsRow_nil W B 53 3, fun i s h => by simp at h⟩
theorem StO.mono {B' : Nat} (h : StO B W v ss) (hB : B' ≤ B) : StO B' W v ss := ⟨h.1.mono hB, h.2⟩
theorem StO.row {vo : Option Addr} {n vc : Nat} (h : StO B W (.slice vo n vc) ss) : n = ss.length ∧ StepsAt W vo ss := by
 obtain ⟨h1, h2⟩ := h
 obtain ⟨so, cap, e⟩ := own_shape h1
 cases e
 refine ⟨rfl, fun i s hi => ⟨h2 i s hi, ?_⟩⟩
 have hl := (List.getElem?_eq_some_iff.1 hi).1
 rcases h1.2 with ⟨e, h0⟩ | ⟨g, cap, cur, e, hb, hg, -⟩
 ·omega
 ·cases e
  refine ⟨g, 0, rfl, (h1.lt g rfl).2, ?_⟩
  intro j y hj
  have hj3 : j < 3 := by have := (List.getElem?_eq_some_iff.1 hj).1; simpa using this
  have := h1.cellAt (i * 3 + j) (by omega)
  show W.cell? ⟨g, 0 + i * 3 + j, none⟩ = some y
  rw [show 0 + i * 3 + j = i * 3 + j by omega, this, stC3_get ss i s j hi hj3]
  exact hj
theorem StO.app {u : Stp} {ty : TypeId} (h : StO B W v ss) (hu : u.name.size ≤ capT) (ad : Addr) (c : Nat) (hC : ∀ (j : Nat) (y : Value), (stC3 u)[j]? = some y → W.cell? (ad.add j) = some y) (hn : ss.length < 1099511627776) (hB : B ≤ W.heap.size) :
  ∃ v' W', (Builtin.append_ #[45, 45] ty #[v, .slice (some ad) 1 c]).run Tryd.prog W = .ok v' W' ∧ StO B W' v' (ss ++ [u]) ∧ W.grownBy W' v.ownBlock := by
 obtain ⟨h1, h2⟩ := h
 obtain ⟨i0, hi, hz0, hz1, hz2⟩ := info_partsV infoSt3
 obtain ⟨v', W', hr, r1, r2⟩ := appendV (P := Tryd.prog) (ty := ty) Tryd.underlying45 hi hz0 hz1 hz2 rfl (by decide) h1 ad 1 c (stC3 u) (by simp [stC3]) hC (by simp [stC3]; exact ⟨rfl, rfl, rfl⟩) (by unfold maxLen; omega) (by omega) hB
 refine ⟨v', W', hr, ⟨?_, ?_⟩, ?_⟩
 ·rw [List.length_append, List.length_singleton, List.flatMap_append, List.flatMap_cons, List.flatMap_nil, List.append_nil]
  exact r1
 ·intro i s hs
  by_cases e : i = ss.length
  ·subst e
   rw [List.getElem?_append_right (Nat.le_refl _)] at hs
   simp at hs
   subst hs
   exact hu
  ·have hl := (List.getElem?_eq_some_iff.1 hs).1
   rw [List.length_append, List.length_singleton] at hl
   rw [List.getElem?_append_left (by omega)] at hs
   exact h2 i s hs
 ·rcases r2 with ⟨g, cap, rfl, rfl, hg⟩ | ⟨-, hg⟩
  ·exact hg
  ·exact grown_weaken hg
end
theorem wp_append_stO {o : Oper} {a : Act} {w w' : World} {K : Act → World → Prop} {Q : Exit → Act → World → Prop} {x y : Operand} {v v' u : Value} (ho : o.op = .call { callee := .builtin .append, args := #[x, y], argTypes := #[45, 45] }) (hx : a.eval x = v) (hy : a.eval y = u)
  (hr : ∀ ty, (Builtin.append_ #[45, 45] ty #[v, u]).run Tryd.prog w = .ok v' w') (h : K (a.put o.dst v') w') : o.wp Tryd.prog a w K Q := by
 unfold Oper.wp execOp
 simp only [ho, resolve, invoke, builtin, Sem.run_bind, Sem.run_pure, Result.andThen_ok, List.map_toArray, List.map_cons, List.map_nil, hx, hy, hr]
 exact h
theorem stO_src {w : World} {b : Nat} {t : TypeId} {s : Stp} (h : At w b #[.int .i64 s.kind, .string s.name, .int .i64 s.place] t) : ∀ (j : Nat) (y : Value), (stC3 s)[j]? = some y → w.cell? ((⟨b, 0, none⟩ : Addr).add j) = some y := fun j y hj => by
 have e : (⟨b, 0, none⟩ : Addr).add j = ⟨b, j, none⟩ := by by_cases h : j = 0 <;> simp [Addr.add, h]
 rw [e, h.cell j]
 simpa [stC3] using hj
end Go.Proofs.YtbabdhepnjacdaaDoor
