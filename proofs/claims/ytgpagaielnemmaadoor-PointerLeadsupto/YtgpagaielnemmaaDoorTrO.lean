/-
 The laws' own small value.
-/
import Derived.Test.YtgpagaielnemmaaDoorPack1
namespace Go.Proofs.YtgpagaielnemmaaDoor
open Go.RowKit Go.Shelf
theorem ret_val1 {fn : Func} {p : Tmp} {R : Ending → World → Prop} {a : Act} {w : World} {b : Nat} {x0 x1 x2 x3 x4 x5 : Value} (hres : fn.results = #[.cell p 25]) (hp : a.tmps.getD p undef = .pointer (some ⟨b, 0, none⟩))
  (h : At w b #[x0, x1, x2, x3, x4, x5] 25) (hd : a.defers = []) (hR : R (.returned (.agg #[x0, x1, x2, x3, x4, x5])) w) : bodyPost Tryd.prog fn R .ret a w :=
 bodyPost_ret (v := .agg #[x0, x1, x2, x3, x4, x5]) (results_cell_row (P := Tryd.prog) hres _ w b 25 #[x0, x1, x2, x3, x4, x5] (0, 0) _ hp h Tryd.underlying25 rfl sizeVl) hd hR
theorem valLeaf (w : World) (k : Int) (b : Bool) (r t : ByteArray) (hw : (Lit.int .i64 k).wf = true) (hr : r.size ≤ capT) (ht : t.size ≤ capT) : ValAt w (.mk k b r t [] []) (.agg #[.int .i64 k, .bool b, .string r, .string t, .slice none 0 0, .slice none 0 0]) :=
 .mk k b r t [] [] none 0 none 0 (fun _ => #[]) hw ⟨hr, ht, Nat.zero_le _, Nat.zero_le _⟩ (fun i s h => by simp at h) (fun i h => by simp at h) (fun i u h => by simp at h)
theorem row2 {w : World} {b : Nat} {ty : TypeId} {c0 c1 c2 c3 c4 c5 d0 d1 d2 d3 d4 d5 : Value} (h : At w b #[c0, c1, c2, c3, c4, c5, d0, d1, d2, d3, d4, d5] ty) : RowAt w (some ⟨b, 0, none⟩) 2 (fun i => if i = 0 then #[c0, c1, c2, c3, c4, c5] else #[d0, d1, d2, d3, d4, d5]) := by
 intro i hi
 have hi2 : i = 0 ∨ i = 1 := by omega
 rcases hi2 with rfl | rfl
 ·refine ⟨rfl, b, 0, rfl, h.lt, fun j hj => ?_⟩
  match j, hj with
  | 0, _ => exact h.cell 0
  | 1, _ => exact h.cell 1
  | 2, _ => exact h.cell 2
  | 3, _ => exact h.cell 3
  | 4, _ => exact h.cell 4
  | 5, _ => exact h.cell 5
 ·refine ⟨rfl, b, 0, rfl, h.lt, fun j hj => ?_⟩
  match j, hj with
  | 0, _ => exact h.cell 6
  | 1, _ => exact h.cell 7
  | 2, _ => exact h.cell 8
  | 3, _ => exact h.cell 9
  | 4, _ => exact h.cell 10
  | 5, _ => exact h.cell 11
theorem At.newAt {w : World} {b : Nat} (cs : Array Value) (ty : TypeId) (h : b = w.heap.size) : At (w.alloc (.cells cs ty)) b cs ty := by
 subst h
 exact At.new _ _ _
end Go.Proofs.YtgpagaielnemmaaDoor
