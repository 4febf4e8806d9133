/-
 The laws' own small value.
-/
import Derived.Test.YtkejlejhnnjdkaaGreatDoorPack1
namespace Go.Proofs.YtkejlejhnnjdkaaGreatDoor
open Go.RowKit Go.Shelf
theorem ret_val1 {fn : Func} {p : Tmp} {R : Ending → World → Prop} {a : Act} {w : World} {b : Nat} {x0 x1 x2 x3 x4 x5 : Value} (hres : fn.results = #[.cell p 25]) (hp : a.tmps.getD p undef = .pointer (some ⟨b, 0, none⟩))
  (h : At w b #[x0, x1, x2, x3, x4, x5] 25) (hd : a.defers = []) (hR : R (.returned (.agg #[x0, x1, x2, x3, x4, x5])) w) : bodyPost Tryz.prog fn R .ret a w :=
 bodyPost_ret (v := .agg #[x0, x1, x2, x3, x4, x5]) (results_cell_row (P := Tryz.prog) hres _ w b 25 #[x0, x1, x2, x3, x4, x5] (0, 0) _ hp h Tryz.underlying25 rfl sizeVl) hd hR
theorem valLeaf (w : World) (k : Int) (b : Bool) (r t : ByteArray) (hw : (Lit.int .i64 k).wf = true) (hr : r.size ≤ capT) (ht : t.size ≤ capT) : ValAt w (.mk k b r t [] []) (.agg #[.int .i64 k, .bool b, .string r, .string t, .slice none 0 0, .slice none 0 0]) :=
 .mk k b r t [] [] none 0 none 0 (fun _ => #[]) hw ⟨hr, ht, Nat.zero_le _, Nat.zero_le _⟩ (fun i s h => by simp at h) (fun i h => by simp at h) (fun i u h => by simp at h)
theorem row2 {w : World} {b : Nat} {ty : TypeId} {c0 c1 c2 c3 c4 c5 d0 d1 d2 d3 d4 d5 : Value} (h : At w b #[c0, c1, c2, c3, c4, c5, d0, d1, d2, d3, d4, d5] ty) : RowAt w (some ⟨b, 0, none⟩) 2 (fun i => if i = 0 then #[c0, c1, c2, c3, c4, c5] else #[d0, d1, d2, d3, d4, d5]) := by
 intro i hi
 have hi2 : i = 0 ∨ i = 1 := by omega
 rcases hi2 with rfl | rfl
 ·refine ⟨rfl, b, 0, rfl, h.lt, fun j hj => ?_⟩
  match j, hj with
  | 0, _ => exact h.cell 0
  | 1, _ => exact h.cell 1
  | 2, _ => exact h.cell 2
  | 3, _ => exact h.cell 3
  | 4, _ => exact h.cell 4
  | 5, _ => exact h.cell 5
 ·refine ⟨rfl, b, 0, rfl, h.lt, fun j hj => ?_⟩
  match j, hj with
  | 0, _ => exact h.cell 6
  | 1, _ => exact h.cell 7
  | 2, _ => exact h.cell 8
  | 3, _ => exact h.cell 9
  | 4, _ => exact h.cell 10
  | 5, _ => exact h.cell 11
theorem keys2 {w : World} {b : Nat} {ty : TypeId} {s0 s1 : ByteArray} (h : At w b #[.string s0, .string s1] ty) (h0 : s0.size ≤ capT) (h1 : s1.size ≤ capT) : KeysAt w (some ⟨b, 0, none⟩) [s0, s1] := by
 intro i s hi
 match i, hi with
 | 0, hi => simp at hi; subst hi; exact ⟨h0, b, 0, rfl, h.lt, h.cell 0⟩
 | 1, hi => simp at hi; subst hi; exact ⟨h1, b, 0, rfl, h.lt, h.cell 1⟩
 | i + 2, hi => simp at hi
def listT : Vt := .mk 5 false ⟨#[]⟩ ⟨#[]⟩ [] [.mk 3 false ⟨#[49, 46, 48]⟩ ⟨#[]⟩ [] [], .mk 2 true ⟨#[]⟩ ⟨#[]⟩ [] []]
/-- What smallValue answers. -/
def smallT : Vt := .mk 6 false ⟨#[]⟩ ⟨#[]⟩ [⟨#[97]⟩, ⟨#[98]⟩] [listT, .mk 1 false ⟨#[]⟩ ⟨#[]⟩ [] []]
theorem list_at {w : World} {b : Nat} {ty : TypeId} (h : At w b #[.int .i64 3, .bool false, .string ⟨#[49, 46, 48]⟩, .string ⟨#[]⟩, .slice none 0 0, .slice none 0 0, .int .i64 2, .bool true, .string ⟨#[]⟩, .string ⟨#[]⟩, .slice none 0 0, .slice none 0 0] ty) :
  ValAt w listT (.agg #[.int .i64 5, .bool false, .string ⟨#[]⟩, .string ⟨#[]⟩, .slice none 0 0, .slice (some ⟨b, 0, none⟩) 2 2]) := by
 refine .mk 5 false _ _ [] _ none 0 (some ⟨b, 0, none⟩) 2 _ (by decide) ⟨by decide, by decide, by decide, by decide⟩ (fun i s h => by simp at h) (row2 h) (fun i u hu => ?_)
 match i, hu with
 | 0, hu => simp at hu; subst hu; exact valLeaf w 3 false _ _ (by decide) (by decide) (by decide)
 | 1, hu => simp at hu; subst hu; exact valLeaf w 2 true _ _ (by decide) (by decide) (by decide)
 | i + 2, hu => simp at hu
theorem small_at {w : World} {b1 b3 b4 : Nat} {ty1 ty3 ty4 : TypeId} (h1 : At w b1 #[.int .i64 3, .bool false, .string ⟨#[49, 46, 48]⟩, .string ⟨#[]⟩, .slice none 0 0, .slice none 0 0, .int .i64 2, .bool true, .string ⟨#[]⟩, .string ⟨#[]⟩, .slice none 0 0, .slice none 0 0] ty1) (h3 : At w b3 #[.string ⟨#[97]⟩, .string ⟨#[98]⟩] ty3)
  (h4 : At w b4 #[.int .i64 5, .bool false, .string ⟨#[]⟩, .string ⟨#[]⟩, .slice none 0 0, .slice (some ⟨b1, 0, none⟩) 2 2, .int .i64 1, .bool false, .string ⟨#[]⟩, .string ⟨#[]⟩, .slice none 0 0, .slice none 0 0] ty4) :
  ValAt w smallT (.agg #[.int .i64 6, .bool false, .string ⟨#[]⟩, .string ⟨#[]⟩, .slice (some ⟨b3, 0, none⟩) 2 2, .slice (some ⟨b4, 0, none⟩) 2 2]) := by
 refine .mk 6 false _ _ _ _ _ 2 _ 2 _ (by decide) ⟨by decide, by decide, by decide, by decide⟩ (keys2 h3 (by decide) (by decide)) (row2 h4) (fun i u hu => ?_)
 match i, hu with
 | 0, hu => simp at hu; subst hu; exact list_at h1
 | 1, hu => simp at hu; subst hu; exact valLeaf _ 1 false _ _ (by decide) (by decide) (by decide)
 | i + 2, hu => simp at hu
theorem At.newAt {w : World} {b : Nat} (cs : Array Value) (ty : TypeId) (h : b = w.heap.size) : At (w.alloc (.cells cs ty)) b cs ty := by
 subst h
 exact At.new _ _ _
set_option maxRecDepth 10000 in
set_option maxHeartbeats 4000000 in
theorem small_calls (w : World) :
  Calls Tryz.prog 7 #[] w fun e w' => ∃ v, e = .returned v ∧ ValAt w' smallT v ∧ Below w.heap.size w w' := by
 go_enter Tryz.func7, Tryz.ntmps7
 go_wp2_with fail
 refine ret_val1 (p := 0) rfl rfl ((((At.new w _ 25).alloc _).alloc _).alloc _ |>.alloc _) rfl ?_
 refine ⟨_, rfl, small_at (ty1 := 25) (ty3 := 9) (ty4 := 25) (b1 := w.heap.size + 1) ?_ ?_ ?_, by repeat (first | with_reducible exact Below.refl _ _ | with_reducible refine Below.setCell ?_ (by first | (simp; done) | (simp; omega)) _ | with_reducible refine below_drewN ?_ _ | with_reducible refine Below.alloc ?_ (by first | (simp; done) | (simp; omega)) _ | with_reducible refine Below.drew ?_)⟩
 ·exact (((At.newAt _ _ (by simp only [World.size_alloc])).alloc _).alloc _).alloc _
 ·exact (At.newAt _ _ (by simp only [World.size_alloc])).alloc _
 ·exact At.newAt _ _ (by simp only [World.size_alloc])
end Go.Proofs.YtkejlejhnnjdkaaGreatDoor
