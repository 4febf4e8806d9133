/-
 The small value, and that the program is awake.
-/
import Derived.Test.YtjlcliicdclooaaDoorPtS
import Derived.Test.YtjlcliicdclooaaDoorTrO
namespace Go.Proofs.YtjlcliicdclooaaDoor
open Go.RowKit Go.Shelf
theorem row1 {w : World} {b : Nat} {ty : TypeId} {c0 c1 c2 c3 c4 c5 : Value} (h : At w b #[c0, c1, c2, c3, c4, c5] ty) : RowAt w (some ⟨b, 0, none⟩) 1 (fun _ => #[c0, c1, c2, c3, c4, c5]) := by
 intro i hi
 obtain rfl : i = 0 := by omega
 refine ⟨rfl, b, 0, rfl, h.lt, fun j hj => ?_⟩
 match j, hj with
 | 0, _ => exact h.cell 0
 | 1, _ => exact h.cell 1
 | 2, _ => exact h.cell 2
 | 3, _ => exact h.cell 3
 | 4, _ => exact h.cell 4
 | 5, _ => exact h.cell 5
theorem keys1 {w : World} {b : Nat} {ty : TypeId} {s0 : ByteArray} (h : At w b #[.string s0] ty) (h0 : s0.size ≤ capT) : KeysAt w (some ⟨b, 0, none⟩) [s0] := by
 intro i s hi
 match i, hi with
 | 0, hi => simp at hi; subst hi; exact ⟨h0, b, 0, rfl, h.lt, h.cell 0⟩
 | i + 1, hi => simp at hi
def sevenT : Vt := .mk 3 false ⟨#[55]⟩ ⟨#[]⟩ [] []
def innerT : Vt := .mk 6 false ⟨#[]⟩ ⟨#[]⟩ [⟨#[]⟩] [sevenT]
def list20T : Vt := .mk 5 false ⟨#[]⟩ ⟨#[]⟩ [] [.mk 2 true ⟨#[]⟩ ⟨#[]⟩ [] [], innerT]
/-- What small answers. -/
def small20T : Vt := .mk 6 false ⟨#[]⟩ ⟨#[]⟩ [⟨#[97]⟩] [list20T]
theorem inner_at {w : World} {b1 b2 : Nat} {t1 t2 : TypeId} (h1 : At w b1 #[.string ⟨#[]⟩] t1) (h2 : At w b2 #[.int .i64 3, .bool false, .string ⟨#[55]⟩, .string ⟨#[]⟩, .slice none 0 0, .slice none 0 0] t2) :
  ValAt w innerT (.agg #[.int .i64 6, .bool false, .string ⟨#[]⟩, .string ⟨#[]⟩, .slice (some ⟨b1, 0, none⟩) 1 1, .slice (some ⟨b2, 0, none⟩) 1 1]) := by
 refine .mk 6 false _ _ _ _ _ 1 _ 1 _ (by decide) ⟨by decide, by decide, by decide, by decide⟩ (keys1 h1 (by decide)) (row1 h2) (fun i u hu => ?_)
 match i, hu with
 | 0, hu => simp at hu; subst hu; exact valLeaf w 3 false _ _ (by decide) (by decide) (by decide)
 | i + 1, hu => simp at hu
theorem list20_at {w : World} {b1 b2 b3 : Nat} {t1 t2 t3 : TypeId} (h1 : At w b1 #[.string ⟨#[]⟩] t1) (h2 : At w b2 #[.int .i64 3, .bool false, .string ⟨#[55]⟩, .string ⟨#[]⟩, .slice none 0 0, .slice none 0 0] t2)
  (h3 : At w b3 #[.int .i64 2, .bool true, .string ⟨#[]⟩, .string ⟨#[]⟩, .slice none 0 0, .slice none 0 0, .int .i64 6, .bool false, .string ⟨#[]⟩, .string ⟨#[]⟩, .slice (some ⟨b1, 0, none⟩) 1 1, .slice (some ⟨b2, 0, none⟩) 1 1] t3) :
  ValAt w list20T (.agg #[.int .i64 5, .bool false, .string ⟨#[]⟩, .string ⟨#[]⟩, .slice none 0 0, .slice (some ⟨b3, 0, none⟩) 2 2]) := by
 refine .mk 5 false _ _ [] _ none 0 (some ⟨b3, 0, none⟩) 2 _ (by decide) ⟨by decide, by decide, by decide, by decide⟩ (fun i s h => by simp at h) (row2 h3) (fun i u hu => ?_)
 match i, hu with
 | 0, hu => simp at hu; subst hu; exact valLeaf w 2 true _ _ (by decide) (by decide) (by decide)
 | 1, hu => simp at hu; subst hu; exact inner_at h1 h2
 | i + 2, hu => simp at hu
theorem small20_at {w : World} {b1 b2 b3 b4 b5 : Nat} {t1 t2 t3 t4 t5 : TypeId} (h1 : At w b1 #[.string ⟨#[]⟩] t1) (h2 : At w b2 #[.int .i64 3, .bool false, .string ⟨#[55]⟩, .string ⟨#[]⟩, .slice none 0 0, .slice none 0 0] t2)
  (h3 : At w b3 #[.int .i64 2, .bool true, .string ⟨#[]⟩, .string ⟨#[]⟩, .slice none 0 0, .slice none 0 0, .int .i64 6, .bool false, .string ⟨#[]⟩, .string ⟨#[]⟩, .slice (some ⟨b1, 0, none⟩) 1 1, .slice (some ⟨b2, 0, none⟩) 1 1] t3)
  (h4 : At w b4 #[.string ⟨#[97]⟩] t4) (h5 : At w b5 #[.int .i64 5, .bool false, .string ⟨#[]⟩, .string ⟨#[]⟩, .slice none 0 0, .slice (some ⟨b3, 0, none⟩) 2 2] t5) :
  ValAt w small20T (.agg #[.int .i64 6, .bool false, .string ⟨#[]⟩, .string ⟨#[]⟩, .slice (some ⟨b4, 0, none⟩) 1 1, .slice (some ⟨b5, 0, none⟩) 1 1]) := by
 refine .mk 6 false _ _ _ _ _ 1 _ 1 _ (by decide) ⟨by decide, by decide, by decide, by decide⟩ (keys1 h4 (by decide)) (row1 h5) (fun i u hu => ?_)
 match i, hu with
 | 0, hu => simp at hu; subst hu; exact list20_at h1 h2 h3
 | i + 1, hu => simp at hu
set_option maxRecDepth 10000 in
set_option maxHeartbeats 4000000 in
theorem small20_calls (w : World) :
  Calls Tryd.prog 13 #[] w fun e w' => ∃ v, e = .returned v ∧ ValAt w' small20T v ∧ Below w.heap.size w w' := by
 go_enter Tryd.func13, Tryd.ntmps13
 go_wp2_with fail
 refine ret_val1 (p := 0) rfl rfl ((((At.new w _ 35).alloc _).alloc _).alloc _ |>.alloc _ |>.alloc _ |>.alloc _ |>.alloc _) rfl ?_
 refine ⟨_, rfl, small20_at (b1 := w.heap.size + 1) (b2 := w.heap.size + 1 + 1) (b3 := w.heap.size + 1 + 1 + 1 + 1) (t1 := 9) (t2 := 35) (t3 := 35) (t4 := 9) (t5 := 35) ?_ ?_ ?_ ?_ ?_, by repeat (first | with_reducible exact Below.refl _ _ | with_reducible refine Below.setCell ?_ (by first | (simp; done) | (simp; omega)) _ | with_reducible refine below_drewN ?_ _ | with_reducible refine Below.alloc ?_ (by first | (simp; done) | (simp; omega)) _ | with_reducible refine Below.drew ?_)⟩
 ·exact (((((At.newAt _ _ (by simp only [World.size_alloc])).alloc _).alloc _).alloc _).alloc _).alloc _ |>.alloc _
 ·exact ((((At.newAt _ _ (by simp only [World.size_alloc])).alloc _).alloc _).alloc _).alloc _ |>.alloc _
 ·exact ((At.newAt _ _ (by simp only [World.size_alloc])).alloc _).alloc _ |>.alloc _
 ·exact (At.newAt _ _ (by simp only [World.size_alloc])).alloc _
 ·exact At.newAt _ _ (by simp only [World.size_alloc])
theorem wf_small20 : wfV small20T 1024 = true := by decide +kernel
theorem ln_small20 : lnV small20T := by
 unfold small20T list20T innerT sevenT
 simp [lnV, lnL]
theorem fd_small20 : fdF small20T [47, 97, 47, 49, 47] = (sevenT, true, 0) := by
 unfold fdF
 rw [if_pos wf_small20]
 rfl
end Go.Proofs.YtjlcliicdclooaaDoor
