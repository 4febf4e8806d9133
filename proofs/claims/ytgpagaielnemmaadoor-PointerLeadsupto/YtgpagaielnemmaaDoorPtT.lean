/-
 The small value, and that the program is awake.
-/
import Derived.Test.YtgpagaielnemmaaDoorPtS
import Derived.Test.YtgpagaielnemmaaDoorTrO
namespace Go.Proofs.YtgpagaielnemmaaDoor
open Go.RowKit Go.Shelf
theorem row1 {w : World} {b : Nat} {ty : TypeId} {c0 c1 c2 c3 c4 c5 : Value} (h : At w b #[c0, c1, c2, c3, c4, c5] ty) : RowAt w (some ⟨b, 0, none⟩) 1 (fun _ => #[c0, c1, c2, c3, c4, c5]) := by
 intro i hi
 obtain rfl : i = 0 := by omega
 refine ⟨rfl, b, 0, rfl, h.lt, fun j hj => ?_⟩
 match j, hj with
 | 0, _ => exact h.cell 0
 | 1, _ => exact h.cell 1
 | 2, _ => exact h.cell 2
 | 3, _ => exact h.cell 3
 | 4, _ => exact h.cell 4
 | 5, _ => exact h.cell 5
theorem keys1 {w : World} {b : Nat} {ty : TypeId} {s0 : ByteArray} (h : At w b #[.string s0] ty) (h0 : s0.size ≤ capT) : KeysAt w (some ⟨b, 0, none⟩) [s0] := by
 intro i s hi
 match i, hi with
 | 0, hi => simp at hi; subst hi; exact ⟨h0, b, 0, rfl, h.lt, h.cell 0⟩
 | i + 1, hi => simp at hi
def sevenT : Vt := .mk 3 false ⟨#[55]⟩ ⟨#[]⟩ [] []
def innerT : Vt := .mk 6 false ⟨#[]⟩ ⟨#[]⟩ [⟨#[]⟩] [sevenT]
def list20T : Vt := .mk 5 false ⟨#[]⟩ ⟨#[]⟩ [] [.mk 2 true ⟨#[]⟩ ⟨#[]⟩ [] [], innerT]
/-- What small answers. -/
def small20T : Vt := .mk 6 false ⟨#[]⟩ ⟨#[]⟩ [⟨#[97]⟩] [list20T]
theorem inner_at {w : World} {b1 b2 : Nat} {t1 t2 : TypeId} (h1 : At w b1 #[.string ⟨#[]⟩] t1) (h2 : At w b2 #[.int .i64 3, .bool false, .string ⟨#[55]⟩, .string ⟨#[]⟩, .slice none 0 0, .slice none 0 0] t2) :
  ValAt w innerT (.agg #[.int .i64 6, .bool false, .string ⟨#[]⟩, .string ⟨#[]⟩, .slice (some ⟨b1, 0, none⟩) 1 1, .slice (some ⟨b2, 0, none⟩) 1 1]) := by
 refine .mk 6 false _ _ _ _ _ 1 _ 1 _ (by decide) ⟨by decide, by decide, by decide, by decide⟩ (keys1 h1 (by decide)) (row1 h2) (fun i u hu => ?_)
 match i, hu with
 | 0, hu => simp at hu; subst hu; exact valLeaf w 3 false _ _ (by decide) (by decide) (by decide)
 | i + 1, hu => simp at hu
theorem list20_at {w : World} {b1 b2 b3 : Nat} {t1 t2 t3 : TypeId} (h1 : At w b1 #[.string ⟨#[]⟩] t1) (h2 : At w b2 #[.int .i64 3, .bool false, .string ⟨#[55]⟩, .string ⟨#[]⟩, .slice none 0 0, .slice none 0 0] t2)
  (h3 : At w b3 #[.int .i64 2, .bool true, .string ⟨#[]⟩, .string ⟨#[]⟩, .slice none 0 0, .slice none 0 0, .int .i64 6, .bool false, .string ⟨#[]⟩, .string ⟨#[]⟩, .slice (some ⟨b1, 0, none⟩) 1 1, .slice (some ⟨b2, 0, none⟩) 1 1] t3) :
  ValAt w list20T (.agg #[.int .i64 5, .bool false, .string ⟨#[]⟩, .string ⟨#[]⟩, .slice none 0 0, .slice (some ⟨b3, 0, none⟩) 2 2]) := by
 refine .mk 5 false _ _ [] _ none 0 (some ⟨b3, 0, none⟩) 2 _ (by decide) ⟨by decide, by decide, by decide, by decide⟩ (fun i s h => by simp at h) (row2 h3) (fun i u hu => ?_)
 match i, hu with
 | 0, hu => simp at hu; subst hu; exact valLeaf w 2 true _ _ (by decide) (by decide) (by decide)
 | 1, hu => simp at hu; subst hu; exact inner_at h1 h2
 | i + 2, hu => simp at hu
theorem small20_at {w : World} {b1 b2 b3 b4 b5 : Nat} {t1 t2 t3 t4 t5 : TypeId} (h1 : At w b1 #[.string ⟨#[]⟩] t1) (h2 : At w b2 #[.int .i64 3, .bool false, .string ⟨#[55]⟩, .string ⟨#[]⟩, .slice none 0 0, .slice none 0 0] t2)
  (h3 : At w b3 #[.int .i64 2, .bool true, .string ⟨#[]⟩, .string ⟨#[]⟩, .slice none 0 0, .slice none 0 0, .int .i64 6, .bool false, .string ⟨#[]⟩, .string ⟨#[]⟩, .slice (some ⟨b1, 0, none⟩) 1 1, .slice (some ⟨b2, 0, none⟩) 1 1] t3)
  (h4 : At w b4 #[.string ⟨#[97]⟩] t4) (h5 : At w b5 #[.int .i64 5, .bool false, .string ⟨#[]⟩, .string ⟨#[]⟩, .slice none 0 0, .slice (some ⟨b3, 0, none⟩) 2 2] t5) :
  ValAt w small20T (.agg #[.int .i64 6, .bool false, .string ⟨#[]⟩, .string ⟨#[]⟩, .slice (some ⟨b4, 0, none⟩) 1 1, .slice (some ⟨b5, 0, none⟩) 1 1]) := by
 refine .mk 6 false _ _ _ _ _ 1 _ 1 _ (by decide) ⟨by decide, by decide, by decide, by decide⟩ (keys1 h4 (by decide)) (row1 h5) (fun i u hu => ?_)
 match i, hu with
 | 0, hu => simp at hu; subst hu; exact list20_at h1 h2 h3
 | i + 1, hu => simp at hu
set_option maxRecDepth 10000 in
set_option maxHeartbeats 4000000 in
theorem small20_calls (w : World) :
  Calls Tryd.prog 24 #[] w fun e w' => ∃ v, e = .returned v ∧ ValAt w' small20T v ∧ Below w.heap.size w w' := by
 go_enter Tryd.func24, Tryd.ntmps24
 go_wp2_with fail
 refine ret_val1 (p := 0) rfl rfl ((((At.new w _ 25).alloc _).alloc _).alloc _ |>.alloc _ |>.alloc _ |>.alloc _ |>.alloc _) rfl ?_
 refine ⟨_, rfl, small20_at (b1 := w.heap.size + 1) (b2 := w.heap.size + 1 + 1) (b3 := w.heap.size + 1 + 1 + 1 + 1) (t1 := 9) (t2 := 25) (t3 := 25) (t4 := 9) (t5 := 25) ?_ ?_ ?_ ?_ ?_, by repeat (first | with_reducible exact Below.refl _ _ | with_reducible refine Below.setCell ?_ (by first | (simp; done) | (simp; omega)) _ | with_reducible refine below_drewN ?_ _ | with_reducible refine Below.alloc ?_ (by first | (simp; done) | (simp; omega)) _ | with_reducible refine Below.drew ?_)⟩
 ·exact (((((At.newAt _ _ (by simp only [World.size_alloc])).alloc _).alloc _).alloc _).alloc _).alloc _ |>.alloc _
 ·exact ((((At.newAt _ _ (by simp only [World.size_alloc])).alloc _).alloc _).alloc _).alloc _ |>.alloc _
 ·exact ((At.newAt _ _ (by simp only [World.size_alloc])).alloc _).alloc _ |>.alloc _
 ·exact (At.newAt _ _ (by simp only [World.size_alloc])).alloc _
 ·exact At.newAt _ _ (by simp only [World.size_alloc])
theorem wf_small20 : wfV small20T 1024 = true := by decide +kernel
theorem ln_small20 : lnV small20T := by
 unfold small20T list20T innerT sevenT
 simp [lnV, lnL]
theorem fd_small20 : fdF small20T [47, 97, 47, 49, 47] = (sevenT, true, 0) := by
 unfold fdF
 rw [if_pos wf_small20]
 rfl
set_option maxRecDepth 10000 in
set_option maxHeartbeats 4000000 in
theorem awake20_calls (w : World) (hT : TabU w) : Calls Tryd.prog 5 #[] w fun e w' => e = .returned (.bool true) ∧ Below w.heap.size w w' := by
 have c1 := hid (fun u => small20_calls u)
 have c2 : Hid (∀ (va : Value) (u : World), TabU u → ValAt u small20T va → Calls Tryd.prog 7 #[va, .string ⟨#[47, 97, 47, 49, 47]⟩] u fun e w' => FdQ (sevenT, true, 0) u e w') := hid (fun va u hT ha => by
  have := find_calls small20T ln_small20 [47, 97, 47, 49, 47] (by decide) va u hT ha
  rw [fd_small20] at this
  exact this)
 have c3 := fun u : World => parse20_calls [97] (by decide) u
 rw [show ptE [97] = 200 from rfl] at c3
 have c3' : Hid (∀ u : World, Calls Tryd.prog 20 #[.string ⟨#[97]⟩] u fun e w' => ∃ v, e = .returned (.tuple #[v, .int .i64 200]) ∧ KeysG u.heap.size w' v ((ptN [97]).map mkL) ∧ Below u.heap.size u w') := hid c3
 have hT' := hid hT
 clear c3 hT
 go_enter Tryd.func5, Tryd.ntmps5
 go_wp2_with fail
 refine Calls.mono (c1.out _) ?_
 rintro e w1 ⟨v, rfl, v1, b1⟩
 have B1 := hid b1
 have V1 := hid v1
 clear b1 v1 c1
 go_wp2_with fail
 refine Calls.mono (c2.out _ _ (hT'.out.below B1.out) V1.out) ?_
 rintro e w2 ⟨x, rfl, v2, b2⟩
 obtain ⟨ko, kc, vo, vc, rfl⟩ := v2.six
 have B2 := hid (B1.out.trans (b2.mono B1.out.size))
 clear v2 b2 c2 V1 B1
 have hA := hid (At.new w2 #[.int .i64 sevenT.kind, .bool sevenT.b, .string sevenT.raw, .string sevenT.text, .slice ko sevenT.keys.length kc, .slice vo sevenT.kids.length vc] 25)
 have B3 := hid (show Below w.heap.size w (w2.alloc (.cells #[.int .i64 sevenT.kind, .bool sevenT.b, .string sevenT.raw, .string sevenT.text, .slice ko sevenT.keys.length kc, .slice vo sevenT.kids.length vc] 25)) from B2.out.alloc B2.out.size _)
 go_wp2_with fail
 refine Calls.mono (c3'.out _) ?_
 rintro e w4 ⟨v, rfl, k4, b4⟩
 obtain ⟨so, cap, rfl⟩ := k4.shape
 have B4 := hid (B3.out.trans (b4.mono B3.out.size))
 have hA4 := hA.out.keptAll b4
 have c2 : w4.cell? ⟨w2.heap.size, 2, none⟩ = some (.string ⟨#[55]⟩) := hA4.cell 2
 clear k4 b4 c3' hA4
 go_wp2
 go_ret
 exact ⟨rfl, B4.out⟩
end Go.Proofs.YtgpagaielnemmaaDoor
