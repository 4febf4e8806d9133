/-
  Texts of mine that others lean on, one behind the other.
-/
import Derived.Test.YtkejlejhnnjdkaaGreatDoorPack1
import Derived.Test.YtkejlejhnnjdkaaGreatDoorPack6
import Derived.Test.YtkejlejhnnjdkaaGreatDoorPack7
import Derived.Deep.DeepCutAuto
import Derived.Deep.RegionHeld
import Derived.BigQuiet
/-
 The laws' own small value.
-/
namespace Go.Proofs.YtkejlejhnnjdkaaGreatDoor
open Go.RowKit Go.Shelf
theorem ret_val1 {fn : Func} {p : Tmp} {R : Ending → World → Prop} {a : Act} {w : World} {b : Nat} {x0 x1 x2 x3 x4 x5 : Value} (hres : fn.results = #[.cell p 25]) (hp : a.tmps.getD p undef = .pointer (some ⟨b, 0, none⟩))
  (h : At w b #[x0, x1, x2, x3, x4, x5] 25) (hd : a.defers = []) (hR : R (.returned (.agg #[x0, x1, x2, x3, x4, x5])) w) : bodyPost Tryz.prog fn R .ret a w :=
 bodyPost_ret (v := .agg #[x0, x1, x2, x3, x4, x5]) (results_cell_row (P := Tryz.prog) hres _ w b 25 #[x0, x1, x2, x3, x4, x5] (0, 0) _ hp h Tryz.underlying25 rfl sizeVl) hd hR
theorem valLeaf (w : World) (k : Int) (b : Bool) (r t : ByteArray) (hw : (Lit.int .i64 k).wf = true) (hr : r.size ≤ capT) (ht : t.size ≤ capT) : ValAt w (.mk k b r t [] []) (.agg #[.int .i64 k, .bool b, .string r, .string t, .slice none 0 0, .slice none 0 0]) :=
 .mk k b r t [] [] none 0 none 0 (fun _ => #[]) hw ⟨hr, ht, Nat.zero_le _, Nat.zero_le _⟩ (fun i s h => by simp at h) (fun i h => by simp at h) (fun i u h => by simp at h)
theorem row2 {w : World} {b : Nat} {ty : TypeId} {c0 c1 c2 c3 c4 c5 d0 d1 d2 d3 d4 d5 : Value} (h : At w b #[c0, c1, c2, c3, c4, c5, d0, d1, d2, d3, d4, d5] ty) : RowAt w (some ⟨b, 0, none⟩) 2 (fun i => if i = 0 then #[c0, c1, c2, c3, c4, c5] else #[d0, d1, d2, d3, d4, d5]) := by
 intro i hi
 have hi2 : i = 0 ∨ i = 1 := by omega
 rcases hi2 with rfl | rfl
 ·refine ⟨rfl, b, 0, rfl, h.lt, fun j hj => ?_⟩
  match j, hj with
  | 0, _ => exact h.cell 0
  | 1, _ => exact h.cell 1
  | 2, _ => exact h.cell 2
  | 3, _ => exact h.cell 3
  | 4, _ => exact h.cell 4
  | 5, _ => exact h.cell 5
 ·refine ⟨rfl, b, 0, rfl, h.lt, fun j hj => ?_⟩
  match j, hj with
  | 0, _ => exact h.cell 6
  | 1, _ => exact h.cell 7
  | 2, _ => exact h.cell 8
  | 3, _ => exact h.cell 9
  | 4, _ => exact h.cell 10
  | 5, _ => exact h.cell 11
theorem keys2 {w : World} {b : Nat} {ty : TypeId} {s0 s1 : ByteArray} (h : At w b #[.string s0, .string s1] ty) (h0 : s0.size ≤ capT) (h1 : s1.size ≤ capT) : KeysAt w (some ⟨b, 0, none⟩) [s0, s1] := by
 intro i s hi
 match i, hi with
 | 0, hi => simp at hi; subst hi; exact ⟨h0, b, 0, rfl, h.lt, h.cell 0⟩
 | 1, hi => simp at hi; subst hi; exact ⟨h1, b, 0, rfl, h.lt, h.cell 1⟩
 | i + 2, hi => simp at hi
def listT : Vt := .mk 5 false ⟨#[]⟩ ⟨#[]⟩ [] [.mk 3 false ⟨#[49, 46, 48]⟩ ⟨#[]⟩ [] [], .mk 2 true ⟨#[]⟩ ⟨#[]⟩ [] []]
/-- What smallValue answers. -/
def smallT : Vt := .mk 6 false ⟨#[]⟩ ⟨#[]⟩ [⟨#[97]⟩, ⟨#[98]⟩] [listT, .mk 1 false ⟨#[]⟩ ⟨#[]⟩ [] []]
theorem list_at {w : World} {b : Nat} {ty : TypeId} (h : At w b #[.int .i64 3, .bool false, .string ⟨#[49, 46, 48]⟩, .string ⟨#[]⟩, .slice none 0 0, .slice none 0 0, .int .i64 2, .bool true, .string ⟨#[]⟩, .string ⟨#[]⟩, .slice none 0 0, .slice none 0 0] ty) :
  ValAt w listT (.agg #[.int .i64 5, .bool false, .string ⟨#[]⟩, .string ⟨#[]⟩, .slice none 0 0, .slice (some ⟨b, 0, none⟩) 2 2]) := by
 refine .mk 5 false _ _ [] _ none 0 (some ⟨b, 0, none⟩) 2 _ (by decide) ⟨by decide, by decide, by decide, by decide⟩ (fun i s h => by simp at h) (row2 h) (fun i u hu => ?_)
 match i, hu with
 | 0, hu => simp at hu; subst hu; exact valLeaf w 3 false _ _ (by decide) (by decide) (by decide)
 | 1, hu => simp at hu; subst hu; exact valLeaf w 2 true _ _ (by decide) (by decide) (by decide)
 | i + 2, hu => simp at hu
theorem small_at {w : World} {b1 b3 b4 : Nat} {ty1 ty3 ty4 : TypeId} (h1 : At w b1 #[.int .i64 3, .bool false, .string ⟨#[49, 46, 48]⟩, .string ⟨#[]⟩, .slice none 0 0, .slice none 0 0, .int .i64 2, .bool true, .string ⟨#[]⟩, .string ⟨#[]⟩, .slice none 0 0, .slice none 0 0] ty1) (h3 : At w b3 #[.string ⟨#[97]⟩, .string ⟨#[98]⟩] ty3)
  (h4 : At w b4 #[.int .i64 5, .bool false, .string ⟨#[]⟩, .string ⟨#[]⟩, .slice none 0 0, .slice (some ⟨b1, 0, none⟩) 2 2, .int .i64 1, .bool false, .string ⟨#[]⟩, .string ⟨#[]⟩, .slice none 0 0, .slice none 0 0] ty4) :
  ValAt w smallT (.agg #[.int .i64 6, .bool false, .string ⟨#[]⟩, .string ⟨#[]⟩, .slice (some ⟨b3, 0, none⟩) 2 2, .slice (some ⟨b4, 0, none⟩) 2 2]) := by
 refine .mk 6 false _ _ _ _ _ 2 _ 2 _ (by decide) ⟨by decide, by decide, by decide, by decide⟩ (keys2 h3 (by decide) (by decide)) (row2 h4) (fun i u hu => ?_)
 match i, hu with
 | 0, hu => simp at hu; subst hu; exact list_at h1
 | 1, hu => simp at hu; subst hu; exact valLeaf _ 1 false _ _ (by decide) (by decide) (by decide)
 | i + 2, hu => simp at hu
theorem At.newAt {w : World} {b : Nat} (cs : Array Value) (ty : TypeId) (h : b = w.heap.size) : At (w.alloc (.cells cs ty)) b cs ty := by
 subst h
 exact At.new _ _ _
set_option maxRecDepth 10000 in
set_option maxHeartbeats 4000000 in
theorem small_calls (w : World) :
  Calls Tryz.prog 7 #[] w fun e w' => ∃ v, e = .returned v ∧ ValAt w' smallT v ∧ Below w.heap.size w w' := by
 go_enter Tryz.func7, Tryz.ntmps7
 go_wp2_with fail
 refine ret_val1 (p := 0) rfl rfl ((((At.new w _ 25).alloc _).alloc _).alloc _ |>.alloc _) rfl ?_
 refine ⟨_, rfl, small_at (ty1 := 25) (ty3 := 9) (ty4 := 25) (b1 := w.heap.size + 1) ?_ ?_ ?_, by repeat (first | with_reducible exact Below.refl _ _ | with_reducible refine Below.setCell ?_ (by first | (simp; done) | (simp; omega)) _ | with_reducible refine below_drewN ?_ _ | with_reducible refine Below.alloc ?_ (by first | (simp; done) | (simp; omega)) _ | with_reducible refine Below.drew ?_)⟩
 ·exact (((At.newAt _ _ (by simp only [World.size_alloc])).alloc _).alloc _).alloc _
 ·exact (At.newAt _ _ (by simp only [World.size_alloc])).alloc _
 ·exact At.newAt _ _ (by simp only [World.size_alloc])
end Go.Proofs.YtkejlejhnnjdkaaGreatDoor

/-
 The parser of package tree in memory; its small functions: kind, blanks, null, truth, goesOn.
-/
namespace Go.Proofs.YtkejlejhnnjdkaaGreatDoor
open Go.RowKit Go.Shelf
/-- The calls that take a value, in their list. -/
def takesC (b : Nat) : Array Value := #[.nilFunc, .func (.func 26) #[.pointer (some ⟨b, 0, none⟩)] #[], .func (.func 27) #[.pointer (some ⟨b, 0, none⟩)] #[], .func (.func 28) #[.pointer (some ⟨b, 0, none⟩)] #[], .func (.func 29) #[.pointer (some ⟨b, 0, none⟩)] #[], .func (.func 30) #[.pointer (some ⟨b, 0, none⟩)] #[], .func (.func 31) #[.pointer (some ⟨b, 0, none⟩)] #[]]
/-- A parser in memory. -/
structure PaI (b g : Nat) (s : ByteArray) (i : Nat) (w : World) : Prop where
 at_ : At w b #[.string s, .int .i64 (i : Int), .slice (some ⟨g, 0, none⟩) 7 7] 42
 tk : At w g (takesC b) 32
 ne : g ≠ b
/-- All is as it was but the block b and what is new. -/
structure PFr (b : Nat) (w w' : World) : Prop where
 os : w'.os = w.os
 tape : w'.tape = w.tape
 output : w'.output = w.output
 size : w.heap.size ≤ w'.heap.size
 block : ∀ k, k < w.heap.size → k ≠ b → w'.heap[k]? = w.heap[k]?
theorem PFr.refl (b : Nat) (w : World) : PFr b w w := ⟨rfl, rfl, rfl, Nat.le_refl _, fun _ _ _ => rfl⟩
theorem PFr.trans {b : Nat} {x y z : World} (h : PFr b x y) (k : PFr b y z) : PFr b x z :=
 ⟨k.os.trans h.os, k.tape.trans h.tape, k.output.trans h.output, Nat.le_trans h.size k.size, fun i hi hb => (k.block i (Nat.lt_of_lt_of_le hi h.size) hb).trans (h.block i hi hb)⟩
theorem PFr.of_below {b : Nat} {w w' : World} (h : Below w.heap.size w w') : PFr b w w' := ⟨h.os, h.tape, h.output, h.size, fun k hk _ => h.block k hk⟩
theorem PFr.set {b : Nat} {w w' : World} (h : PFr b w w') (k : Nat) (v : Value) : PFr b w (w'.setCell ⟨b, k, none⟩ v) :=
 ⟨h.os, h.tape, h.output, by simpa using h.size, fun i hi hb => (Below.heap_setCell w' ⟨b, k, none⟩ v i hb).trans (h.block i hi hb)⟩
theorem PFr.at_ {b c : Nat} {w w' : World} {cs : Array Value} {t : TypeId} (h : PFr b w w') (ha : At w c cs t) (hc : c ≠ b) : At w' c cs t := (h.block c ha.lt hc).trans ha
theorem PaI.kept {b g i : Nat} {s : ByteArray} {w w' : World} (h : PaI b g s i w) (hb : Below w.heap.size w w') : PaI b g s i w' := ⟨h.at_.keptAll hb, h.tk.keptAll hb, h.ne⟩
theorem PaI.go {b g i : Nat} {s : ByteArray} {w : World} (h : PaI b g s i w) (j : Int) (k : Nat) (hj : j = (k : Int)) : PaI b g s k (w.setCell ⟨b, 1, none⟩ (.int .i64 j)) := by
 subst hj
 exact ⟨by simpa using h.at_.set 1 (.int .i64 (k : Int)), h.tk.other (p := ⟨b, 1, none⟩) h.ne _, h.ne⟩
theorem PaI.drew {b g i : Nat} {s : ByteArray} {w : World} (h : PaI b g s i w) (n : Nat) : PaI b g s i (w.drewN n) := ⟨h.at_.drewN n, h.tk.drewN n, h.ne⟩
/-- Where a parser in memory stands. -/
def atP (b : Nat) (w : World) : Nat := match w.cell? ⟨b, 1, none⟩ with
 | some (.int _ n) => n.toNat
 | _ => 0
theorem PaI.atP {b g i : Nat} {s : ByteArray} {w : World} (h : PaI b g s i w) : atP b w = i := by
 unfold Go.Proofs.YtkejlejhnnjdkaaGreatDoor.atP
 rw [show w.cell? ⟨b, 1, none⟩ = some (.int .i64 (i : Int)) from h.at_.cell 1]
 simp
/-- Which kind begins with a byte. -/
def kindC (c : Nat) : Int := if c = 110 then 1 else if c = 116 ∨ c = 102 then 2 else if c = 34 then 4 else if c = 91 then 5 else if c = 123 then 6 else 3
set_option maxRecDepth 10000 in
set_option maxHeartbeats 4000000 in
theorem kind17_calls (c : Nat) (w : World) : Calls Tryz.prog 33 #[.int .u8 (c : Int)] w fun e w' => e = .returned (.int .i64 (kindC c)) ∧ w' = w := by
 unfold kindC
 by_cases h1 : c = 110
 ·subst h1
  go_enter Tryz.func33, Tryz.ntmps33
  go_wp2
  go_ret
  exact ⟨rfl, rfl⟩
 have e1 : ((c : Int) == 110) = false := by simp; omega
 rw [if_neg h1]
 by_cases h2 : c = 116
 ·subst h2
  go_enter Tryz.func33, Tryz.ntmps33
  go_wp2
  go_ret
  exact ⟨rfl, rfl⟩
 have e2 : ((c : Int) == 116) = false := by simp; omega
 by_cases h3 : c = 102
 ·subst h3
  go_enter Tryz.func33, Tryz.ntmps33
  go_wp2
  go_ret
  exact ⟨rfl, rfl⟩
 have e3 : ((c : Int) == 102) = false := by simp; omega
 rw [if_neg (by omega)]
 by_cases h4 : c = 34
 ·subst h4
  go_enter Tryz.func33, Tryz.ntmps33
  go_wp2
  go_ret
  exact ⟨rfl, rfl⟩
 have e4 : ((c : Int) == 34) = false := by simp; omega
 rw [if_neg h4]
 by_cases h5 : c = 91
 ·subst h5
  go_enter Tryz.func33, Tryz.ntmps33
  go_wp2
  go_ret
  exact ⟨rfl, rfl⟩
 have e5 : ((c : Int) == 91) = false := by simp; omega
 rw [if_neg h5]
 by_cases h6 : c = 123
 ·subst h6
  go_enter Tryz.func33, Tryz.ntmps33
  go_wp2
  go_ret
  exact ⟨rfl, rfl⟩
 have e6 : ((c : Int) == 123) = false := by simp; omega
 rw [if_neg h6]
 clear h1 h2 h3 h4 h5 h6
 go_enter Tryz.func33, Tryz.ntmps33
 go_wp2
 go_ret
 exact ⟨rfl, rfl⟩
set_option maxRecDepth 10000 in
set_option maxHeartbeats 4000000 in
theorem blanksP_calls (b g : Nat) (s : ByteArray) (hs : s.size ≤ 281474976710656) (i k : Nat) (hk : Hid (IsSkip s i k)) (hks : k < s.size) (w : World) (hP : Hid (PaI b g s i w)) :
  Calls Tryz.prog 32 #[.pointer (some ⟨b, 0, none⟩)] w fun e w' => e = .returned (.tuple #[]) ∧ PaI b g s k w' ∧ PFr b w w' := by
 have hsi : (s.size : Int) ≤ 281474976710656 := by omega
 obtain ⟨k1, k2, k3, k4⟩ := hk.out
 have k3' := hid k3
 have k4' : Hid (blankN (byteAt s k) = false) := by
  rcases k4 with h | h
  ·omega
  ·exact h
 clear k3 k4 hk
 have c0 : w.cell? ⟨b, 0, none⟩ = some (.string s) := hP.out.at_.cell 0
 have c1 : w.cell? ⟨b, 1, none⟩ = some (.int .i64 (i : Int)) := hP.out.at_.cell 1
 have his : i < s.size := by omega
 have hii : (i : Int) < (s.size : Int) := by omega
 obtain ⟨y0, hY0⟩ : ∃ y, Hid (byteAt s i = y) := ⟨_, rfl⟩
 have hy0 := byteAt_eq s i his
 rw [hY0.out] at hy0
 go_enter Tryz.func32, Tryz.ntmps32
 go_wp2
 go_quiet (fail)
 go_wp2_with fail
 clear c0 c1
 go_loopw [2] (fun x wr => ∃ (q y : Nat), i ≤ q ∧ q ≤ k ∧ x = .int .u8 (y : Int) ∧ Hid (byteAt s q = y) ∧ Hid (PaI b g s q wr) ∧ Hid (PFr b w wr)) (fun _ wr => k - atP b wr)
 case atStart => exact ⟨i, y0, Nat.le_refl _, k1, rfl, hY0, hid (hP.out.drew _), hid (PFr.of_below (below_drewN (Below.refl _ _) _))⟩
 case round =>
  obtain ⟨q, y, hq1, hq2, rfl, hY, hP, hF⟩ := hrel
  have hyl : y < 256 := by rw [← hY.out, ← byteAt_eq s q (by omega)]; exact (s[q]'(by omega)).toNat_lt
  by_cases hqe : q = k
  ·subst hqe
   have hb0 : blankN y = false := by rw [← hY.out]; exact k4'.out
   have hb1 : ¬ (y = 32 ∨ y = 9 ∨ y = 10 ∨ y = 13) := by simpa [blankN] using hb0
   have e1 : ((y : Int) == 32) = false := by simp; omega
   have e2 : ((y : Int) == 9) = false := by simp; omega
   have e3 : ((y : Int) == 10) = false := by simp; omega
   have e4 : ((y : Int) == 13) = false := by simp; omega
   clear hb0 hb1
   go_wp2
   go_end0
   exact ⟨rfl, hP.out, hF.out⟩
  ·have hb0 : blankN y = true := by rw [← hY.out]; exact k3'.out q hq1 (by omega)
   have hb1 : y = 32 ∨ y = 9 ∨ y = 10 ∨ y = 13 := by simpa [blankN] using hb0
   have hqs : q + 1 < s.size := by omega
   have hqi : (q : Int) + 1 < (s.size : Int) := by omega
   obtain ⟨y1, hY1⟩ : ∃ y, Hid (byteAt s (q + 1) = y) := ⟨_, rfl⟩
   have hy1 := byteAt_eq s (q + 1) hqs
   rw [hY1.out] at hy1
   have c0 : wr.cell? ⟨b, 0, none⟩ = some (.string s) := hP.out.at_.cell 0
   have c1 : wr.cell? ⟨b, 1, none⟩ = some (.int .i64 (q : Int)) := hP.out.at_.cell 1
   have f1 := hP.out.at_.frozen 1
   have P2 := hid (hP.out.go ((q : Int) + 1) (q + 1) (by omega))
   have F2 := hid (hF.out.set 1 (.int .i64 ((q : Int) + 1)))
   have hat := hid (hP.out.atP)
   clear hb0 hP hF
   rcases hb1 with rfl | rfl | rfl | rfl
   all_goals
    go_upto_region 2 with fail
    generalize wr.setCell ⟨b, 1, none⟩ (.int .i64 ((q : Int) + 1)) = w2 at P2 F2 ⊢
    have d0 : w2.cell? ⟨b, 0, none⟩ = some (.string s) := P2.out.at_.cell 0
    have d1 : w2.cell? ⟨b, 1, none⟩ = some (.int .i64 ((q : Int) + 1)) := by have := P2.out.at_.cell 1; push_cast at this; exact this
    go_quiet (fail)
    go_wp2
    go_roundw
    case rel => exact ⟨q + 1, y1, by omega, by omega, rfl, hY1, hid (P2.out.drew _), hid (F2.out.trans (PFr.of_below (below_drewN (Below.refl _ _) _)))⟩
    case measure => rw [hat.out, (P2.out.drew _).atP]; omega
end Go.Proofs.YtkejlejhnnjdkaaGreatDoor
