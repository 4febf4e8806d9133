/-
 tree.sameWorth, tree.alike, tree.Alike (by gen_tpe3.py).
-/
import Derived.Test.YtjlcliicdclooaaDoorTpE2
import Derived.Test.YtjlcliicdclooaaDoorTpD
import Derived.Test.YtjlcliicdclooaaDoorTpC2
import Derived.Test.YtjlcliicdclooaaDoorTrMA
namespace Go.Proofs.YtjlcliicdclooaaDoor
open Go.RowKit Go.Shelf
/-- Alike, as a truth. -/
noncomputable def alkT (t u : Vt) : Bool := @decide (Alk t u) (Classical.propDecidable _)
theorem alkT_iff (t u : Vt) : alkT t u = true ↔ Alk t u := by unfold alkT; simp
theorem AlkP.out {t u : Vt} {w w' : World} {e : Ending} (h : AlkP t u w e w') : e = .returned (.bool (alkT t u)) ∧ Below w.heap.size w w' := by
 obtain ⟨B, rfl, hB, hb⟩ := h
 have : B = alkT t u := by rw [Bool.eq_iff_iff, hB, alkT_iff]
 exact ⟨by rw [this], hb⟩
theorem plain_b {k : Int} {b : Bool} {r t : ByteArray} {ks : List ByteArray} {vs : List Vt} (h : plainV (.mk k b r t ks vs) = true) (hk : k ≠ 2) : b = false := by
 unfold plainV at h
 dsimp only at h
 rw [if_neg hk] at h
 repeat' split at h
 all_goals first
  | (cases h; done)
  | (simp only [Bool.and_eq_true, Bool.not_eq_true'] at h; first | exact h.1 | exact h.2.1 | exact h.2.2.1)
theorem plain_t {k : Int} {b : Bool} {r t : ByteArray} {ks : List ByteArray} {vs : List Vt} (h : plainV (.mk k b r t ks vs) = true) (hk : k ≠ 4) : (t.toList == []) = true := by
 unfold plainV at h
 dsimp only at h
 rw [if_neg hk] at h
 repeat' split at h
 all_goals first
  | (cases h; done)
  | (simp only [Bool.and_eq_true] at h; first | exact h.2.2.1 | exact h.2.2.2.1 | exact h.2.2.2.2 | exact h.2.2.2)
theorem wf_plain {k : Int} {b : Bool} {r t : ByteArray} {ks : List ByteArray} {vs : List Vt} {l : Int} (h : wfV (.mk k b r t ks vs) l = true) : plainV (.mk k b r t ks vs) = true := by
 unfold wfV at h
 rw [Bool.and_eq_true] at h
 exact h.1
theorem wf_kid {k : Int} {b : Bool} {r t : ByteArray} {ks : List ByteArray} {vs : List Vt} {l : Int} (h : wfV (.mk k b r t ks vs) l = true) {i : Nat} {u : Vt} (hu : vs[i]? = some u) : ∃ l', wfV u l' = true := by
 unfold wfV at h
 rw [Bool.and_eq_true, Bool.and_eq_true] at h
 have h2 := h.2.2
 refine ⟨l - 1, ?_⟩
 clear h
 induction vs generalizing i with
 | nil => simp at hu
 | cons v vs ih =>
  unfold wfL at h2
  rw [Bool.and_eq_true] at h2
  cases i with
  | zero => simp at hu; subst hu; exact h2.1
  | succ i => exact ih (by simpa using hu) h2.2
set_option maxRecDepth 10000 in
set_option maxHeartbeats 8000000 in
theorem worth_calls17 (r r2 : ByteArray) (w : World) (hr : r.size ≤ 281474976710656) (hr2 : r2.size ≤ 281474976710656) :
  Calls Tryd.prog 45 #[.string r, .string r2] w fun e w' => NumP r r2 w e w' := by
 have hd1 := ds_size17 r
 have hd2 := ds_size17 r2
 have hna := hid (show NumA r r2 ↔ (if (ofS r).2 ≠ 0 ∨ (ofS r2).2 ≠ 0 then r = r2 else (cmpR (ofS r).1.neg ⟨(ofS r).1.ds.toArray⟩ (ofS r).1.ex (ofS r2).1.neg ⟨(ofS r2).1.ds.toArray⟩ (ofS r2).1.ex).1 = 0) from Iff.rfl)
 obtain ⟨q, hq⟩ : ∃ q, ofS r = q := ⟨_, rfl⟩
 obtain ⟨⟨dn, dd, dx⟩, er⟩ := q
 obtain ⟨q2, hq2⟩ : ∃ q, ofS r2 = q := ⟨_, rfl⟩
 obtain ⟨⟨dn2, dd2, dx2⟩, er2⟩ := q2
 have hof := hid (fun u => ofD_calls r hr u)
 have hof2 := hid (fun u => ofD_calls r2 hr2 u)
 have hov := hid (show ofV r = .tuple #[.agg #[.bool dn, .string ⟨dd.toArray⟩, .int .i64 dx], .int .i64 (er : Int)] by rw [ofV, hq]; rfl)
 have hov2 := hid (show ofV r2 = .tuple #[.agg #[.bool dn2, .string ⟨dd2.toArray⟩, .int .i64 dx2], .int .i64 (er2 : Int)] by rw [ofV, hq2]; rfl)
 rw [hov.out] at hof
 rw [hov2.out] at hof2
 rw [hq] at hd1 hna
 rw [hq2] at hd2 hna
 dsimp only at hd1 hd2 hna
 generalize (⟨dd.toArray⟩ : ByteArray) = TD at hof hd1 hna
 generalize (⟨dd2.toArray⟩ : ByteArray) = TD2 at hof2 hd2 hna
 obtain ⟨CE, hCE⟩ : ∃ CE, cmpR dn TD dx dn2 TD2 dx2 = CE := ⟨_, rfl⟩
 obtain ⟨C, E⟩ := CE
 rw [hCE] at hna
 have hcm := hid (fun u => cmp_calls dn TD dx dn2 TD2 dx2 (by omega) (by omega) C E hCE u)
 clear hov hov2 hq hq2 hr hr2 hd1 hd2 hCE
 go_enter Tryd.func45, Tryd.ntmps45
 go_wp2_with fail
 refine Calls.mono (hof.out _) ?_
 rintro e w1 ⟨rfl, hb⟩
 have Cb := hid (show Below w.heap.size w (w1.alloc (.cells #[.bool dn, .string TD, .int .i64 dx] 79)) from hb.alloc hb.size _)
 have D1 := hid (At.new w1 #[.bool dn, .string TD, .int .i64 dx] 79)
 clear hof hb
 go_upto_region 2 with fail
 obtain ⟨bd, hbd⟩ : ∃ bd, w1.heap.size = bd := ⟨_, rfl⟩
 rw [hbd] at D1 ⊢
 generalize w1.alloc (.cells #[.bool dn, .string TD, .int .i64 dx] 79) = w2 at Cb D1 ⊢
 clear hbd
 go_wp2_with fail
 refine Calls.mono (hof2.out _) ?_
 rintro e w3 ⟨rfl, hb⟩
 have q1 : Below w3.heap.size w3 (w3.alloc (.cells #[.bool dn2, .string TD2, .int .i64 dx2] 79)) := (Below.refl _ _).alloc (Nat.le_refl _) _
 have G1 := hid ((D1.out.keptAll hb).keptAll q1)
 have Fb := hid (belowE (belowE Cb.out hb) q1)
 have G2 := hid (At.new w3 #[.bool dn2, .string TD2, .int .i64 dx2] 79)
 clear hof2 hb Cb D1 q1
 go_upto_region 3 with fail
 obtain ⟨bd2, hbd2⟩ : ∃ bd, w3.heap.size = bd := ⟨_, rfl⟩
 rw [hbd2] at G2 ⊢
 generalize w3.alloc (.cells #[.bool dn2, .string TD2, .int .i64 dx2] 79) = w4 at G1 G2 Fb ⊢
 clear hbd2
 have g0 : w4.cell? ⟨bd, 0, none⟩ = some (.bool dn) := G1.out.cell 0
 have g1 : w4.cell? ⟨bd, 1, none⟩ = some (.string TD) := G1.out.cell 1
 have g2 : w4.cell? ⟨bd, 2, none⟩ = some (.int .i64 dx) := G1.out.cell 2
 have h0 : w4.cell? ⟨bd2, 0, none⟩ = some (.bool dn2) := G2.out.cell 0
 have h1 : w4.cell? ⟨bd2, 1, none⟩ = some (.string TD2) := G2.out.cell 1
 have h2 : w4.cell? ⟨bd2, 2, none⟩ = some (.int .i64 dx2) := G2.out.cell 2
 by_cases hz : er = 0 ∧ er2 = 0
 ·have hG : Hid (NumA r r2 ↔ C = 0) := by
   have := hna.out
   rw [if_neg (by omega)] at this
   exact this
  obtain ⟨rfl, rfl⟩ := hz
  clear hna
  go_wp2_with fail
  refine Calls.mono (hcm.out _) ?_
  rintro e w5 ⟨rfl, hb⟩
  have hfin : Hid (NumP r r2 w (.returned (.bool (C == 0))) w5) := ⟨C == 0, rfl, by rw [hG.out]; simp, belowE Fb.out hb⟩
  clear hcm hb
  go_wp2
  go_ret
  exact hfin.out
 ·have hG : Hid (NumA r r2 ↔ r = r2) := by
   have := hna.out
   rw [if_pos (by omega)] at this
   exact this
  have hfin : Hid (NumP r r2 w (.returned (.bool (r.toList == r2.toList))) w4) := ⟨_, rfl, by rw [hG.out]; exact ⟨fun h => toList_inj16 (by simpa using h), fun h => by rw [h]; simp⟩, Fb.out⟩
  by_cases hz1 : er = 0
  ·have e2 : ((er2 : Int) != 0) = true := by simp; omega
   have e3 : ¬ (er2 : Int) = 0 := by omega
   subst hz1
   clear hna hz
   go_wp2
   go_ret
   exact hfin.out
  ·have e2 : ((er : Int) != 0) = true := by simp; omega
   have e3 : ¬ (er : Int) = 0 := by omega
   clear hna hz
   go_wp2
   go_ret
   exact hfin.out
set_option maxRecDepth 10000 in
set_option maxHeartbeats 8000000 in
theorem alikeP_ne (k : Int) (b : Bool) (r t : ByteArray) (ko : Option Addr) (N kc : Nat) (vo : Option Addr) (M vc : Nat) (k2 : Int) (b2 : Bool) (r2 t2 : ByteArray) (ko2 : Option Addr) (N2 kc2 : Nat) (vo2 : Option Addr) (M2 vc2 : Nat) (w : World) (hk : k ≠ k2) :
  Calls Tryd.prog 32 #[.agg #[.int .i64 k, .bool b, .string r, .string t, .slice ko N kc, .slice vo M vc], .agg #[.int .i64 k2, .bool b2, .string r2, .string t2, .slice ko2 N2 kc2, .slice vo2 M2 vc2]] w fun e w' => e = .returned (.bool false) ∧ Below w.heap.size w w' := by
 have e1 : (k != k2) = true := by simp; exact hk
 clear hk
 go_enter Tryd.func32, Tryd.ntmps32
 go_wp2
 go_ret
 exact ⟨rfl, by repeat (first | with_reducible exact Below.refl _ _ | with_reducible refine Below.setCell ?_ (by first | (simp; done) | (simp; omega)) _ | with_reducible refine below_drewN ?_ _ | with_reducible refine Below.alloc ?_ (by first | (simp; done) | (simp; omega)) _ | with_reducible refine Below.drew ?_)⟩
set_option maxRecDepth 10000 in
set_option maxHeartbeats 8000000 in
theorem alikeP_s (k : Int) (hk : k ≠ 3 ∧ k ≠ 5 ∧ k ≠ 6) (b : Bool) (r t : ByteArray) (ko : Option Addr) (N kc : Nat) (vo : Option Addr) (M vc : Nat) (b2 : Bool) (r2 t2 : ByteArray) (ko2 : Option Addr) (N2 kc2 : Nat) (vo2 : Option Addr) (M2 vc2 : Nat) (w : World) :
  Calls Tryd.prog 32 #[.agg #[.int .i64 k, .bool b, .string r, .string t, .slice ko N kc, .slice vo M vc], .agg #[.int .i64 k, .bool b2, .string r2, .string t2, .slice ko2 N2 kc2, .slice vo2 M2 vc2]] w fun e w' => e = .returned (.bool ((b == b2) && (t.toList == t2.toList))) ∧ Below w.heap.size w w' := by
 obtain ⟨k3, k5, k6⟩ := hk
 have e0 : (k != k) = false := by simp
 have e3 : (k == 3) = false := by simp [k3]
 have e5 : (k == 5) = false := by simp [k5]
 have e6 : (k == 6) = false := by simp [k6]
 clear k3 k5 k6
 cases hbb : (b == b2) with
 | false =>
  go_enter Tryd.func32, Tryd.ntmps32
  go_wp2
  go_ret
  exact ⟨rfl, by repeat (first | with_reducible exact Below.refl _ _ | with_reducible refine Below.setCell ?_ (by first | (simp; done) | (simp; omega)) _ | with_reducible refine below_drewN ?_ _ | with_reducible refine Below.alloc ?_ (by first | (simp; done) | (simp; omega)) _ | with_reducible refine Below.drew ?_)⟩
 | true =>
  go_enter Tryd.func32, Tryd.ntmps32
  go_wp2
  go_ret
  exact ⟨by simp, by repeat (first | with_reducible exact Below.refl _ _ | with_reducible refine Below.setCell ?_ (by first | (simp; done) | (simp; omega)) _ | with_reducible refine below_drewN ?_ _ | with_reducible refine Below.alloc ?_ (by first | (simp; done) | (simp; omega)) _ | with_reducible refine Below.drew ?_)⟩
set_option maxRecDepth 10000 in
set_option maxHeartbeats 8000000 in
theorem alikeP_3 (b : Bool) (r t : ByteArray) (ko : Option Addr) (N kc : Nat) (vo : Option Addr) (M vc : Nat) (b2 : Bool) (r2 t2 : ByteArray) (ko2 : Option Addr) (N2 kc2 : Nat) (vo2 : Option Addr) (M2 vc2 : Nat) (w : World) (hr : r.size ≤ 281474976710656) (hr2 : r2.size ≤ 281474976710656) :
  Calls Tryd.prog 32 #[.agg #[.int .i64 3, .bool b, .string r, .string t, .slice ko N kc, .slice vo M vc], .agg #[.int .i64 3, .bool b2, .string r2, .string t2, .slice ko2 N2 kc2, .slice vo2 M2 vc2]] w fun e w' => NumP r r2 w e w' := by
 have hw := hid (fun u => worth_calls17 r r2 u hr hr2)
 clear hr hr2
 have A1 : Hid (At ((w.alloc (.cells #[.int .i64 3, .bool b, .string r, .string t, .slice ko N kc, .slice vo M vc] 35)).alloc (.cells #[.int .i64 3, .bool b2, .string r2, .string t2, .slice ko2 N2 kc2, .slice vo2 M2 vc2] 35)) w.heap.size #[.int .i64 3, .bool b, .string r, .string t, .slice ko N kc, .slice vo M vc] 35) := (At.new _ _ _).alloc _
 have A2 : Hid (At ((w.alloc (.cells #[.int .i64 3, .bool b, .string r, .string t, .slice ko N kc, .slice vo M vc] 35)).alloc (.cells #[.int .i64 3, .bool b2, .string r2, .string t2, .slice ko2 N2 kc2, .slice vo2 M2 vc2] 35)) (w.heap.size + 1) #[.int .i64 3, .bool b2, .string r2, .string t2, .slice ko2 N2 kc2, .slice vo2 M2 vc2] 35) := by
  have := At.new (w.alloc (.cells #[.int .i64 3, .bool b, .string r, .string t, .slice ko N kc, .slice vo M vc] 35)) #[.int .i64 3, .bool b2, .string r2, .string t2, .slice ko2 N2 kc2, .slice vo2 M2 vc2] 35
  rwa [World.size_alloc] at this
 have B1 : Hid (Below w.heap.size w ((w.alloc (.cells #[.int .i64 3, .bool b, .string r, .string t, .slice ko N kc, .slice vo M vc] 35)).alloc (.cells #[.int .i64 3, .bool b2, .string r2, .string t2, .slice ko2 N2 kc2, .slice vo2 M2 vc2] 35))) := by
  show Below _ _ _
  repeat (first | with_reducible exact Below.refl _ _ | with_reducible refine Below.setCell ?_ (by first | (simp; done) | (simp; omega)) _ | with_reducible refine below_drewN ?_ _ | with_reducible refine Below.alloc ?_ (by first | (simp; done) | (simp; omega)) _ | with_reducible refine Below.drew ?_)
 go_enter Tryd.func32, Tryd.ntmps32
 go_wp2_with fail
 generalize ((w.alloc (.cells #[.int .i64 3, .bool b, .string r, .string t, .slice ko N kc, .slice vo M vc] 35)).alloc (.cells #[.int .i64 3, .bool b2, .string r2, .string t2, .slice ko2 N2 kc2, .slice vo2 M2 vc2] 35)) = W at A1 A2 B1 ⊢
 refine Calls.mono (hw.out _) ?_
 rintro e w1 ⟨B, rfl, hB, hb⟩
 have hfin : Hid (NumP r r2 w (.returned (.bool B)) w1) := ⟨B, rfl, hB, belowE B1.out hb⟩
 clear hw hB hb A1 A2 B1
 go_wp2
 go_ret
 exact hfin.out
theorem enterAlike : ∀ args w, (callFunc 32 args).run Tryd.prog w = .ok (.enter 32 args) w := fun args w => by kernel_rfl
set_option maxRecDepth 10000 in
set_option maxHeartbeats 8000000 in
theorem alikeP_5 (b : Bool) (r t : ByteArray) (ko : Option Addr) (N kc : Nat) (vo : Option Addr) (M vc : Nat) (b2 : Bool) (r2 t2 : ByteArray) (ko2 : Option Addr) (N2 kc2 : Nat) (vo2 : Option Addr) (M2 vc2 : Nat) (w : World) (B : Bool)
  (hc : Hid (∀ u, Below w.heap.size w u → Calls Tryd.prog 46 #[.slice vo M vc, .slice vo2 M2 vc2, .func (.func 32) #[] #[]] u fun e w' => e = .returned (.bool B) ∧ Below u.heap.size u w')) :
  Calls Tryd.prog 32 #[.agg #[.int .i64 5, .bool b, .string r, .string t, .slice ko N kc, .slice vo M vc], .agg #[.int .i64 5, .bool b2, .string r2, .string t2, .slice ko2 N2 kc2, .slice vo2 M2 vc2]] w fun e w' => e = .returned (.bool B) ∧ Below w.heap.size w w' := by
 have A1 : Hid (At ((w.alloc (.cells #[.int .i64 5, .bool b, .string r, .string t, .slice ko N kc, .slice vo M vc] 35)).alloc (.cells #[.int .i64 5, .bool b2, .string r2, .string t2, .slice ko2 N2 kc2, .slice vo2 M2 vc2] 35)) w.heap.size #[.int .i64 5, .bool b, .string r, .string t, .slice ko N kc, .slice vo M vc] 35) := (At.new _ _ _).alloc _
 have A2 : Hid (At ((w.alloc (.cells #[.int .i64 5, .bool b, .string r, .string t, .slice ko N kc, .slice vo M vc] 35)).alloc (.cells #[.int .i64 5, .bool b2, .string r2, .string t2, .slice ko2 N2 kc2, .slice vo2 M2 vc2] 35)) (w.heap.size + 1) #[.int .i64 5, .bool b2, .string r2, .string t2, .slice ko2 N2 kc2, .slice vo2 M2 vc2] 35) := by
  have := At.new (w.alloc (.cells #[.int .i64 5, .bool b, .string r, .string t, .slice ko N kc, .slice vo M vc] 35)) #[.int .i64 5, .bool b2, .string r2, .string t2, .slice ko2 N2 kc2, .slice vo2 M2 vc2] 35
  rwa [World.size_alloc] at this
 have B1 : Hid (Below w.heap.size w ((w.alloc (.cells #[.int .i64 5, .bool b, .string r, .string t, .slice ko N kc, .slice vo M vc] 35)).alloc (.cells #[.int .i64 5, .bool b2, .string r2, .string t2, .slice ko2 N2 kc2, .slice vo2 M2 vc2] 35))) := by
  show Below _ _ _
  repeat (first | with_reducible exact Below.refl _ _ | with_reducible refine Below.setCell ?_ (by first | (simp; done) | (simp; omega)) _ | with_reducible refine below_drewN ?_ _ | with_reducible refine Below.alloc ?_ (by first | (simp; done) | (simp; omega)) _ | with_reducible refine Below.drew ?_)
 go_enter Tryd.func32, Tryd.ntmps32
 go_wp2_with fail
 generalize ((w.alloc (.cells #[.int .i64 5, .bool b, .string r, .string t, .slice ko N kc, .slice vo M vc] 35)).alloc (.cells #[.int .i64 5, .bool b2, .string r2, .string t2, .slice ko2 N2 kc2, .slice vo2 M2 vc2] 35)) = W at A1 A2 B1 ⊢
 refine Calls.mono (hc.out _ B1.out) ?_
 rintro e w1 ⟨rfl, hb⟩
 have B2 := hid (belowE B1.out hb)
 clear hc hb A1 A2 B1
 go_wp2
 go_ret
 exact ⟨rfl, B2.out⟩
set_option maxRecDepth 10000 in
set_option maxHeartbeats 8000000 in
theorem alikeP_6 (b : Bool) (r t : ByteArray) (ko : Option Addr) (N kc : Nat) (vo : Option Addr) (M vc : Nat) (b2 : Bool) (r2 t2 : ByteArray) (ko2 : Option Addr) (N2 kc2 : Nat) (vo2 : Option Addr) (M2 vc2 : Nat) (w : World) (P : Prop)
  (hc : Hid (∀ u, Below w.heap.size w u → Calls Tryd.prog 47 #[.agg #[.int .i64 6, .bool b, .string r, .string t, .slice ko N kc, .slice vo M vc], .agg #[.int .i64 6, .bool b2, .string r2, .string t2, .slice ko2 N2 kc2, .slice vo2 M2 vc2]] u fun e w' => ∃ B : Bool, e = .returned (.bool B) ∧ (B = true ↔ P) ∧ Below u.heap.size u w')) :
  Calls Tryd.prog 32 #[.agg #[.int .i64 6, .bool b, .string r, .string t, .slice ko N kc, .slice vo M vc], .agg #[.int .i64 6, .bool b2, .string r2, .string t2, .slice ko2 N2 kc2, .slice vo2 M2 vc2]] w fun e w' => ∃ B : Bool, e = .returned (.bool B) ∧ (B = true ↔ P) ∧ Below w.heap.size w w' := by
 have A1 : Hid (At ((w.alloc (.cells #[.int .i64 6, .bool b, .string r, .string t, .slice ko N kc, .slice vo M vc] 35)).alloc (.cells #[.int .i64 6, .bool b2, .string r2, .string t2, .slice ko2 N2 kc2, .slice vo2 M2 vc2] 35)) w.heap.size #[.int .i64 6, .bool b, .string r, .string t, .slice ko N kc, .slice vo M vc] 35) := (At.new _ _ _).alloc _
 have A2 : Hid (At ((w.alloc (.cells #[.int .i64 6, .bool b, .string r, .string t, .slice ko N kc, .slice vo M vc] 35)).alloc (.cells #[.int .i64 6, .bool b2, .string r2, .string t2, .slice ko2 N2 kc2, .slice vo2 M2 vc2] 35)) (w.heap.size + 1) #[.int .i64 6, .bool b2, .string r2, .string t2, .slice ko2 N2 kc2, .slice vo2 M2 vc2] 35) := by
  have := At.new (w.alloc (.cells #[.int .i64 6, .bool b, .string r, .string t, .slice ko N kc, .slice vo M vc] 35)) #[.int .i64 6, .bool b2, .string r2, .string t2, .slice ko2 N2 kc2, .slice vo2 M2 vc2] 35
  rwa [World.size_alloc] at this
 have B1 : Hid (Below w.heap.size w ((w.alloc (.cells #[.int .i64 6, .bool b, .string r, .string t, .slice ko N kc, .slice vo M vc] 35)).alloc (.cells #[.int .i64 6, .bool b2, .string r2, .string t2, .slice ko2 N2 kc2, .slice vo2 M2 vc2] 35))) := by
  show Below _ _ _
  repeat (first | with_reducible exact Below.refl _ _ | with_reducible refine Below.setCell ?_ (by first | (simp; done) | (simp; omega)) _ | with_reducible refine below_drewN ?_ _ | with_reducible refine Below.alloc ?_ (by first | (simp; done) | (simp; omega)) _ | with_reducible refine Below.drew ?_)
 go_enter Tryd.func32, Tryd.ntmps32
 go_wp2_with fail
 generalize ((w.alloc (.cells #[.int .i64 6, .bool b, .string r, .string t, .slice ko N kc, .slice vo M vc] 35)).alloc (.cells #[.int .i64 6, .bool b2, .string r2, .string t2, .slice ko2 N2 kc2, .slice vo2 M2 vc2] 35)) = W at A1 A2 B1 ⊢
 refine Calls.mono (hc.out _ B1.out) ?_
 rintro e w1 ⟨B, rfl, hB, hb⟩
 have B2 := hid (belowE B1.out hb)
 have hB' := hid hB
 clear hc hb A1 A2 B1 hB
 go_wp2
 go_ret
 exact ⟨B, rfl, hB'.out, B2.out⟩
theorem members_alk (b : Bool) (r t : ByteArray) (ks : List ByteArray) (vs : List Vt) (b2 : Bool) (r2 t2 : ByteArray) (ks2 : List ByteArray) (vs2 : List Vt) (hl : vs.length = ks.length) :
  ((nubB ks).length = (nubB ks2).length ∧ CovS ks vs ks2 vs2 ks.length) ↔ Alk (.mk 6 b r t ks vs) (.mk 6 b2 r2 t2 ks2 vs2) := by
 rw [alk6]
 have hsub : CovS ks vs ks2 vs2 ks.length → ∀ x ∈ ks, x ∈ ks2 := fun h x hx => by
  obtain ⟨j0, hj0⟩ := List.getElem?_of_mem hx
  obtain ⟨f, hf⟩ := fst_ex17 ks x
  rcases hf with ⟨_, h1⟩ | ⟨j, rfl, h1, h2⟩
  ·exact absurd hj0 (h1 j0)
  ·have hj := (List.getElem?_eq_some_iff.1 h1).1
   obtain ⟨q, y, g1, -⟩ := h j (vs[j]'(by omega)) x hj (List.getElem?_eq_getElem (by omega)) h1 (.inr ⟨j, rfl, h1, h2⟩)
   exact fst_mem g1
 constructor
 ·rintro ⟨h1, h2⟩
  refine ⟨fun j nm hj => ?_, h2⟩
  obtain ⟨q, hq⟩ := List.getElem?_of_mem (nub_same h1 (hsub h2) nm (List.mem_of_getElem? hj))
  exact ⟨q, hq⟩
 ·rintro ⟨h1, h2⟩
  refine ⟨nub_len (hsub h2) (fun x hx => ?_), h2⟩
  obtain ⟨j, hj⟩ := List.getElem?_of_mem hx
  obtain ⟨q, hq⟩ := h1 j x hj
  exact List.mem_of_getElem? hq
theorem alikeP_ex : ∀ (n : Nat) (t u : Vt), SizeOf.sizeOf t ≤ n → (∃ l, wfV t l = true) → (∃ l, wfV u l = true) → ∀ (va vb : Value) (w : World), ValAt w t va → ValAt w u vb →
  Calls Tryd.prog 32 #[va, vb] w fun e w' => AlkP t u w e w' := by
 intro n
 induction n with
 | zero =>
  intro t u hs
  cases t
  simp at hs
 | succ n ih =>
  intro t u hs h1 h2 va vb w ha hb
  cases ha with
  | mk k b r t ks vs ko kc vo vc X hw hz hk hr hv =>
  cases hb with
  | mk k2 b2 r2 t2 ks2 vs2 ko2 kc2 vo2 vc2 X2 hw2 hz2 hk2 hr2 hv2 =>
  obtain ⟨l1, h1⟩ := h1
  obtain ⟨l2, h2⟩ := h2
  have p1 := wf_plain h1
  have p2 := wf_plain h2
  have hkid : Hid (∀ (i q : Nat) (x y : Vt), vs[i]? = some x → vs2[q]? = some y → ∀ (va vb : Value) (u : World), ValAt u x va → ValAt u y vb → Calls Tryd.prog 32 #[va, vb] u fun e w' => AlkP x y u e w') := fun i q x y hx hy va vb u g1 g2 => by
   have hsz := kid_size (k := k) (b := b) (r := r) (t := t) (ks := ks) hx
   exact ih x y (by omega) (wf_kid h1 hx) (wf_kid h2 hy) va vb u g1 g2
  by_cases hkk : k = k2
  ·subst hkk
   by_cases k3 : k = 3
   ·subst k3
    have z1 := hz.1
    have z2 := hz2.1
    unfold capT at z1 z2
    refine (alikeP_3 b r t ko ks.length kc vo vs.length vc b2 r2 t2 ko2 ks2.length kc2 vo2 vs2.length vc2 w (by omega) (by omega)).mono ?_
    rintro e w' ⟨B, rfl, hB, hb⟩
    refine ⟨_, rfl, ?_, hb⟩
    rw [alk0 3 (by decide) (by decide), hB]
    exact ⟨fun h => ⟨fun e => absurd e (by decide), fun e => absurd e (by decide), fun _ => h⟩, fun h => h.2.2 rfl⟩
   by_cases k5 : k = 5
   ·subst k5
    refine (alikeP_5 b r t ko ks.length kc vo vs.length vc b2 r2 t2 ko2 ks2.length kc2 vo2 vs2.length vc2 w (alkT (.mk 5 b r t ks vs) (.mk 5 b2 r2 t2 ks2 vs2)) (hid (fun u hu => ?_))).mono ?_
    ·refine equalF_of 32 enterAlike vs vs2 (fun i => match vs[i]?, vs2[i]? with | some a, some c => alkT a c | _, _ => true) (hid (fun i a c g1 g2 va vb w2 g3 g4 => ?_)) vo vo2 vs.length vs2.length vc vc2 (hid rfl) (hid rfl) hz.2.2.2 hz2.2.2.2 X X2 u (hid (hr.kept hu)) (hid (fun i a h => (hv i a h).kept hu)) (hid (hr2.kept hu)) (hid (fun i a h => (hv2 i a h).kept hu)) _ (hid ?_)
     ·rw [g1, g2]
      exact (hkid.out i i a c g1 g2 va vb w2 g3 g4).mono (fun e w' h => h.out)
     ·rw [alkT_iff, alk5]
      constructor
      ·rintro ⟨g1, g2⟩
       refine ⟨g1, fun i hi => ?_⟩
       rw [List.getElem?_eq_getElem hi, List.getElem?_eq_getElem (by omega)]
       exact (alkT_iff _ _).2 (g2 i _ _ (List.getElem?_eq_getElem hi) (List.getElem?_eq_getElem (by omega)))
      ·rintro ⟨g1, g2⟩
       refine ⟨g1, fun i x y hx hy => ?_⟩
       have := g2 i (List.getElem?_eq_some_iff.1 hx).1
       rw [hx, hy] at this
       exact (alkT_iff _ _).1 this
    ·rintro e w' ⟨rfl, hb⟩
     exact ⟨_, rfl, alkT_iff _ _, hb⟩
   by_cases k6 : k = 6
   ·subst k6
    have q1 := plain_names p1
    have q2 := plain_names p2
    refine (alikeP_6 b r t ko ks.length kc vo vs.length vc b2 r2 t2 ko2 ks2.length kc2 vo2 vs2.length vc2 w (Alk (.mk 6 b r t ks vs) (.mk 6 b2 r2 t2 ks2 vs2)) (hid (fun u hu => ?_))).mono (fun e w' h => h)
    refine (membersP_of 6 b r t ks vs ko kc vo vc X 6 b2 r2 t2 ks2 vs2 ko2 kc2 vo2 vc2 X2 u hz.2.2.1 hz2.2.2.1 q1 q2 (hk.kept hu) (hk2.kept hu) (hr.kept hu) (hr2.kept hu) (fun i a h => (hv i a h).kept hu) (fun i a h => (hv2 i a h).kept hu) hkid).mono ?_
    rintro e w' ⟨B, rfl, hB, hb⟩
    exact ⟨B, rfl, hB.trans (members_alk b r t ks vs b2 r2 t2 ks2 vs2 q1), hb⟩
   refine (alikeP_s k ⟨k3, k5, k6⟩ b r t ko ks.length kc vo vs.length vc b2 r2 t2 ko2 ks2.length kc2 vo2 vs2.length vc2 w).mono ?_
   rintro e w' ⟨rfl, hb⟩
   refine ⟨_, rfl, ?_, hb⟩
   rw [alk0 k k5 k6, Bool.and_eq_true]
   constructor
   ·rintro ⟨g1, g2⟩
    exact ⟨fun _ => by simpa using g1, fun _ => toList_inj16 (by simpa using g2), fun e => absurd e k3⟩
   ·rintro ⟨g1, g2, -⟩
    constructor
    ·by_cases e2 : k = 2
     ·rw [g1 e2]; simp
     ·rw [plain_b p1 e2, plain_b p2 e2]; rfl
    ·by_cases e4 : k = 4
     ·rw [g2 e4]; simp
     ·have a1 := plain_t p1 e4
      have a2 := plain_t p2 e4
      rw [beq_iff_eq] at a1 a2
      rw [a1, a2]; rfl
  ·refine (alikeP_ne k b r t ko ks.length kc vo vs.length vc k2 b2 r2 t2 ko2 ks2.length kc2 vo2 vs2.length vc2 w hkk).mono ?_
   rintro e w' ⟨rfl, hb⟩
   exact ⟨_, rfl, no_iff (fun h => hkk (alk_k _ _ _ _ _ _ _ _ _ _ _ _ h)), hb⟩
set_option maxRecDepth 10000 in
set_option maxHeartbeats 8000000 in
theorem alikeP_calls (t u : Vt) (B : Bool) (hB : Hid (AlkB t u B)) (va vb : Value) (w : World) (hT : TabU w) (ha : ValAt w t va) (hb : ValAt w u vb) :
  Calls Tryd.prog 17 #[va, vb] w fun e w' => e = .returned (.bool B) ∧ Below w.heap.size w w' := by
 have hf1 := hid (fun u0 hT0 hu => formedP_calls t va u0 hT0 hu)
 have hf2 := hid (fun u0 hT0 hu => formedP_calls u vb u0 hT0 hu)
 have hal : Hid (wfV t 1024 = true → wfV u 1024 = true → ∀ u0 : World, ValAt u0 t va → ValAt u0 u vb → Calls Tryd.prog 32 #[va, vb] u0 fun e w' => e = .returned (.bool B) ∧ Below u0.heap.size u0 w') := fun g1 g2 u0 h1 h2 => by
  refine (alikeP_ex _ t u (Nat.le_refl _) ⟨_, g1⟩ ⟨_, g2⟩ va vb u0 h1 h2).mono ?_
  rintro e w' ⟨S, rfl, hS, hbb⟩
  refine ⟨?_, hbb⟩
  have h3 : B = true ↔ Alk t u := ⟨fun h => (hB.out.1 h).2.2, fun h => hB.out.2 ⟨g1, g2, h⟩⟩
  have : S = B := by
   rw [← h3] at hS
   cases S <;> cases B <;> simp_all
  rw [this]
 have hBf : Hid (¬ (wfV t 1024 = true ∧ wfV u 1024 = true) → B = false) := fun h => by
  cases B with
  | false => rfl
  | true => exact absurd ⟨(hB.out.1 rfl).1, (hB.out.1 rfl).2.1⟩ h
 generalize wfV t 1024 = F1 at hf1 hal hBf
 generalize wfV u 1024 = F2 at hf2 hal hBf
 have ha' := hid ha
 have hb' := hid hb
 have hT' := hid hT
 clear hB hT
 cases ha with
 | mk k b r t ks vs ko kc vo vc X hw hzz hk hr hv =>
 cases hb with
 | mk k2 b2 r2 t2 ks2 vs2 ko2 kc2 vo2 vc2 X2 hw2 hzz2 hk2 hr2 hv2 =>
 clear hw hzz hk hr hv hw2 hzz2 hk2 hr2 hv2
 generalize ks.length = N at *
 generalize vs.length = M at *
 generalize ks2.length = N2 at *
 generalize vs2.length = M2 at *
 have A1 : Hid (At ((w.alloc (.cells #[.int .i64 k, .bool b, .string r, .string t, .slice ko N kc, .slice vo M vc] 35)).alloc (.cells #[.int .i64 k2, .bool b2, .string r2, .string t2, .slice ko2 N2 kc2, .slice vo2 M2 vc2] 35)) w.heap.size #[.int .i64 k, .bool b, .string r, .string t, .slice ko N kc, .slice vo M vc] 35) := (At.new _ _ _).alloc _
 have A2 : Hid (At ((w.alloc (.cells #[.int .i64 k, .bool b, .string r, .string t, .slice ko N kc, .slice vo M vc] 35)).alloc (.cells #[.int .i64 k2, .bool b2, .string r2, .string t2, .slice ko2 N2 kc2, .slice vo2 M2 vc2] 35)) (w.heap.size + 1) #[.int .i64 k2, .bool b2, .string r2, .string t2, .slice ko2 N2 kc2, .slice vo2 M2 vc2] 35) := by
  have := At.new (w.alloc (.cells #[.int .i64 k, .bool b, .string r, .string t, .slice ko N kc, .slice vo M vc] 35)) #[.int .i64 k2, .bool b2, .string r2, .string t2, .slice ko2 N2 kc2, .slice vo2 M2 vc2] 35
  rwa [World.size_alloc] at this
 have B1 : Hid (Below w.heap.size w ((w.alloc (.cells #[.int .i64 k, .bool b, .string r, .string t, .slice ko N kc, .slice vo M vc] 35)).alloc (.cells #[.int .i64 k2, .bool b2, .string r2, .string t2, .slice ko2 N2 kc2, .slice vo2 M2 vc2] 35))) := by
  show Below _ _ _
  repeat (first | with_reducible exact Below.refl _ _ | with_reducible refine Below.setCell ?_ (by first | (simp; done) | (simp; omega)) _ | with_reducible refine below_drewN ?_ _ | with_reducible refine Below.alloc ?_ (by first | (simp; done) | (simp; omega)) _ | with_reducible refine Below.drew ?_)
 go_enter Tryd.func17, Tryd.ntmps17
 go_wp2_with fail
 generalize ((w.alloc (.cells #[.int .i64 k, .bool b, .string r, .string t, .slice ko N kc, .slice vo M vc] 35)).alloc (.cells #[.int .i64 k2, .bool b2, .string r2, .string t2, .slice ko2 N2 kc2, .slice vo2 M2 vc2] 35)) = W at A1 A2 B1 ⊢
 refine Calls.mono (hf1.out W (hT'.out.below B1.out) (ha'.out.kept B1.out)) ?_
 rintro e w1 ⟨rfl, hb1⟩
 have C1 := hid (A1.out.keptAll hb1)
 have C2 := hid (A2.out.keptAll hb1)
 have Cb := hid (B1.out.trans (hb1.mono B1.out.size))
 clear hf1 hb1 A1 A2 B1
 cases F1 with
 | false =>
  have hfin := hid (hBf.out (by simp))
  clear hBf hal hf2
  obtain rfl := hfin.out
  go_wp2
  go_ret
  exact ⟨rfl, Cb.out⟩
 | true =>
  have d0 := C2.out.cell 0
  have d1 := C2.out.cell 1
  have d2 := C2.out.cell 2
  have d3 := C2.out.cell 3
  have d4 := C2.out.cell 4
  have d5 := C2.out.cell 5
  simp only [List.getElem?_toArray, List.getElem?_cons_zero, List.getElem?_cons_succ] at d0 d1 d2 d3 d4 d5
  go_wp2_with fail
  refine Calls.mono (hf2.out w1 (hT'.out.below Cb.out) (hb'.out.kept Cb.out)) ?_
  rintro e w2 ⟨rfl, hb1⟩
  have D1 := hid (C1.out.keptAll hb1)
  have D2 := hid (C2.out.keptAll hb1)
  have Db := hid (Cb.out.trans (hb1.mono Cb.out.size))
  clear hf2 hb1 C1 C2 Cb d0 d1 d2 d3 d4 d5
  cases F2 with
  | false =>
   have hfin := hid (hBf.out (by simp))
   clear hBf hal
   obtain rfl := hfin.out
   go_wp2
   go_ret
   exact ⟨rfl, Db.out⟩
  | true =>
   have c0 := D1.out.cell 0
   have c1 := D1.out.cell 1
   have c2 := D1.out.cell 2
   have c3 := D1.out.cell 3
   have c4 := D1.out.cell 4
   have c5 := D1.out.cell 5
   have d0 := D2.out.cell 0
   have d1 := D2.out.cell 1
   have d2 := D2.out.cell 2
   have d3 := D2.out.cell 3
   have d4 := D2.out.cell 4
   have d5 := D2.out.cell 5
   simp only [List.getElem?_toArray, List.getElem?_cons_zero, List.getElem?_cons_succ] at c0 c1 c2 c3 c4 c5 d0 d1 d2 d3 d4 d5
   have hcl := hid (hal.out (by simp) (by simp) w2 (ha'.out.kept Db.out) (hb'.out.kept Db.out))
   clear hal hBf
   go_wp2_with fail
   refine Calls.mono hcl.out ?_
   rintro e w3 ⟨rfl, hb3⟩
   have hE := hid (Db.out.trans (hb3.mono Db.out.size))
   clear hcl hb3
   go_wp2
   go_ret
   exact ⟨rfl, hE.out⟩
end Go.Proofs.YtjlcliicdclooaaDoor
