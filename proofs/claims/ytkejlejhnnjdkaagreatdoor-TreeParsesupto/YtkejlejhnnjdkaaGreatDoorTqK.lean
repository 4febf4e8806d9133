/-
 quarryref17.Parse (by gen_tqk.py).
-/
import Derived.Test.YtkejlejhnnjdkaaGreatDoorTqI
import Derived.Test.YtkejlejhnnjdkaaGreatDoorTqJ
import Derived.Test.YtkejlejhnnjdkaaGreatDoorRefVaG
namespace Go.Proofs.YtkejlejhnnjdkaaGreatDoor
open Go.RowKit Go.Shelf
set_option maxRecDepth 10000 in
set_option maxHeartbeats 4000000 in
theorem parR_calls (s : ByteArray) (hs : s.size ≤ 1048576) (d : Int) (C A : Nat) (E : Int) (hI : Hid (IsChk s d C A E)) (t : Vt) (ht : Hid (IsPar s C t)) (w : World) :
  Calls Tryz.prog 8 #[.string s, .int .i64 d] w fun e w' => ∃ x : Value, e = .returned (.tuple #[x, .agg #[.int .i64 (C : Int), .int .i64 (A : Int)], .int .i64 E]) ∧ ValOn (fun c => w.heap.size ≤ c) w' t x ∧ Below w.heap.size w w' := by
 have hck := hid (fun u => check16_calls s hs d u)
 obtain ⟨p, hp⟩ : ∃ p, Hid (w.heap.size = p) := ⟨_, rfl⟩
 have B0 : Hid (Below p w ((w.alloc (.cells #[.int .i64 0, .bool false, .string ⟨#[]⟩, .string ⟨#[]⟩, .slice none 0 0, .slice none 0 0] 25)).alloc (.cells #[.int .i64 0, .int .i64 0] 27))) := by
  rw [← hp.out]
  exact ((Below.refl _ w).alloc (Nat.le_refl _) _).alloc (by rw [World.size_alloc]; omega) _
 have e1 : (w.alloc (.cells #[.int .i64 0, .bool false, .string ⟨#[]⟩, .string ⟨#[]⟩, .slice none 0 0, .slice none 0 0] 25)).heap.size = p + 1 := by rw [World.size_alloc, hp.out]
 have A0 : Hid (At ((w.alloc (.cells #[.int .i64 0, .bool false, .string ⟨#[]⟩, .string ⟨#[]⟩, .slice none 0 0, .slice none 0 0] 25)).alloc (.cells #[.int .i64 0, .int .i64 0] 27)) p #[.int .i64 0, .bool false, .string ⟨#[]⟩, .string ⟨#[]⟩, .slice none 0 0, .slice none 0 0] 25) := by
  have h := (At.new w #[.int .i64 0, .bool false, .string ⟨#[]⟩, .string ⟨#[]⟩, .slice none 0 0, .slice none 0 0] 25).alloc (.cells #[.int .i64 0, .int .i64 0] 27)
  rw [hp.out] at h
  exact h
 have V0 : Hid (At ((w.alloc (.cells #[.int .i64 0, .bool false, .string ⟨#[]⟩, .string ⟨#[]⟩, .slice none 0 0, .slice none 0 0] 25)).alloc (.cells #[.int .i64 0, .int .i64 0] 27)) (p + 1) #[.int .i64 0, .int .i64 0] 27) := by
  have h := At.new (w.alloc (.cells #[.int .i64 0, .bool false, .string ⟨#[]⟩, .string ⟨#[]⟩, .slice none 0 0, .slice none 0 0] 25)) #[.int .i64 0, .int .i64 0] 27
  rw [e1] at h
  exact h
 have z0 : Hid (((w.alloc (.cells #[.int .i64 0, .bool false, .string ⟨#[]⟩, .string ⟨#[]⟩, .slice none 0 0, .slice none 0 0] 25)).alloc (.cells #[.int .i64 0, .int .i64 0] 27)).heap.size = p + 2) := by show _ = _; rw [World.size_alloc, e1]
 clear e1
 by_cases hr : d < 1 ∨ 1024 < d
 ·obtain ⟨rfl, rfl, rfl⟩ : C = 0 ∧ A = 0 ∧ E = 2 := by
   rcases hI.out with ⟨-, h⟩ | ⟨h, -⟩
   ·exact h
   ·omega
  obtain rfl : t = vt0 := by
   rcases ht.out with ⟨h, -⟩ | ⟨-, h⟩
   ·omega
   ·exact h
  clear hck hI ht
  have hcase : (decide (d < 1) = true) ∨ (decide (d < 1) = false ∧ decide (1024 < d) = true) := by
   by_cases h : d < 1
   ·exact .inl (by simp [h])
   ·exact .inr ⟨by simp [h], by simp; omega⟩
  clear hr
  go_enter Tryz.func8, Tryz.ntmps8
  go_upto_region 1 with fail
  rw [hp.out]
  generalize (w.alloc (.cells #[.int .i64 0, .bool false, .string ⟨#[]⟩, .string ⟨#[]⟩, .slice none 0 0, .slice none 0 0] 25)).alloc (.cells #[.int .i64 0, .int .i64 0] 27) = W0 at A0 V0 B0 z0 ⊢
  have A8 := hid (show At ((((((((W0.setCell ⟨p, 0, none⟩ (.int .i64 0)).setCell ⟨p, 1, none⟩ (.bool false)).setCell ⟨p, 2, none⟩ (.string ⟨#[]⟩)).setCell ⟨p, 3, none⟩ (.string ⟨#[]⟩)).setCell ⟨p, 4, none⟩ (.slice none 0 0)).setCell ⟨p, 5, none⟩ (.slice none 0 0)).setCell ⟨p + 1, 0, none⟩ (.int .i64 0)).setCell ⟨p + 1, 1, none⟩ (.int .i64 0)) p #[.int .i64 0, .bool false, .string ⟨#[]⟩, .string ⟨#[]⟩, .slice none 0 0, .slice none 0 0] 25 from ((At.six A0.out).other (p := ⟨p + 1, 0, none⟩) (show p ≠ p + 1 by omega) _).other (p := ⟨p + 1, 1, none⟩) (show p ≠ p + 1 by omega) _)
  have V7 := hid (show At ((((((W0.setCell ⟨p, 0, none⟩ (.int .i64 0)).setCell ⟨p, 1, none⟩ (.bool false)).setCell ⟨p, 2, none⟩ (.string ⟨#[]⟩)).setCell ⟨p, 3, none⟩ (.string ⟨#[]⟩)).setCell ⟨p, 4, none⟩ (.slice none 0 0)).setCell ⟨p, 5, none⟩ (.slice none 0 0)) (p + 1) #[.int .i64 0, .int .i64 0] 27 from (same_six.2 (p + 1) (by omega) V0.out.lt).trans V0.out)
  have V8 := hid (show At ((((((((W0.setCell ⟨p, 0, none⟩ (.int .i64 0)).setCell ⟨p, 1, none⟩ (.bool false)).setCell ⟨p, 2, none⟩ (.string ⟨#[]⟩)).setCell ⟨p, 3, none⟩ (.string ⟨#[]⟩)).setCell ⟨p, 4, none⟩ (.slice none 0 0)).setCell ⟨p, 5, none⟩ (.slice none 0 0)).setCell ⟨p + 1, 0, none⟩ (.int .i64 0)).setCell ⟨p + 1, 1, none⟩ (.int .i64 0)) (p + 1) #[.int .i64 0, .int .i64 0] 27 by simpa using (V7.out.set 0 (.int .i64 0)).set 1 (.int .i64 0))
  have B8 := hid (show Below p w ((((((((W0.setCell ⟨p, 0, none⟩ (.int .i64 0)).setCell ⟨p, 1, none⟩ (.bool false)).setCell ⟨p, 2, none⟩ (.string ⟨#[]⟩)).setCell ⟨p, 3, none⟩ (.string ⟨#[]⟩)).setCell ⟨p, 4, none⟩ (.slice none 0 0)).setCell ⟨p, 5, none⟩ (.slice none 0 0)).setCell ⟨p + 1, 0, none⟩ (.int .i64 0)).setCell ⟨p + 1, 1, none⟩ (.int .i64 0)) from ((below_six B0.out (Nat.le_refl p) _ _ _ _ _ _).setCell (p := ⟨p + 1, 0, none⟩) (show p ≤ p + 1 by omega) _).setCell (p := ⟨p + 1, 1, none⟩) (show p ≤ p + 1 by omega) _)
  have d0 := A0.out.cell 0
  have d1 := A0.out.cell 1
  have d2 := A0.out.cell 2
  have d3 := A0.out.cell 3
  have d4 := A0.out.cell 4
  have d5 := A0.out.cell 5
  simp only [List.getElem?_toArray, List.getElem?_cons_zero, List.getElem?_cons_succ] at d0 d1 d2 d3 d4 d5
  have f0 := A0.out.frozen 0
  have f1 := A0.out.frozen 1
  have f2 := A0.out.frozen 2
  have f3 := A0.out.frozen 3
  have f4 := A0.out.frozen 4
  have f5 := A0.out.frozen 5
  have e0 := V0.out.cell 0
  have e1 := V0.out.cell 1
  simp only [List.getElem?_toArray, List.getElem?_cons_zero, List.getElem?_cons_succ] at e0 e1
  have g0 := V0.out.frozen 0
  have g1 := V0.out.frozen 1
  rcases hcase with h1 | ⟨h1, h2⟩
  all_goals
   go_wp2
   refine ret_par (p := 4) (q := 5) (u := 6) rfl rfl rfl A8.out rfl V8.out rfl ?_
   rw [hp.out]
   exact ⟨_, rfl, leafOn _ _ _ _ _ _ (by decide) (by decide) (by decide), B8.out⟩
 ·have h1 : decide (d < 1) = false := by simp; omega
  have h2 : decide (1024 < d) = false := by simp; omega
  have hE : E = 0 := by rcases hI.out with ⟨h, -⟩ | ⟨-, h, -⟩; exact absurd h hr; exact h
  subst hE
  clear hr
  go_enter Tryz.func8, Tryz.ntmps8
  go_upto_region 1 with fail
  rw [hp.out]
  generalize (w.alloc (.cells #[.int .i64 0, .bool false, .string ⟨#[]⟩, .string ⟨#[]⟩, .slice none 0 0, .slice none 0 0] 25)).alloc (.cells #[.int .i64 0, .int .i64 0] 27) = W0 at A0 V0 B0 z0 ⊢
  go_wp2_with fail
  refine Calls.mono (hck.out W0) ?_
  rintro e W1 ⟨C', A', E', rfl, hI', hb⟩
  obtain ⟨e1, e2, e3⟩ := hI'.uniq hI.out
  subst e1
  subst e2
  subst e3
  obtain ⟨C, rfl⟩ : ∃ x, x = C' := ⟨_, rfl⟩
  obtain ⟨A, rfl⟩ : ∃ x, x = A' := ⟨_, rfl⟩
  have B1 : Hid (Below p w (W1.alloc (.cells #[.int .i64 (C : Int), .int .i64 (A : Int)] 27))) := by
   have h1 := B0.out.trans (hb.mono (by rw [z0.out]; omega))
   exact h1.alloc (by have := hb.size; rw [z0.out] at this; omega) _
  have A1 := hid ((A0.out.keptAll hb).alloc (.cells #[.int .i64 (C : Int), .int .i64 (A : Int)] 27))
  have V1 := hid ((V0.out.keptAll hb).alloc (.cells #[.int .i64 (C : Int), .int .i64 (A : Int)] 27))
  have X1 := hid (At.new W1 #[.int .i64 (C : Int), .int .i64 (A : Int)] 27)
  obtain ⟨xb, hxb⟩ : ∃ x, Hid (W1.heap.size = x) := ⟨_, rfl⟩
  have hxl : Hid (p + 2 ≤ xb) := by have := hb.size; rw [z0.out, hxb.out] at this; exact this
  have hsz : Hid ((W1.alloc (.cells #[.int .i64 (C : Int), .int .i64 (A : Int)] 27)).heap.size = xb + 1) := by show _ = _; rw [World.size_alloc, hxb.out]
  rw [hxb.out] at X1
  clear hck hI' hb A0 V0 B0 z0
  by_cases hC : C = 1
  ·obtain ⟨i, j, hsk, hPV⟩ : ∃ i j, IsSkip s 0 i ∧ PV s i t j := by
    rcases ht.out with ⟨-, h⟩ | ⟨h, -⟩
    ·exact h
    ·exact absurd hC h
   have ec : ((C : Int) != 1) = false := by simp [hC]
   have cV := hid (fun u => rv_pv hs hPV 0 u hsk)
   clear ht hC hsk hPV
   go_upto_region 4 with fail
   rw [hxb.out]
   generalize W1.alloc (.cells #[.int .i64 (C : Int), .int .i64 (A : Int)] 27) = W2 at A1 V1 X1 B1 hsz ⊢
   have c0 : W2.cell? ⟨xb, 0, none⟩ = some (.int .i64 (C : Int)) := X1.out.cell 0
   go_wp2_with fail
   clear c0
   refine Calls.mono (cV.out W2) ?_
   rintro e W3 ⟨x, rfl, hV, hb⟩
   obtain ⟨ko, kc, vo, vc, rfl⟩ := hV.six
   have hq : Below W3.heap.size W3 (W3.alloc (.cells #[.int .i64 t.kind, .bool t.b, .string t.raw, .string t.text, .slice ko t.keys.length kc, .slice vo t.kids.length vc] 25)) := (Below.refl _ _).alloc (Nat.le_refl _) _
   have hp1 : p ≤ W2.heap.size := by rw [hsz.out]; have := hxl.out; omega
   have A2 := hid ((A1.out.keptAll hb).keptAll hq)
   have V2 := hid ((V1.out.keptAll hb).keptAll hq)
   have X2 := hid ((X1.out.keptAll hb).keptAll hq)
   have B2 := hid ((B1.out.trans (hb.mono hp1)).trans (hq.mono (Nat.le_trans hp1 hb.size)))
   have U2 := hid ((hV.mono (S' := fun c => xb + 1 ≤ c) (fun c _ h => by rw [← hsz.out]; exact h)).keptB hq)
   have E2 := hid (At.new W3 #[.int .i64 t.kind, .bool t.b, .string t.raw, .string t.text, .slice ko t.keys.length kc, .slice vo t.kids.length vc] 25)
   obtain ⟨pe, hpe⟩ : ∃ x, W3.heap.size = x := ⟨_, rfl⟩
   have hpl : Hid (xb + 1 ≤ pe) := by have := hb.size; rw [hsz.out, hpe] at this; exact this
   rw [hpe] at E2
   go_upto_region 7 with fail
   try rw [hpe]
   clear hq hb hV A1 V1 X1 B1 hsz cV hpe hp1
   generalize W3.alloc (.cells #[.int .i64 t.kind, .bool t.b, .string t.raw, .string t.text, .slice ko t.keys.length kc, .slice vo t.kids.length vc] 25) = W4 at A2 V2 X2 B2 U2 E2 ⊢
   have hx0 : (W4.drew.cell? ⟨xb, 0, none⟩ = some (.int .i64 (C : Int)) ∧ W4.drew.cell? ⟨xb, 1, none⟩ = some (.int .i64 (A : Int))) ∧ W4.drew.cell? ⟨pe, 0, none⟩ = some (.int .i64 t.kind) ∧ W4.drew.cell? ⟨pe, 1, none⟩ = some (.bool t.b) ∧ W4.drew.cell? ⟨pe, 2, none⟩ = some (.string t.raw) ∧ W4.drew.cell? ⟨pe, 3, none⟩ = some (.string t.text) ∧ W4.drew.cell? ⟨pe, 4, none⟩ = some (.slice ko t.keys.length kc) ∧ W4.drew.cell? ⟨pe, 5, none⟩ = some (.slice vo t.kids.length vc) := ⟨⟨X2.out.cell 0, X2.out.cell 1⟩, E2.out.cell 0, E2.out.cell 1, E2.out.cell 2, E2.out.cell 3, E2.out.cell 4, E2.out.cell 5⟩
   have q0 := hid (show Below W4.heap.size W4 W4.drew from (Below.refl _ _).drew)
   have A6 := hid (A2.out.keptAll q0.out)
   have V6 := hid (V2.out.keptAll q0.out)
   have X6 := hid (X2.out.keptAll q0.out)
   have E6 := hid (E2.out.keptAll q0.out)
   have U6 := hid (U2.out.keptB q0.out)
   have B6 := hid (B2.out.drew)
   refine wp_region_held_drew (S := fun w' => (w'.cell? ⟨xb, 0, none⟩ = some (.int .i64 (C : Int)) ∧ w'.cell? ⟨xb, 1, none⟩ = some (.int .i64 (A : Int))) ∧ w'.cell? ⟨pe, 0, none⟩ = some (.int .i64 t.kind) ∧ w'.cell? ⟨pe, 1, none⟩ = some (.bool t.b) ∧ w'.cell? ⟨pe, 2, none⟩ = some (.string t.raw) ∧ w'.cell? ⟨pe, 3, none⟩ = some (.string t.text) ∧ w'.cell? ⟨pe, 4, none⟩ = some (.slice ko t.keys.length kc) ∧ w'.cell? ⟨pe, 5, none⟩ = some (.slice vo t.kids.length vc)) (by kernel_rfl) hx0 (fun hHeld => ?_)
   clear hHeld q0 A2 V2 X2 E2 U2 B2
   generalize W4.drew = v0 at *
   (refine' wpAnyH_take (i := 0) rfl (by kernel_rfl) (by kernel_rfl) (by kernel_rfl) (fun _ _ _ h => h) (Or.inl ⟨by rfl, ?_⟩) (by assumption) ?_; rotate_left; (· (intro wq hq; (try dsimp only at hq); go_simp; first | done | with_reducible rfl)); simp only [Act.put, List.getElem_toArray, List.getElem_cons_zero, List.setIfInBounds_toArray, List.set_cons_zero, List.set_cons_succ])
   (refine' wpAnyH_take (i := 1) rfl (by kernel_rfl) (by kernel_rfl) (by kernel_rfl) (fun _ _ _ h => h) (Or.inl ⟨by rfl, ?_⟩) (by assumption) ?_; rotate_left; (· (intro wq hq; (try dsimp only at hq); go_simp; first | done | with_reducible rfl)); simp only [Act.put, List.getElem_toArray, List.getElem_cons_zero, List.getElem_cons_succ, List.setIfInBounds_toArray, List.set_cons_zero, List.set_cons_succ])
   have d0 := A6.out.cell 0
   have d1 := A6.out.cell 1
   have d2 := A6.out.cell 2
   have d3 := A6.out.cell 3
   have d4 := A6.out.cell 4
   have d5 := A6.out.cell 5
   simp only [List.getElem?_toArray, List.getElem?_cons_zero, List.getElem?_cons_succ] at d0 d1 d2 d3 d4 d5
   have f0 := A6.out.frozen 0
   have f1 := A6.out.frozen 1
   have f2 := A6.out.frozen 2
   have f3 := A6.out.frozen 3
   have f4 := A6.out.frozen 4
   have f5 := A6.out.frozen 5
   refine wpAnyH_ready (rs := [2]) (by kernel_rfl) (by simp) ?_
   refine AllReadyH.cons rfl (fun K hK => ?_) ?_
   ·go_simp
    have X7 := hid (show At ((((((v0.setCell ⟨p, 0, none⟩ (.int .i64 t.kind)).setCell ⟨p, 1, none⟩ (.bool t.b)).setCell ⟨p, 2, none⟩ (.string t.raw)).setCell ⟨p, 3, none⟩ (.string t.text)).setCell ⟨p, 4, none⟩ (.slice ko t.keys.length kc)).setCell ⟨p, 5, none⟩ (.slice vo t.kids.length vc)) xb #[.int .i64 (C : Int), .int .i64 (A : Int)] 27 from (same_six.2 xb (by have := hxl.out; omega) X6.out.lt).trans X6.out)
    have V7 := hid (show At ((((((v0.setCell ⟨p, 0, none⟩ (.int .i64 t.kind)).setCell ⟨p, 1, none⟩ (.bool t.b)).setCell ⟨p, 2, none⟩ (.string t.raw)).setCell ⟨p, 3, none⟩ (.string t.text)).setCell ⟨p, 4, none⟩ (.slice ko t.keys.length kc)).setCell ⟨p, 5, none⟩ (.slice vo t.kids.length vc)) (p + 1) #[.int .i64 0, .int .i64 0] 27 from (same_six.2 (p + 1) (by omega) V6.out.lt).trans V6.out)
    have A7 := hid (show At ((((((v0.setCell ⟨p, 0, none⟩ (.int .i64 t.kind)).setCell ⟨p, 1, none⟩ (.bool t.b)).setCell ⟨p, 2, none⟩ (.string t.raw)).setCell ⟨p, 3, none⟩ (.string t.text)).setCell ⟨p, 4, none⟩ (.slice ko t.keys.length kc)).setCell ⟨p, 5, none⟩ (.slice vo t.kids.length vc)) p #[.int .i64 t.kind, .bool t.b, .string t.raw, .string t.text, .slice ko t.keys.length kc, .slice vo t.kids.length vc] 25 from A6.out.six)
    have B7 := hid (show Below p w ((((((v0.setCell ⟨p, 0, none⟩ (.int .i64 t.kind)).setCell ⟨p, 1, none⟩ (.bool t.b)).setCell ⟨p, 2, none⟩ (.string t.raw)).setCell ⟨p, 3, none⟩ (.string t.text)).setCell ⟨p, 4, none⟩ (.slice ko t.keys.length kc)).setCell ⟨p, 5, none⟩ (.slice vo t.kids.length vc)) from below_six B6.out (Nat.le_refl p) _ _ _ _ _ _)
    have U7 := hid (U6.out.kept (S' := fun c => xb + 1 ≤ c) (fun c _ hc => hc) ⟨(same_six (w := v0) (h := p) (y0 := (.int .i64 t.kind)) (y1 := (.bool t.b)) (y2 := (.string t.raw)) (y3 := (.string t.text)) (y4 := (.slice ko t.keys.length kc)) (y5 := (.slice vo t.kids.length vc))).1, fun c hc hl => same_six.2 c (by have : xb + 1 ≤ c := hc; have := hxl.out; omega) hl⟩)
    have E7 := hid (show At ((((((v0.setCell ⟨p, 0, none⟩ (.int .i64 t.kind)).setCell ⟨p, 1, none⟩ (.bool t.b)).setCell ⟨p, 2, none⟩ (.string t.raw)).setCell ⟨p, 3, none⟩ (.string t.text)).setCell ⟨p, 4, none⟩ (.slice ko t.keys.length kc)).setCell ⟨p, 5, none⟩ (.slice vo t.kids.length vc)) pe #[.int .i64 t.kind, .bool t.b, .string t.raw, .string t.text, .slice ko t.keys.length kc, .slice vo t.kids.length vc] 25 from (same_six.2 pe (by have := hpl.out; have := hxl.out; omega) E6.out.lt).trans E6.out)
    refine hK.out _ _ ⟨⟨X7.out.cell 0, X7.out.cell 1⟩, E7.out.cell 0, E7.out.cell 1, E7.out.cell 2, E7.out.cell 3, E7.out.cell 4, E7.out.cell 5⟩ (fun _ => ?_)
    clear hK K d0 f0 d1 f1 d2 f2 d3 f3 d4 f4 d5 f5 A6 V6 X6 B6 hx0 U6 E6
    generalize ((((((v0.setCell ⟨p, 0, none⟩ (.int .i64 t.kind)).setCell ⟨p, 1, none⟩ (.bool t.b)).setCell ⟨p, 2, none⟩ (.string t.raw)).setCell ⟨p, 3, none⟩ (.string t.text)).setCell ⟨p, 4, none⟩ (.slice ko t.keys.length kc)).setCell ⟨p, 5, none⟩ (.slice vo t.kids.length vc)) = v2 at *
    have d0 := V7.out.cell 0
    have d1 := V7.out.cell 1
    simp only [List.getElem?_toArray, List.getElem?_cons_zero, List.getElem?_cons_succ] at d0 d1
    have f0 := V7.out.frozen 0
    have f1 := V7.out.frozen 1
    have V8 := hid (show At ((v2.setCell ⟨p + 1, 0, none⟩ (.int .i64 (C : Int))).setCell ⟨p + 1, 1, none⟩ (.int .i64 (A : Int))) (p + 1) #[.int .i64 (C : Int), .int .i64 (A : Int)] 27 by simpa using (V7.out.set 0 (.int .i64 (C : Int))).set 1 (.int .i64 (A : Int)))
    have X8 := hid ((X7.out.other (p := ⟨p + 1, 0, none⟩) (show xb ≠ p + 1 by have := hxl.out; omega) (.int .i64 (C : Int))).other (p := ⟨p + 1, 1, none⟩) (show xb ≠ p + 1 by have := hxl.out; omega) (.int .i64 (A : Int)))
    have E8 := hid ((E7.out.other (p := ⟨p + 1, 0, none⟩) (show pe ≠ p + 1 by have := hpl.out; have := hxl.out; omega) (.int .i64 (C : Int))).other (p := ⟨p + 1, 1, none⟩) (show pe ≠ p + 1 by have := hpl.out; have := hxl.out; omega) (.int .i64 (A : Int)))
    refine wpAnyH_ready (rs := [3]) (by kernel_rfl) (by simp) ?_
    refine AllReadyH.cons rfl (fun K hK => ?_) ?_
    ·go_simp
     refine hK.out _ _ ⟨⟨X8.out.cell 0, X8.out.cell 1⟩, E8.out.cell 0, E8.out.cell 1, E8.out.cell 2, E8.out.cell 3, E8.out.cell 4, E8.out.cell 5⟩ (fun _ => ?_)
     clear hK K d0 d1 f0 f1
     (refine' wpAnyH_take (i := 4) rfl (by kernel_rfl) (by kernel_rfl) (by kernel_rfl) (fun _ _ _ h => h) (Or.inl ⟨by rfl, ?_⟩) (by assumption) ?_; rotate_left; (· (intro wq hq; (try dsimp only at hq); go_simp; first | done | with_reducible rfl)); simp only [Act.put, List.getElem_toArray, List.getElem_cons_zero, List.getElem_cons_succ, List.setIfInBounds_toArray, List.set_cons_zero, List.set_cons_succ])
     refine wpAnyH_done (by kernel_rfl) ?_ _
     have hl := hxl.out
     have hA8 := (A7.out.other (p := ⟨p + 1, 0, none⟩) (show p ≠ p + 1 by omega) (.int .i64 (C : Int))).other (p := ⟨p + 1, 1, none⟩) (show p ≠ p + 1 by omega) (.int .i64 (A : Int))
     have hU8 := U7.out.kept (S' := fun c => p ≤ c) (w' := ((v2.setCell ⟨p + 1, 0, none⟩ (.int .i64 (C : Int))).setCell ⟨p + 1, 1, none⟩ (.int .i64 (A : Int)))) (fun c _ hc => by omega) ⟨by simp, fun c hc _ => by rw [Below.heap_setCell _ _ _ _ (show c ≠ p + 1 by omega), Below.heap_setCell _ _ _ _ (show c ≠ p + 1 by omega)]⟩
     have hB8 := (B7.out.setCell (p := ⟨p + 1, 0, none⟩) (show p ≤ p + 1 by omega) (.int .i64 (C : Int))).setCell (p := ⟨p + 1, 1, none⟩) (show p ≤ p + 1 by omega) (.int .i64 (A : Int))
     go_wp2
     refine ret_par (p := 4) (q := 5) (u := 6) rfl rfl rfl hA8 rfl V8.out rfl ?_
     rw [hp.out]
     exact ⟨_, rfl, hU8, hB8⟩
    exact AllReadyH.nil
   exact AllReadyH.nil
  ·obtain rfl : t = vt0 := by
    rcases ht.out with ⟨h, -⟩ | ⟨-, h⟩
    ·exact absurd h hC
    ·exact h
   have ec : ((C : Int) != 1) = true := by simp; omega
   clear ht hC
   go_upto_region 4 with fail
   rw [hxb.out]
   generalize W1.alloc (.cells #[.int .i64 (C : Int), .int .i64 (A : Int)] 27) = W2 at A1 V1 X1 B1 hsz ⊢
   have c0 : W2.cell? ⟨xb, 0, none⟩ = some (.int .i64 (C : Int)) := X1.out.cell 0
   go_upto_region 5 with fail
   clear c0
   have hx0 : W2.drew.cell? ⟨xb, 0, none⟩ = some (.int .i64 (C : Int)) ∧ W2.drew.cell? ⟨xb, 1, none⟩ = some (.int .i64 (A : Int)) := ⟨X1.out.cell 0, X1.out.cell 1⟩
   have q0 := hid (show Below W2.heap.size W2 W2.drew from (Below.refl _ _).drew)
   have A6 := hid (A1.out.keptAll q0.out)
   have V6 := hid (V1.out.keptAll q0.out)
   have X6 := hid (X1.out.keptAll q0.out)
   have B6 := hid (B1.out.drew)
   refine wp_region_held_drew (S := fun w' => w'.cell? ⟨xb, 0, none⟩ = some (.int .i64 (C : Int)) ∧ w'.cell? ⟨xb, 1, none⟩ = some (.int .i64 (A : Int))) (by kernel_rfl) hx0 (fun hHeld => ?_)
   clear hHeld q0 A1 V1 X1 B1 hsz
   generalize W2.drew = v0 at *
   (refine' wpAnyH_take (i := 0) rfl (by kernel_rfl) (by kernel_rfl) (by kernel_rfl) (fun _ _ _ h => h) (Or.inl ⟨by rfl, ?_⟩) (by assumption) ?_; rotate_left; (· (intro wq hq; (try dsimp only at hq); go_simp; first | done | with_reducible rfl)); simp only [Act.put, List.getElem_toArray, List.getElem_cons_zero, List.setIfInBounds_toArray, List.set_cons_zero, List.set_cons_succ])
   (refine' wpAnyH_take (i := 1) rfl (by kernel_rfl) (by kernel_rfl) (by kernel_rfl) (fun _ _ _ h => h) (Or.inl ⟨by rfl, ?_⟩) (by assumption) ?_; rotate_left; (· (intro wq hq; (try dsimp only at hq); go_simp; first | done | with_reducible rfl)); simp only [Act.put, List.getElem_toArray, List.getElem_cons_zero, List.getElem_cons_succ, List.setIfInBounds_toArray, List.set_cons_zero, List.set_cons_succ])
   have d0 := A6.out.cell 0
   have d1 := A6.out.cell 1
   have d2 := A6.out.cell 2
   have d3 := A6.out.cell 3
   have d4 := A6.out.cell 4
   have d5 := A6.out.cell 5
   simp only [List.getElem?_toArray, List.getElem?_cons_zero, List.getElem?_cons_succ] at d0 d1 d2 d3 d4 d5
   have f0 := A6.out.frozen 0
   have f1 := A6.out.frozen 1
   have f2 := A6.out.frozen 2
   have f3 := A6.out.frozen 3
   have f4 := A6.out.frozen 4
   have f5 := A6.out.frozen 5
   refine wpAnyH_ready (rs := [2]) (by kernel_rfl) (by simp) ?_
   refine AllReadyH.cons rfl (fun K hK => ?_) ?_
   ·go_simp
    have X7 := hid (show At ((((((v0.setCell ⟨p, 0, none⟩ (.int .i64 0)).setCell ⟨p, 1, none⟩ (.bool false)).setCell ⟨p, 2, none⟩ (.string ⟨#[]⟩)).setCell ⟨p, 3, none⟩ (.string ⟨#[]⟩)).setCell ⟨p, 4, none⟩ (.slice none 0 0)).setCell ⟨p, 5, none⟩ (.slice none 0 0)) xb #[.int .i64 (C : Int), .int .i64 (A : Int)] 27 from (same_six.2 xb (by have := hxl.out; omega) X6.out.lt).trans X6.out)
    have V7 := hid (show At ((((((v0.setCell ⟨p, 0, none⟩ (.int .i64 0)).setCell ⟨p, 1, none⟩ (.bool false)).setCell ⟨p, 2, none⟩ (.string ⟨#[]⟩)).setCell ⟨p, 3, none⟩ (.string ⟨#[]⟩)).setCell ⟨p, 4, none⟩ (.slice none 0 0)).setCell ⟨p, 5, none⟩ (.slice none 0 0)) (p + 1) #[.int .i64 0, .int .i64 0] 27 from (same_six.2 (p + 1) (by omega) V6.out.lt).trans V6.out)
    have A7 := hid (show At ((((((v0.setCell ⟨p, 0, none⟩ (.int .i64 0)).setCell ⟨p, 1, none⟩ (.bool false)).setCell ⟨p, 2, none⟩ (.string ⟨#[]⟩)).setCell ⟨p, 3, none⟩ (.string ⟨#[]⟩)).setCell ⟨p, 4, none⟩ (.slice none 0 0)).setCell ⟨p, 5, none⟩ (.slice none 0 0)) p #[.int .i64 0, .bool false, .string ⟨#[]⟩, .string ⟨#[]⟩, .slice none 0 0, .slice none 0 0] 25 from A6.out.six)
    have B7 := hid (show Below p w ((((((v0.setCell ⟨p, 0, none⟩ (.int .i64 0)).setCell ⟨p, 1, none⟩ (.bool false)).setCell ⟨p, 2, none⟩ (.string ⟨#[]⟩)).setCell ⟨p, 3, none⟩ (.string ⟨#[]⟩)).setCell ⟨p, 4, none⟩ (.slice none 0 0)).setCell ⟨p, 5, none⟩ (.slice none 0 0)) from below_six B6.out (Nat.le_refl p) _ _ _ _ _ _)
    refine hK.out _ _ ⟨X7.out.cell 0, X7.out.cell 1⟩ (fun _ => ?_)
    clear hK K d0 f0 d1 f1 d2 f2 d3 f3 d4 f4 d5 f5 A6 V6 X6 B6 hx0
    generalize ((((((v0.setCell ⟨p, 0, none⟩ (.int .i64 0)).setCell ⟨p, 1, none⟩ (.bool false)).setCell ⟨p, 2, none⟩ (.string ⟨#[]⟩)).setCell ⟨p, 3, none⟩ (.string ⟨#[]⟩)).setCell ⟨p, 4, none⟩ (.slice none 0 0)).setCell ⟨p, 5, none⟩ (.slice none 0 0)) = v2 at *
    have d0 := V7.out.cell 0
    have d1 := V7.out.cell 1
    simp only [List.getElem?_toArray, List.getElem?_cons_zero, List.getElem?_cons_succ] at d0 d1
    have f0 := V7.out.frozen 0
    have f1 := V7.out.frozen 1
    have V8 := hid (show At ((v2.setCell ⟨p + 1, 0, none⟩ (.int .i64 (C : Int))).setCell ⟨p + 1, 1, none⟩ (.int .i64 (A : Int))) (p + 1) #[.int .i64 (C : Int), .int .i64 (A : Int)] 27 by simpa using (V7.out.set 0 (.int .i64 (C : Int))).set 1 (.int .i64 (A : Int)))
    have X8 := hid ((X7.out.other (p := ⟨p + 1, 0, none⟩) (show xb ≠ p + 1 by have := hxl.out; omega) (.int .i64 (C : Int))).other (p := ⟨p + 1, 1, none⟩) (show xb ≠ p + 1 by have := hxl.out; omega) (.int .i64 (A : Int)))
    refine wpAnyH_ready (rs := [3]) (by kernel_rfl) (by simp) ?_
    refine AllReadyH.cons rfl (fun K hK => ?_) ?_
    ·go_simp
     refine hK.out _ _ ⟨X8.out.cell 0, X8.out.cell 1⟩ (fun _ => ?_)
     clear hK K d0 d1 f0 f1
     (refine' wpAnyH_take (i := 4) rfl (by kernel_rfl) (by kernel_rfl) (by kernel_rfl) (fun _ _ _ h => h) (Or.inl ⟨by rfl, ?_⟩) (by assumption) ?_; rotate_left; (· (intro wq hq; (try dsimp only at hq); go_simp; first | done | with_reducible rfl)); simp only [Act.put, List.getElem_toArray, List.getElem_cons_zero, List.getElem_cons_succ, List.setIfInBounds_toArray, List.set_cons_zero, List.set_cons_succ])
     refine wpAnyH_done (by kernel_rfl) ?_ _
     have hl := hxl.out
     have hA8 := (A7.out.other (p := ⟨p + 1, 0, none⟩) (show p ≠ p + 1 by omega) (.int .i64 (C : Int))).other (p := ⟨p + 1, 1, none⟩) (show p ≠ p + 1 by omega) (.int .i64 (A : Int))
     have hB8 := (B7.out.setCell (p := ⟨p + 1, 0, none⟩) (show p ≤ p + 1 by omega) (.int .i64 (C : Int))).setCell (p := ⟨p + 1, 1, none⟩) (show p ≤ p + 1 by omega) (.int .i64 (A : Int))
     go_wp2
     refine ret_par (p := 4) (q := 5) (u := 6) rfl rfl rfl hA8 rfl V8.out rfl ?_
     rw [hp.out]
     exact ⟨_, rfl, leafOn _ _ _ _ _ _ (by decide) (by decide) (by decide), hB8⟩
    exact AllReadyH.nil
   exact AllReadyH.nil
end Go.Proofs.YtkejlejhnnjdkaaGreatDoor
