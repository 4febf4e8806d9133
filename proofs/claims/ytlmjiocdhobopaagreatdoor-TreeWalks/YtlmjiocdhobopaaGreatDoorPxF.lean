/-
 The law TreeWalks, walked (by gen_pxf.py).
-/
import Derived.Test.YtlmjiocdhobopaaGreatDoorPxE
import Derived.Test.YtlmjiocdhobopaaGreatDoorTrG
import Derived.Deep.RegionWith
namespace Go.Proofs.YtlmjiocdhobopaaGreatDoor
open Go.RowKit Go.Shelf
theorem wf_smallX : wfV smallT 1024 = true := by decide +kernel
theorem ln_smallX : lnV smallT := by
 unfold smallT listT
 simp [lnV, lnL]
theorem sz_smallX : szV smallT := by
 unfold smallT listT
 simp only [szV, szL]
 refine ⟨by decide, fun i k h => ?_, ⟨by decide, fun i k h => by simp at h, ⟨by decide, fun i k h => by simp at h, trivial⟩, ⟨by decide, fun i k h => by simp at h, trivial⟩, trivial⟩, ⟨by decide, fun i k h => by simp at h, trivial⟩, trivial⟩
 match i, h with
 | 0, h => simp at h; subst h; decide
 | 1, h => simp at h; subst h; decide
 | i + 2, h => simp at h
theorem blk_smallX : blkV smallT ≤ 2147483640 := by decide +kernel
theorem same_cellX {S : Nat → Prop} {w w' : World} (h : SameOn S w w') {b : Nat} (hb : ¬ S b) (i : Nat) (x : Value) : SameOn S w (w'.setCell ⟨b, i, none⟩ x) :=
 ⟨Nat.le_trans h.1 (KeepsOthers.setCell _ _ _).1, fun c hc hl => (Below.heap_setCell w' ⟨b, i, none⟩ x c (by show c ≠ b; rintro rfl; exact hb hc)).trans (h.2 c hc hl)⟩
theorem same_cellsX {S : Nat → Prop} {w w' : World} (h : SameOn S w w') {b : Nat} (hb : ¬ S b) : ∀ (L : List Value) (o : Nat), SameOn S w (w'.setCells b o L) := by
 intro L
 induction L generalizing w' with
 | nil => intro o; exact h
 | cons v L ih => intro o; exact ih (same_cellX h hb o v) (o + 1)
set_option maxRecDepth 100000 in
set_option maxHeartbeats 16000000 in
theorem treeWalks_walk (ta : Vt) (v0 : Value) (left : Int) (hlw : (Lit.int .i64 left).wf = true) (w : World) (hP : PowT w) (hT : TabU w) (hM : MxI w) (ha : ValAt w ta v0) :
  Calls Tryz.prog 3 #[v0, .int .i64 left] w fun e w' => e = .returned (.bool true) ∧ Below w.heap.size w w' := by
 obtain ⟨k1, b1, r1, t1, ko1, N1, kc1, vo1, M1, vc1, rfl⟩ := ha.lets
 obtain ⟨P0, hP0⟩ : ∃ B, Hid (byd ta = B) := ⟨_, rfl⟩
 have q0 := hid (fun u hu => beyond_calls ta P0 hP0 (.agg #[.int .i64 k1, .bool b1, .string r1, .string t1, .slice ko1 N1 kc1, .slice vo1 M1 vc1]) u hu)
 have sm := hid (fun u => small_calls u)
 obtain ⟨N0, hN0⟩ : ∃ N0, Hid ((prV [] smallT).length = N0) := ⟨_, rfl⟩
 have hN0s : N0 ≤ 2147483640 := by rw [← hN0.out, prV_len]; exact Nat.le_trans (cnt_blk _) blk_smallX
 have wkS := hid (fun k9 b9 r9 t9 ko9 N9 kc9 vo9 M9 vc9 u h1 h2 => walkF_calls smallT (hid wf_smallX) ln_smallX k9 b9 r9 t9 ko9 N9 kc9 vo9 M9 vc9 u h1 h2)
 have rwS := hid (fun k9 b9 r9 t9 ko9 N9 kc9 vo9 M9 vc9 u h1 h2 => refWalkF_calls smallT sz_smallX ln_smallX blk_smallX k9 b9 r9 t9 ko9 N9 kc9 vo9 M9 vc9 u h1 h2 wf_smallX)
 rw [hN0.out] at rwS
 have hbS := hid (fun (x : List UInt8 × Vt) (hx : x ∈ prV [] smallT) => (show x.1.length ≤ 1099511627776 by have h1 := prV_bound smallT [] x ln_smallX hx; have h2 := blk_smallX; simp only [List.length_nil] at h1; omega))
 have okS := hid (okP_of smallT 1024 wf_smallX blk_smallX ln_smallX)
 have hnf : ∀ (f : Fn) (a b : Array Value) (w : World), Sem.run Tryz.prog (binOp BinOp.eql 27 (.func f a b) .nilFunc) w = .ok (.bool false) w := fun _ _ _ _ => by rfl
 have ha' := hid ha
 have hT' := hid hT
 have hP' := hid hP
 have hM' := hid hM
 have A1 := hid (At.new w #[.int .i64 k1, .bool b1, .string r1, .string t1, .slice ko1 N1 kc1, .slice vo1 M1 vc1] 25)
 have B1 := hid (show Below w.heap.size w (w.alloc (.cells #[.int .i64 k1, .bool b1, .string r1, .string t1, .slice ko1 N1 kc1, .slice vo1 M1 vc1] 25)) from (Below.refl _ _).alloc (Nat.le_refl _) _)
 generalize hW1 : w.alloc (.cells #[.int .i64 k1, .bool b1, .string r1, .string t1, .slice ko1 N1 kc1, .slice vo1 M1 vc1] 25) = W1 at A1 B1
 clear ha hT hP hM
 go_enter Tryz.func3, Tryz.ntmps3
 go_wp2_with fail
 refine Calls.mono (sm.out _) ?_
 rintro e W2 ⟨v1, rfl, sv1, bq⟩
 obtain ⟨k2, b2, r2, t2, ko2, N2, kc2, vo2, M2, vc2, rfl⟩ := sv1.lets
 have A2 := hid (A1.out.keptAll bq)
 have B2 := hid (B1.out.trans (bq.mono B1.out.size))
 have S2 := hid sv1
 clear bq sv1 A1 B1 hW1
 go_wp2_with fail
 refine Calls.mono (wkS.out k2 b2 r2 t2 ko2 N2 kc2 vo2 M2 vc2 W2 (hid (hT'.out.below B2.out)) S2) ?_
 rintro e W3 ⟨Bk, ck, rfl, hBk, hAK, hVK, bq⟩
 have A3 := hid (A2.out.keptAll bq)
 have B3 := hid (B2.out.trans (bq.mono B2.out.size))
 have K3 := hid hAK
 have V3 := hid (valAt_on hVK.at)
 clear bq hAK hVK hBk A2 B2 S2 wkS
 go_wp2_with fail
 refine Calls.mono (sm.out _) ?_
 rintro e W4 ⟨v2, rfl, sv2, bq⟩
 obtain ⟨k3, b3, r3, t3, ko3, N3, kc3, vo3, M3, vc3, rfl⟩ := sv2.lets
 have A4 := hid (A3.out.keptAll bq)
 have B4 := hid (B3.out.trans (bq.mono B3.out.size))
 have K4 := hid (K3.out.keptAll bq)
 have V4 := hid (valAt_on (V3.out.at.kept bq))
 have S4 := hid sv2
 clear bq sv2 A3 B3 K3 V3 sm
 go_wp2_with fail
 refine Calls.mono (rwS.out k3 b3 r3 t3 ko3 N3 kc3 vo3 M3 vc3 W4 (hid (hP'.out.kept B4.out)) S4) ?_
 rintro e W5 ⟨ao, ca, lo, cl, rfl, hpv, bq⟩
 have A5 := hid (A4.out.keptAll bq)
 have B5 := hid (B4.out.trans (bq.mono B4.out.size))
 have td := hid (told17_walk smallT ln_smallX okS.out hbS.out Bk ck ao lo N0 ca cl hN0 (by omega) 1 (by decide) 0 (by decide) W5 (hP'.out.kept B5.out) (hM'.out.kept B5.out) (K4.out.keptAll bq) (valAt_on (V4.out.at.kept bq)) hpv)
 clear bq hpv A4 B4 K4 V4 S4 rwS
 go_wp2_with fail
 refine Calls.mono td.out ?_
 rintro e W6 ⟨rfl, bq⟩
 have A6 := hid (A5.out.keptAll bq)
 have B6 := hid (B5.out.trans (bq.mono B5.out.size))
 clear bq td A5 B5
 have d0 : W6.drew.cell? ⟨w.heap.size, 0, none⟩ = some (.int .i64 k1) := A6.out.drew.cell 0
 have d1 : W6.drew.cell? ⟨w.heap.size, 1, none⟩ = some (.bool b1) := A6.out.drew.cell 1
 have d2 : W6.drew.cell? ⟨w.heap.size, 2, none⟩ = some (.string r1) := A6.out.drew.cell 2
 have d3 : W6.drew.cell? ⟨w.heap.size, 3, none⟩ = some (.string t1) := A6.out.drew.cell 3
 have d4 : W6.drew.cell? ⟨w.heap.size, 4, none⟩ = some (.slice ko1 N1 kc1) := A6.out.drew.cell 4
 have d5 : W6.drew.cell? ⟨w.heap.size, 5, none⟩ = some (.slice vo1 M1 vc1) := A6.out.drew.cell 5
 have Bd := hid (show Below w.heap.size w W6.drew from B6.out.drew)
 have qd := hid (q0.out W6.drew (ha'.out.kept Bd.out))
 cases P0 with
 | true =>
  go_wp2_with fail
  go_region_with (first | (go_at_call 8; refine qd.out.mono ?_; rintro e w7 ⟨rfl, b7⟩; have B7 := hid (Bd.out.trans (b7.mono Bd.out.size)); clear b7) | fail)
  all_goals
   go_wp2
   go_ret
   exact ⟨rfl, B7.out⟩
 | false =>
  have hbn := hid (byd_bnd hP0.out)
  have hln := hid (byd_ln hP0.out)
  have hbk := hid (byd_blk hP0.out)
  obtain ⟨C, hC⟩ : ∃ C, Hid (cntV ta = C) := ⟨_, rfl⟩
  obtain ⟨D, hD⟩ : ∃ D, Hid (depV ta = D) := ⟨_, rfl⟩
  have hCb : C ≤ 2147483647 := by have := hbn.out.2.2.1; rw [hC.out] at this; exact this
  have hDb : D ≤ 2147483647 := by have := hbn.out.2.2.2; rw [hD.out] at this; exact this
  obtain ⟨D1, hD1⟩ : ∃ D1 : Nat, Hid (1 + D = D1) := ⟨_, rfl⟩
  have hD1b : D1 ≤ 2147483648 := by have := hD1.out; omega
  obtain ⟨PP, hPP⟩ : ∃ PP : Nat, Hid (C * D1 = PP) := ⟨_, rfl⟩
  have hPb : PP ≤ 4611686018427387904 := by
   rw [← hPP.out]
   exact Nat.le_trans (Nat.mul_le_mul hCb hD1b) (by decide)
  have eD1 : (1 : Int) + (D : Int) = (D1 : Int) := by have := hD1.out; omega
  have wD1 : IntKind.i64.wrap (D1 : Int) = (D1 : Int) := by rw [IntKind.wrap_i64]; omega
  have ePP : (C : Int) * (D1 : Int) = (PP : Int) := by have := hPP.out; rw [← this]; exact (Int.natCast_mul _ _).symm
  have wPP : IntKind.i64.wrap (PP : Int) = (PP : Int) := by rw [IntKind.wrap_i64]; omega
  have qc := hid (fun u h => cnt_ex _ ta (Nat.le_refl _) (by rw [hC.out]; omega) (.agg #[.int .i64 k1, .bool b1, .string r1, .string t1, .slice ko1 N1 kc1, .slice vo1 M1 vc1]) u h)
  have qp := hid (fun u h => dep_ex _ ta (Nat.le_refl _) (by rw [hD.out]; omega) (.agg #[.int .i64 k1, .bool b1, .string r1, .string t1, .slice ko1 N1 kc1, .slice vo1 M1 vc1]) u h)
  rw [hC.out] at qc
  rw [hD.out] at qp
  have eg : Hid (((1000000 : Int) < (PP : Int)) ↔ 1000000 < PP) := hid (by omega)
  obtain ⟨BG, hBG⟩ : ∃ BG, decide ((1000000 : Int) < (PP : Int)) = BG := ⟨_, rfl⟩
  have hBG2 : decide (1000000 < PP) = BG := by rw [← hBG]; simp only [decide_eq_decide]; omega
  clear hbn hCb hDb hD1b hPb hD1 hPP eg
  go_wp2_with fail
  go_region_with (first | (go_at_call 8; refine qd.out.mono ?_; rintro e w7 ⟨rfl, b7⟩; have B7 := hid (Bd.out.trans (b7.mono Bd.out.size)); have A7 := hid (A6.out.drew.keptAll b7); have e0 : w7.cell? ⟨w.heap.size, 0, none⟩ = some (.int .i64 k1) := A7.out.cell 0; have e1 : w7.cell? ⟨w.heap.size, 1, none⟩ = some (.bool b1) := A7.out.cell 1; have e2 : w7.cell? ⟨w.heap.size, 2, none⟩ = some (.string r1) := A7.out.cell 2; have e3 : w7.cell? ⟨w.heap.size, 3, none⟩ = some (.string t1) := A7.out.cell 3; have e4 : w7.cell? ⟨w.heap.size, 4, none⟩ = some (.slice ko1 N1 kc1) := A7.out.cell 4; have e5 : w7.cell? ⟨w.heap.size, 5, none⟩ = some (.slice vo1 M1 vc1) := A7.out.cell 5; clear b7) | (go_at_call 9; refine (qc.out _ (ha'.out.kept B7.out)).mono ?_; rintro e w8 ⟨rfl, b8⟩; have B8 := hid (B7.out.trans (b8.mono B7.out.size)); have A8 := hid (A7.out.keptAll b8); have g0 : w8.cell? ⟨w.heap.size, 0, none⟩ = some (.int .i64 k1) := A8.out.cell 0; have g1 : w8.cell? ⟨w.heap.size, 1, none⟩ = some (.bool b1) := A8.out.cell 1; have g2 : w8.cell? ⟨w.heap.size, 2, none⟩ = some (.string r1) := A8.out.cell 2; have g3 : w8.cell? ⟨w.heap.size, 3, none⟩ = some (.string t1) := A8.out.cell 3; have g4 : w8.cell? ⟨w.heap.size, 4, none⟩ = some (.slice ko1 N1 kc1) := A8.out.cell 4; have g5 : w8.cell? ⟨w.heap.size, 5, none⟩ = some (.slice vo1 M1 vc1) := A8.out.cell 5; clear b8) | (go_at_call 10; refine (qp.out _ (ha'.out.kept B8.out)).mono ?_; rintro e w9 ⟨rfl, b9⟩; have B9 := hid (B8.out.trans (b9.mono B8.out.size)); have A9 := hid (A8.out.keptAll b9); clear b9) | fail)
  all_goals
   clear d0 d1 d2 d3 d4 d5 e0 e1 e2 e3 e4 e5 g0 g1 g2 g3 g4 g5 qd qc qp A6 A7 A8 B6 B7 B8 Bd
   cases BG with
   | true =>
    go_wp2
    go_ret
    exact ⟨rfl, B9.out⟩
   | false =>
    have cpE := hid (fun u h => copyV_ex _ ta (Nat.le_refl _) hln.out (.agg #[.int .i64 k1, .bool b1, .string r1, .string t1, .slice ko1 N1 kc1, .slice vo1 M1 vc1]) u h)
    have cpT := hid (fun u h => copyV_top _ ta (Nat.le_refl _) hln.out (.agg #[.int .i64 k1, .bool b1, .string r1, .string t1, .slice ko1 N1 kc1, .slice vo1 M1 vc1]) u h)
    have hszV := hid (byd_bnd hP0.out).1
    clear eD1 wD1 ePP wPP hBG hBG2
    go_wp2_with (first | refine wpList_load_want 25 _ w.heap.size 0 [.int .i64 k1, .bool b1, .string r1, .string t1, .slice ko1 N1 kc1, .slice vo1 M1 vc1] _ (A9.out.range rfl) Tryz.underlying25 sizeVl rfl rfl rfl (by rfl) ?_ | fail)
    refine Calls.mono (cpE.out _ (ha'.out.kept B9.out)) ?_
    rintro e W10 ⟨x1, rfl, vx1, bq⟩
    obtain ⟨k4, b4, r4, t4, ko4, N4, kc4, vo4, M4, vc4, rfl⟩ := vx1.at.lets
    have A10 := hid (A9.out.keptAll bq)
    have B10 := hid (B9.out.trans (bq.mono B9.out.size))
    have S10 := hid vx1.at
    clear bq vx1 A9 B9 cpE
    by_cases hwf : wfV ta 1024 = true
    ·have hokp := hid (okP_of ta 1024 hwf hbk.out hln.out)
     have hbnd := hid (fun (x : List UInt8 × Vt) (hx : x ∈ prV [] ta) => (show x.1.length ≤ 1099511627776 by have h1 := prV_bound ta [] x hln.out hx; have h2 := hbk.out; simp only [List.length_nil] at h1; omega))
     obtain ⟨NN, hNN⟩ : ∃ NN, Hid ((prV [] ta).length = NN) := ⟨_, rfl⟩
     have hNNs : NN ≤ 1099511627776 := by rw [← hNN.out, prV_len]; have := cnt_blk ta; have := hbk.out; omega
     have rwT := hid (refWalkF_calls ta hszV.out hln.out hbk.out k4 b4 r4 t4 ko4 N4 kc4 vo4 M4 vc4 W10 (hid (hP'.out.kept B10.out)) S10 hwf)
     rw [hNN.out] at rwT
     go_wp2_with fail
     refine Calls.mono rwT.out ?_
     rintro e W11 ⟨ao1, ca1, lo1, cl1, rfl, hpv1, bq⟩
     have A11 := hid (A10.out.keptAll bq)
     have B11 := hid (B10.out.trans (bq.mono B10.out.size))
     have P11 := hid hpv1
     clear bq hpv1 A10 B10 S10 rwT
     go_wp2_with (first | refine wpList_load_want 25 _ w.heap.size 0 [.int .i64 k1, .bool b1, .string r1, .string t1, .slice ko1 N1 kc1, .slice vo1 M1 vc1] _ (A11.out.range rfl) Tryz.underlying25 sizeVl rfl rfl rfl (by rfl) ?_ | fail)
     refine Calls.mono (cpT.out _ (ha'.out.kept B11.out)) ?_
     rintro e W12 ⟨x2, rfl, vx2, bq, tx2⟩
     obtain ⟨k5, b5, r5, t5, ko5, N5, kc5, vo5, M5, vc5, rfl⟩ := vx2.at.lets
     have T12 := hid (topX_of vx2.at tx2 (Nat.le_refl _))
     have al := hid (show Below W12.heap.size W12 (W12.alloc (.cells #[.int .i64 k5, .bool b5, .string r5, .string t5, .slice ko5 N5 kc5, .slice vo5 M5 vc5] 25)) from (Below.refl _ _).alloc (Nat.le_refl _) _)
     have L13 := hid (show Below W11.heap.size W11 (W12.alloc (.cells #[.int .i64 k5, .bool b5, .string r5, .string t5, .slice ko5 N5 kc5, .slice vo5 M5 vc5] 25)) from bq.trans (al.out.mono bq.size))
     have B13 := hid (B11.out.trans (L13.out.mono B11.out.size))
     have X13 := hid (At.new W12 #[.int .i64 k5, .bool b5, .string r5, .string t5, .slice ko5 N5 kc5, .slice vo5 M5 vc5] 25)
     have S13 := hid (vx2.at.kept al.out)
     have T13 := hid (T12.out.kept (fun R cs t hA => hA.keptAll al.out))
     have s13 : Hid ((W12.alloc (.cells #[.int .i64 k5, .bool b5, .string r5, .string t5, .slice ko5 N5 kc5, .slice vo5 M5 vc5] 25)).heap.size = W12.heap.size + 1) := World.size_alloc _ _
     have hzn : N5 ≤ 140737488355328 ∧ M5 ≤ 140737488355328 := by
      cases vx2.at with
      | mk k b r t ks vs ko kc vo vc X hw hz hk hr hv => exact ⟨by have := hz.2.2.1; unfold capT at this; omega, by have := hz.2.2.2; unfold capT at this; omega⟩
     have hN5 : (N5 : Int) ≤ 9223372036854775807 := by omega
     have hM5 : (M5 : Int) ≤ 9223372036854775807 := by omega
     have hlo := hid bq.size
     generalize hW13 : W12.alloc (.cells #[.int .i64 k5, .bool b5, .string r5, .string t5, .slice ko5 N5 kc5, .slice vo5 M5 vc5] 25) = W13 at al L13 B13 X13 S13 T13 s13
     obtain ⟨bm, hbm⟩ : ∃ bm, W12.heap.size = bm := ⟨_, rfl⟩
     have hbm' := hid hbm
     rw [hbm] at X13 T13
     clear bq vx2 tx2 T12 al A11 cpT
     have wkT := hid (walkF_calls ta (hid hwf) hln.out k5 b5 r5 t5 ko5 N5 kc5 vo5 M5 vc5 W13 (hid (hT'.out.below B13.out)) S13)
     go_wp2_with (first | refine wpList_load_want 25 _ bm 0 [.int .i64 k5, .bool b5, .string r5, .string t5, .slice ko5 N5 kc5, .slice vo5 M5 vc5] _ (X13.out.range rfl) Tryz.underlying25 sizeVl rfl rfl rfl (by rfl) ?_ | fail)
     refine Calls.mono wkT.out ?_
     rintro e W14 ⟨Bk1, ck1, rfl, hBk1, hAK1, hVK1, bq⟩
     have K14 := hid hAK1
     have V14 := hid hVK1
     have hBk' := hid hBk1
     have L14 := hid (show Below W11.heap.size W11 W14 from L13.out.trans (bq.mono L13.out.size))
     have X14 := hid (X13.out.keptAll bq)
     have T14 := hid (T13.out.kept (fun R cs t hA => hA.keptAll bq))
     have hlm := hid (show bm < W13.heap.size by have := s13.out; omega)
     clear bq X13 T13 L13 S13 hW13 wkT B13 hlo
     go_wp2
     go_loopw [10] (fun ii wr => ∃ (i : Nat), i ≤ M5 ∧ ii = .int .i64 (i : Int) ∧ Hid (At wr bm #[.int .i64 k5, .bool b5, .string r5, .string t5, .slice ko5 N5 kc5, .slice vo5 M5 vc5] 25) ∧ Hid (TopX W11.heap.size bm wr ko5 N5 vo5 M5) ∧ Hid (Below W11.heap.size W11 wr) ∧ Hid (SameOn (fun b => W13.heap.size ≤ b) W14 wr)) (fun ii _ => M5 - (intOf ii).toNat)
     case atStart => exact ⟨0, Nat.zero_le _, rfl, X14, T14, L14, hid ⟨Nat.le_refl _, fun _ _ _ => rfl⟩⟩
     case round =>
      obtain ⟨i, hi, rfl, X15, T15, L15, F15⟩ := hrel
      clear X14 T14 L14
      have c5 : wr.cell? ⟨bm, 5, none⟩ = some (.slice vo5 M5 vc5) := X15.out.cell 5
      have c4 : wr.cell? ⟨bm, 4, none⟩ = some (.slice ko5 N5 kc5) := X15.out.cell 4
      by_cases him : i < M5
      ·have himi : (i : Int) < (M5 : Int) := by omega
       obtain ⟨R, rs, rfl, hcR, hRq, hns, hAR⟩ : ∃ R rs, vo5 = some ⟨R, 0, none⟩ ∧ W11.heap.size ≤ R ∧ R < bm ∧ M5 * 6 ≤ rs.size ∧ At wr R rs 25 := by
        rcases T15.out.2 with h | h
        ·omega
        ·exact h
       have hth : Hid (wr.there R (i * 6) 6) := hid (fun j hj => ⟨by rw [hAR.cell, Array.getElem?_eq_getElem (by omega)]; rfl, hAR.frozen _⟩)
       have X16 := hid (X15.out.setCells_other (b' := R) (by omega) [.int .i64 1, .bool false, .string ⟨#[]⟩, .string ⟨#[]⟩, .slice none 0 0, .slice none 0 0] (i * 6))
       have T16 := hid (T15.out.kid him [.int .i64 1, .bool false, .string ⟨#[]⟩, .string ⟨#[]⟩, .slice none 0 0, .slice none 0 0] rfl)
       have L16 := hid (below_setCells L15.out (b := R) (by omega) [.int .i64 1, .bool false, .string ⟨#[]⟩, .string ⟨#[]⟩, .slice none 0 0, .slice none 0 0] (i * 6))
       have F16 := hid (same_cellsX F15.out (b := R) (by have := hlm.out; omega) [.int .i64 1, .bool false, .string ⟨#[]⟩, .string ⟨#[]⟩, .slice none 0 0, .slice none 0 0] (i * 6))
       generalize hW16 : wr.setCells R (i * 6) [.int .i64 1, .bool false, .string ⟨#[]⟩, .string ⟨#[]⟩, .slice none 0 0, .slice none 0 0] = W16 at X16 T16 L16 F16
       clear X15 T15 L15 F15 hAR c4
       go_wp2_with (first | (refine wpList_store_want 25 _ _ R (i * 6) (List.toArray [.int .i64 1, .bool false, .string ⟨#[]⟩, .string ⟨#[]⟩, .slice none 0 0, .slice none 0 0]) hth.out sizeVl (by simp [Value.oneCell']) rfl rfl (by rfl) (by rfl) ?_; rw [List.toList_toArray, hW16]; simp only [Act.put]) | fail)
       go_roundw
       case rel => exact ⟨i + 1, by omega, by simp, X16, T16, L16, F16⟩
       case measure => simp [intOf]; omega
      ·obtain rfl : M5 = i := by omega
       clear hi him
       go_wp2
       go_loopw [11] (fun ii wr => ∃ (i : Nat), i ≤ N5 ∧ ii = .int .i64 (i : Int) ∧ Hid (At wr bm #[.int .i64 k5, .bool b5, .string r5, .string t5, .slice ko5 N5 kc5, .slice vo5 M5 vc5] 25) ∧ Hid (TopX W11.heap.size bm wr ko5 N5 vo5 M5) ∧ Hid (Below W11.heap.size W11 wr) ∧ Hid (SameOn (fun b => W13.heap.size ≤ b) W14 wr)) (fun ii _ => N5 - (intOf ii).toNat)
       case atStart => exact ⟨0, Nat.zero_le _, rfl, X15, T15, L15, F15⟩
       case round =>
        obtain ⟨i, hi, rfl, X17, T17, L17, F17⟩ := hrel
        clear X15 T15 L15 F15 c4 c5
        have c4 : wr.cell? ⟨bm, 4, none⟩ = some (.slice ko5 N5 kc5) := X17.out.cell 4
        by_cases hin : i < N5
        ·have hini : (i : Int) < (N5 : Int) := by omega
         obtain ⟨R, rs, rfl, hcR, hRq, hns, hAR⟩ : ∃ R rs, ko5 = some ⟨R, 0, none⟩ ∧ W11.heap.size ≤ R ∧ R < bm ∧ N5 ≤ rs.size ∧ At wr R rs 9 := by
          rcases T17.out.1 with h | h
          ·omega
          ·exact h
         have kc0 : wr.cell? ⟨R, i, none⟩ = some rs[i] := by rw [hAR.cell]; exact Array.getElem?_eq_getElem (by omega)
         have kf : wr.frozen? ⟨R, i, none⟩ = false := hAR.frozen i
         have X18 := hid (X17.out.other (p := ⟨R, i, none⟩) (by show bm ≠ R; omega) (.string ⟨#[110, 111, 119]⟩))
         have T18 := hid (T17.out.key (by omega) i (.string ⟨#[110, 111, 119]⟩))
         have L18 := hid (L17.out.setCell (p := ⟨R, i, none⟩) (by show W11.heap.size ≤ R; omega) (.string ⟨#[110, 111, 119]⟩))
         have F18 := hid (same_cellX F17.out (b := R) (by have := hlm.out; omega) i (.string ⟨#[110, 111, 119]⟩))
         clear X17 T17 L17 F17 hAR
         go_wp2
         go_roundw
         case rel => exact ⟨i + 1, by omega, by simp, X18, T18, L18, F18⟩
         case measure => simp [intOf]; omega
        ·obtain rfl : N5 = i := by omega
         have L20 := L17
         have F20 := F17
         obtain ⟨wz, hwz⟩ : ∃ wz, wz = wr := ⟨_, rfl⟩
         rw [← hwz] at L20 F20
         clear hi hin X17 T17 L17 F17
         have B20 := hid (show Below w.heap.size w wz from B11.out.trans (L20.out.mono B11.out.size))
         have K20 := hid (show At wz Bk1 ck1 25 from (F20.out.2 Bk1 hBk'.out K14.out.lt).trans K14.out)
         have V20 := hid (V14.out.kept (S' := fun b => W13.heap.size ≤ b) (fun _ _ h => h) F20.out)
         have td1 := hid (told17_walk ta hln.out hokp.out hbnd.out Bk1 ck1 ao1 lo1 NN ca1 cl1 hNN hNNs 1 (by decide) left hlw wz (hP'.out.kept B20.out) (hM'.out.kept B20.out) K20.out (valAt_on V20.out.at) (P11.out.kept L20.out))
         have td2 := hid (fun u (hb : Below wz.heap.size wz u) => told17_walk ta hln.out hokp.out hbnd.out Bk1 ck1 ao1 lo1 NN ca1 cl1 hNN hNNs 0 (by decide) 0 (by decide) u (hP'.out.kept (B20.out.trans (hb.mono B20.out.size))) (hM'.out.kept (B20.out.trans (hb.mono B20.out.size))) (K20.out.keptAll hb) (valAt_on (V20.out.at.kept hb)) ((P11.out.kept L20.out).kept hb))
         have td3 := hid (fun u (hb : Below wz.heap.size wz u) => told17_walk ta hln.out hokp.out hbnd.out Bk1 ck1 ao1 lo1 NN ca1 cl1 hNN hNNs 2 (by decide) 3 (by decide) u (hP'.out.kept (B20.out.trans (hb.mono B20.out.size))) (hM'.out.kept (B20.out.trans (hb.mono B20.out.size))) (K20.out.keptAll hb) (valAt_on (V20.out.at.kept hb)) ((P11.out.kept L20.out).kept hb))
         go_wp2_with fail
         rw [← hwz]
         refine Calls.mono td1.out ?_
         rintro e W21 ⟨rfl, b21⟩
         have B21 := hid (B20.out.trans (b21.mono B20.out.size))
         have t21 := hid b21
         clear b21 td1
         go_wp2_with fail
         refine Calls.mono (td2.out _ t21.out) ?_
         rintro e W22 ⟨rfl, b22⟩
         have B22 := hid (B21.out.trans (b22.mono B21.out.size))
         have t22 := hid (t21.out.trans (b22.mono t21.out.size))
         clear b22 td2
         go_wp2_with fail
         refine Calls.mono (td3.out _ t22.out) ?_
         rintro e W23 ⟨rfl, b23⟩
         have B23 := hid (B22.out.trans (b23.mono B22.out.size))
         clear b23 td3
         go_wp2
         go_ret
         exact ⟨rfl, B23.out⟩
    ·have hwf' : wfV ta 1024 = false := by simpa using hwf
     have rwT := hid (refWalkF_no ta hszV.out k4 b4 r4 t4 ko4 N4 kc4 vo4 M4 vc4 W10 S10 hwf')
     go_wp2_with fail
     refine Calls.mono rwT.out ?_
     rintro e W11 ⟨rfl, bq⟩
     have A11 := hid (A10.out.keptAll bq)
     have B11 := hid (B10.out.trans (bq.mono B10.out.size))
     clear bq A10 B10 S10 rwT
     go_wp2_with (first | refine wpList_load_want 25 _ w.heap.size 0 [.int .i64 k1, .bool b1, .string r1, .string t1, .slice ko1 N1 kc1, .slice vo1 M1 vc1] _ (A11.out.range rfl) Tryz.underlying25 sizeVl rfl rfl rfl (by rfl) ?_ | fail)
     refine Calls.mono (cpT.out _ (ha'.out.kept B11.out)) ?_
     rintro e W12 ⟨x2, rfl, vx2, bq, tx2⟩
     obtain ⟨k5, b5, r5, t5, ko5, N5, kc5, vo5, M5, vc5, rfl⟩ := vx2.at.lets
     have T12 := hid (topX_of vx2.at tx2 (Nat.le_refl _))
     have al := hid (show Below W12.heap.size W12 (W12.alloc (.cells #[.int .i64 k5, .bool b5, .string r5, .string t5, .slice ko5 N5 kc5, .slice vo5 M5 vc5] 25)) from (Below.refl _ _).alloc (Nat.le_refl _) _)
     have L13 := hid (show Below W11.heap.size W11 (W12.alloc (.cells #[.int .i64 k5, .bool b5, .string r5, .string t5, .slice ko5 N5 kc5, .slice vo5 M5 vc5] 25)) from bq.trans (al.out.mono bq.size))
     have B13 := hid (B11.out.trans (L13.out.mono B11.out.size))
     have X13 := hid (At.new W12 #[.int .i64 k5, .bool b5, .string r5, .string t5, .slice ko5 N5 kc5, .slice vo5 M5 vc5] 25)
     have S13 := hid (vx2.at.kept al.out)
     have T13 := hid (T12.out.kept (fun R cs t hA => hA.keptAll al.out))
     have s13 : Hid ((W12.alloc (.cells #[.int .i64 k5, .bool b5, .string r5, .string t5, .slice ko5 N5 kc5, .slice vo5 M5 vc5] 25)).heap.size = W12.heap.size + 1) := World.size_alloc _ _
     have hzn : N5 ≤ 140737488355328 ∧ M5 ≤ 140737488355328 := by
      cases vx2.at with
      | mk k b r t ks vs ko kc vo vc X hw hz hk hr hv => exact ⟨by have := hz.2.2.1; unfold capT at this; omega, by have := hz.2.2.2; unfold capT at this; omega⟩
     have hN5 : (N5 : Int) ≤ 9223372036854775807 := by omega
     have hM5 : (M5 : Int) ≤ 9223372036854775807 := by omega
     have hlo := hid bq.size
     generalize hW13 : W12.alloc (.cells #[.int .i64 k5, .bool b5, .string r5, .string t5, .slice ko5 N5 kc5, .slice vo5 M5 vc5] 25) = W13 at al L13 B13 X13 S13 T13 s13
     obtain ⟨bm, hbm⟩ : ∃ bm, W12.heap.size = bm := ⟨_, rfl⟩
     have hbm' := hid hbm
     rw [hbm] at X13 T13
     clear bq vx2 tx2 T12 al A11 cpT
     have wkT := hid (walkF_no ta (hid hwf') k5 b5 r5 t5 ko5 N5 kc5 vo5 M5 vc5 W13 (hid (hT'.out.below B13.out)) S13)
     go_wp2_with (first | refine wpList_load_want 25 _ bm 0 [.int .i64 k5, .bool b5, .string r5, .string t5, .slice ko5 N5 kc5, .slice vo5 M5 vc5] _ (X13.out.range rfl) Tryz.underlying25 sizeVl rfl rfl rfl (by rfl) ?_ | fail)
     refine Calls.mono wkT.out ?_
     rintro e W14 ⟨rfl, bq⟩
     have L14 := hid (show Below W11.heap.size W11 W14 from L13.out.trans (bq.mono L13.out.size))
     have X14 := hid (X13.out.keptAll bq)
     have T14 := hid (T13.out.kept (fun R cs t hA => hA.keptAll bq))
     have hlm := hid (show bm < W13.heap.size by have := s13.out; omega)
     clear bq X13 T13 L13 S13 hW13 wkT B13 hlo
     go_wp2
     go_loopw [10] (fun ii wr => ∃ (i : Nat), i ≤ M5 ∧ ii = .int .i64 (i : Int) ∧ Hid (At wr bm #[.int .i64 k5, .bool b5, .string r5, .string t5, .slice ko5 N5 kc5, .slice vo5 M5 vc5] 25) ∧ Hid (TopX W11.heap.size bm wr ko5 N5 vo5 M5) ∧ Hid (Below W11.heap.size W11 wr) ∧ Hid (SameOn (fun b => W13.heap.size ≤ b) W14 wr)) (fun ii _ => M5 - (intOf ii).toNat)
     case atStart => exact ⟨0, Nat.zero_le _, rfl, X14, T14, L14, hid ⟨Nat.le_refl _, fun _ _ _ => rfl⟩⟩
     case round =>
      obtain ⟨i, hi, rfl, X15, T15, L15, F15⟩ := hrel
      clear X14 T14 L14
      have c5 : wr.cell? ⟨bm, 5, none⟩ = some (.slice vo5 M5 vc5) := X15.out.cell 5
      have c4 : wr.cell? ⟨bm, 4, none⟩ = some (.slice ko5 N5 kc5) := X15.out.cell 4
      by_cases him : i < M5
      ·have himi : (i : Int) < (M5 : Int) := by omega
       obtain ⟨R, rs, rfl, hcR, hRq, hns, hAR⟩ : ∃ R rs, vo5 = some ⟨R, 0, none⟩ ∧ W11.heap.size ≤ R ∧ R < bm ∧ M5 * 6 ≤ rs.size ∧ At wr R rs 25 := by
        rcases T15.out.2 with h | h
        ·omega
        ·exact h
       have hth : Hid (wr.there R (i * 6) 6) := hid (fun j hj => ⟨by rw [hAR.cell, Array.getElem?_eq_getElem (by omega)]; rfl, hAR.frozen _⟩)
       have X16 := hid (X15.out.setCells_other (b' := R) (by omega) [.int .i64 1, .bool false, .string ⟨#[]⟩, .string ⟨#[]⟩, .slice none 0 0, .slice none 0 0] (i * 6))
       have T16 := hid (T15.out.kid him [.int .i64 1, .bool false, .string ⟨#[]⟩, .string ⟨#[]⟩, .slice none 0 0, .slice none 0 0] rfl)
       have L16 := hid (below_setCells L15.out (b := R) (by omega) [.int .i64 1, .bool false, .string ⟨#[]⟩, .string ⟨#[]⟩, .slice none 0 0, .slice none 0 0] (i * 6))
       have F16 := hid (same_cellsX F15.out (b := R) (by have := hlm.out; omega) [.int .i64 1, .bool false, .string ⟨#[]⟩, .string ⟨#[]⟩, .slice none 0 0, .slice none 0 0] (i * 6))
       generalize hW16 : wr.setCells R (i * 6) [.int .i64 1, .bool false, .string ⟨#[]⟩, .string ⟨#[]⟩, .slice none 0 0, .slice none 0 0] = W16 at X16 T16 L16 F16
       clear X15 T15 L15 F15 hAR c4
       go_wp2_with (first | (refine wpList_store_want 25 _ _ R (i * 6) (List.toArray [.int .i64 1, .bool false, .string ⟨#[]⟩, .string ⟨#[]⟩, .slice none 0 0, .slice none 0 0]) hth.out sizeVl (by simp [Value.oneCell']) rfl rfl (by rfl) (by rfl) ?_; rw [List.toList_toArray, hW16]; simp only [Act.put]) | fail)
       go_roundw
       case rel => exact ⟨i + 1, by omega, by simp, X16, T16, L16, F16⟩
       case measure => simp [intOf]; omega
      ·obtain rfl : M5 = i := by omega
       clear hi him
       go_wp2
       go_loopw [11] (fun ii wr => ∃ (i : Nat), i ≤ N5 ∧ ii = .int .i64 (i : Int) ∧ Hid (At wr bm #[.int .i64 k5, .bool b5, .string r5, .string t5, .slice ko5 N5 kc5, .slice vo5 M5 vc5] 25) ∧ Hid (TopX W11.heap.size bm wr ko5 N5 vo5 M5) ∧ Hid (Below W11.heap.size W11 wr) ∧ Hid (SameOn (fun b => W13.heap.size ≤ b) W14 wr)) (fun ii _ => N5 - (intOf ii).toNat)
       case atStart => exact ⟨0, Nat.zero_le _, rfl, X15, T15, L15, F15⟩
       case round =>
        obtain ⟨i, hi, rfl, X17, T17, L17, F17⟩ := hrel
        clear X15 T15 L15 F15 c4 c5
        have c4 : wr.cell? ⟨bm, 4, none⟩ = some (.slice ko5 N5 kc5) := X17.out.cell 4
        by_cases hin : i < N5
        ·have hini : (i : Int) < (N5 : Int) := by omega
         obtain ⟨R, rs, rfl, hcR, hRq, hns, hAR⟩ : ∃ R rs, ko5 = some ⟨R, 0, none⟩ ∧ W11.heap.size ≤ R ∧ R < bm ∧ N5 ≤ rs.size ∧ At wr R rs 9 := by
          rcases T17.out.1 with h | h
          ·omega
          ·exact h
         have kc0 : wr.cell? ⟨R, i, none⟩ = some rs[i] := by rw [hAR.cell]; exact Array.getElem?_eq_getElem (by omega)
         have kf : wr.frozen? ⟨R, i, none⟩ = false := hAR.frozen i
         have X18 := hid (X17.out.other (p := ⟨R, i, none⟩) (by show bm ≠ R; omega) (.string ⟨#[110, 111, 119]⟩))
         have T18 := hid (T17.out.key (by omega) i (.string ⟨#[110, 111, 119]⟩))
         have L18 := hid (L17.out.setCell (p := ⟨R, i, none⟩) (by show W11.heap.size ≤ R; omega) (.string ⟨#[110, 111, 119]⟩))
         have F18 := hid (same_cellX F17.out (b := R) (by have := hlm.out; omega) i (.string ⟨#[110, 111, 119]⟩))
         clear X17 T17 L17 F17 hAR
         go_wp2
         go_roundw
         case rel => exact ⟨i + 1, by omega, by simp, X18, T18, L18, F18⟩
         case measure => simp [intOf]; omega
        ·obtain rfl : N5 = i := by omega
         have L20 := L17
         have F20 := F17
         obtain ⟨wz, hwz⟩ : ∃ wz, wz = wr := ⟨_, rfl⟩
         rw [← hwz] at L20 F20
         clear hi hin X17 T17 L17 F17
         have B20 := hid (show Below w.heap.size w wz from B11.out.trans (L20.out.mono B11.out.size))
         have td1 := hid (told17_none none none 0 0 1 (by decide) left hlw wz (hP'.out.kept B20.out) (hM'.out.kept B20.out))
         have td2 := hid (fun u (hb : Below wz.heap.size wz u) => told17_none none none 0 0 0 (by decide) 0 (by decide) u (hP'.out.kept (B20.out.trans (hb.mono B20.out.size))) (hM'.out.kept (B20.out.trans (hb.mono B20.out.size))))
         have td3 := hid (fun u (hb : Below wz.heap.size wz u) => told17_none none none 0 0 2 (by decide) 3 (by decide) u (hP'.out.kept (B20.out.trans (hb.mono B20.out.size))) (hM'.out.kept (B20.out.trans (hb.mono B20.out.size))))
         go_wp2_with fail
         rw [← hwz]
         refine Calls.mono td1.out ?_
         rintro e W21 ⟨rfl, b21⟩
         have B21 := hid (B20.out.trans (b21.mono B20.out.size))
         have t21 := hid b21
         clear b21 td1
         go_wp2_with fail
         refine Calls.mono (td2.out _ t21.out) ?_
         rintro e W22 ⟨rfl, b22⟩
         have B22 := hid (B21.out.trans (b22.mono B21.out.size))
         have t22 := hid (t21.out.trans (b22.mono t21.out.size))
         clear b22 td2
         go_wp2_with fail
         refine Calls.mono (td3.out _ t22.out) ?_
         rintro e W23 ⟨rfl, b23⟩
         have B23 := hid (B22.out.trans (b23.mono B22.out.size))
         clear b23 td3
         go_wp2
         go_ret
         exact ⟨rfl, B23.out⟩
end Go.Proofs.YtlmjiocdhobopaaGreatDoor
