/-
  The walk of quarrylaw04.BitmapTurns.
-/
import Derived.Test.YtmbkcnhkbpaagaaDoorLawKit
import Derived.Test.YtmbkcnhkbpaagaaDoorRefTurns
namespace Go.Proofs.YtmbkcnhkbpaagaaDoor
open Go.RowKit Go.Shelf

set_option maxRecDepth 10000 in
set_option maxHeartbeats 4000000 in
theorem bitmapTurns_walk (n : Int) (ao : Option Addr) (k cap : Nat) (X : Nat → Nat) (hn : (Lit.int .i64 n).wf = true) (hk : k ≤ 1048576) (w : World) (hT : Tab w) (h0 : 0 < w.heap.size) (hW : Wds w ao k X) :
    Calls Tryd.prog 4 #[bv n ao k cap] w fun e w' => e = .returned (.bool true) ∧ Below w.heap.size w w' := by
  obtain ⟨E, q, r, hE⟩ := turnE_ex n k X
  obtain ⟨hq, hr⟩ := turnE_wf hE hn
  have hE' := hid hE
  have eE : (E != E) = false := by simp
  have eE2 : (E == E) = true := by simp
  have hX := hid (fun j hj => (hW j hj).1)
  have hW' := hid hW
  have hT' := hid hT
  have hq' := hid hq
  have hn' := hid hn
  clear hE hW hT hq hn
  have hB0 : Below w.heap.size w (w.alloc (.cells #[.int .i64 n, .slice ao k cap] 24)) := (Below.refl _ _).alloc (Nat.le_refl _) _
  have K0_a := hid (At.new w #[.int .i64 n, .slice ao k cap] 24)
  go_enter Tryd.func4, Tryd.ntmps4
  go_wp2_with fail
  have s1_a := hid (K0_a.out).lt
  refine Calls.mono (lentB_calls n ao k cap X (by omega) _ (hW'.out.kept hB0)) ?_
  rintro e w1 ⟨g, c, rfl, hg, hL, hb⟩
  have K1_a := hid (At.keptAll (K0_a.out) hb)
  have hB1 : Below w.heap.size w w1 := Below.trans hB0 (Below.mono hb hB0.size)
  clear K0_a hb hB0
  have K1_lx := hid hL
  clear hL
  clear hg
  have ne_a_x := (K1_a.out).lt
  have ne_lx_x := LentW.lt (K1_lx.out)
  have al : Below w1.heap.size w1 (w1.alloc (.cells #[.int .i64 n, .slice (some ⟨g, 0, none⟩) k c] 24)) := (Below.refl _ _).alloc (Nat.le_refl _) _
  have K2_a := hid (At.alloc (K1_a.out) (.cells #[.int .i64 n, .slice (some ⟨g, 0, none⟩) k c] 24))
  have K2_lx := hid (LentW.kept (K1_lx.out) al)
  have K2_x := hid (At.new w1 #[.int .i64 n, .slice (some ⟨g, 0, none⟩) k c] 24)
  have hB2 := Below.alloc hB1 hB1.size (.cells #[.int .i64 n, .slice (some ⟨g, 0, none⟩) k c] 24)
  clear al K1_a K1_lx hB1
  obtain ⟨c0_x, c1_x, f0_x, f1_x⟩ := (K2_x.out).facts
  go_wp2_with fail
  have s3_a := hid (K2_a.out).lt
  have s3_x := hid (K2_x.out).lt
  refine Calls.mono (not_calls n (some ⟨g, 0, none⟩) k c X E q r hn'.out (by omega) hE' _ (LentB.wds (K2_lx.out) hX.out)) ?_
  rintro e w3 ⟨hb, so1, hown, rfl⟩
  clear c0_x c1_x f0_x f1_x
  have K3_a := hid (At.keptAll (K2_a.out) hb)
  have K3_lx := hid (LentW.kept (K2_lx.out) hb)
  have K3_x := hid (At.keptAll (K2_x.out) hb)
  have hB3 : Below w.heap.size w w3 := Below.trans hB2 (Below.mono hb hB2.size)
  clear K2_a K2_lx K2_x hb hB2
  have K3_rc := hid hown
  clear hown
  have ne_a_c := (K3_a.out).lt
  have ne_lx_c := LentW.lt (K3_lx.out)
  have ne_x_c := (K3_x.out).lt
  have al : Below w3.heap.size w3 (w3.alloc (.cells #[.int .i64 q, .slice so1 r r] 24)) := (Below.refl _ _).alloc (Nat.le_refl _) _
  have K4_a := hid (At.alloc (K3_a.out) (.cells #[.int .i64 q, .slice so1 r r] 24))
  have K4_lx := hid (LentW.kept (K3_lx.out) al)
  have K4_x := hid (At.alloc (K3_x.out) (.cells #[.int .i64 q, .slice so1 r r] 24))
  have K4_rc := hid ((K3_rc.out).kept al)
  have K4_c := hid (At.new w3 #[.int .i64 q, .slice so1 r r] 24)
  have hB4 := Below.alloc hB3 hB3.size (.cells #[.int .i64 q, .slice so1 r r] 24)
  clear al K3_a K3_lx K3_x K3_rc hB3
  obtain ⟨c0_a, c1_a, f0_a, f1_a⟩ := (K4_a.out).facts
  go_wp2_with fail
  have s5_a := hid (K4_a.out).lt
  have s5_x := hid (K4_x.out).lt
  have s5_c := hid (K4_c.out).lt
  refine Calls.mono (refNot_calls n ao k cap X E q r hn'.out hk hE' _ (hW'.out.kept hB4)) ?_
  rintro e w5 ⟨hb, so1r, so1c, hwd, rfl⟩
  clear c0_a c1_a f0_a f1_a
  have K5_a := hid (At.keptAll (K4_a.out) hb)
  have K5_lx := hid (LentW.kept (K4_lx.out) hb)
  have K5_x := hid (At.keptAll (K4_x.out) hb)
  have K5_rc := hid ((K4_rc.out).kept hb)
  have K5_c := hid (At.keptAll (K4_c.out) hb)
  have hB5 : Below w.heap.size w w5 := Below.trans hB4 (Below.mono hb hB4.size)
  clear K4_a K4_lx K4_x K4_rc K4_c hb hB4
  have K5_rw := hid hwd
  clear hwd
  have ne_a_want := (K5_a.out).lt
  have ne_lx_want := LentW.lt (K5_lx.out)
  have ne_x_want := (K5_x.out).lt
  have ne_c_want := (K5_c.out).lt
  have al : Below w5.heap.size w5 (w5.alloc (.cells #[.int .i64 q, .slice so1r r so1c] 24)) := (Below.refl _ _).alloc (Nat.le_refl _) _
  have K6_a := hid (At.alloc (K5_a.out) (.cells #[.int .i64 q, .slice so1r r so1c] 24))
  have K6_lx := hid (LentW.kept (K5_lx.out) al)
  have K6_x := hid (At.alloc (K5_x.out) (.cells #[.int .i64 q, .slice so1r r so1c] 24))
  have K6_rc := hid ((K5_rc.out).kept al)
  have K6_c := hid (At.alloc (K5_c.out) (.cells #[.int .i64 q, .slice so1r r so1c] 24))
  have K6_rw := hid ((K5_rw.out).kept al)
  have K6_want := hid (At.new w5 #[.int .i64 q, .slice so1r r so1c] 24)
  have hB6 := Below.alloc hB5 hB5.size (.cells #[.int .i64 q, .slice so1r r so1c] 24)
  clear al K5_a K5_lx K5_x K5_rc K5_c K5_rw hB5
  obtain ⟨c0_c, c1_c, f0_c, f1_c⟩ := (K6_c.out).facts
  obtain ⟨c0_want, c1_want, f0_want, f1_want⟩ := (K6_want.out).facts
  go_wp2_with fail
  have s7_a := hid (K6_a.out).lt
  have s7_x := hid (K6_x.out).lt
  have s7_c := hid (K6_c.out).lt
  have s7_want := hid (K6_want.out).lt
  refine Calls.mono (same_true q so1 so1r r r so1c (rowOf (fun i => !bitAt X i) n.toNat) hq'.out (by omega) _ ((K6_rc.out).wds (fun j _ => rowOf_lt _ _ _)) (K6_rw.out).wds) ?_
  rintro e w7 ⟨rfl, hb⟩
  clear c0_c c1_c f0_c f1_c c0_want c1_want f0_want f1_want
  have K7_a := hid (At.keptAll (K6_a.out) hb)
  have K7_lx := hid (LentW.kept (K6_lx.out) hb)
  have K7_x := hid (At.keptAll (K6_x.out) hb)
  have K7_c := hid (At.keptAll (K6_c.out) hb)
  have K7_want := hid (At.keptAll (K6_want.out) hb)
  have hB7 : Below w.heap.size w w7 := Below.trans hB6 (Below.mono hb hB6.size)
  clear K6_a K6_lx K6_x K6_rc K6_c K6_rw K6_want hb hB6
  obtain ⟨c0_x, c1_x, f0_x, f1_x⟩ := (K7_x.out).facts
  go_wp2_with fail
  have s8_a := hid (K7_a.out).lt
  have s8_x := hid (K7_x.out).lt
  have s8_c := hid (K7_c.out).lt
  have s8_want := hid (K7_want.out).lt
  refine Calls.mono (prefixB_calls n (some ⟨g, 0, none⟩) k c X E q r hn'.out (by omega) hE' _ (LentB.wds (K7_lx.out) hX.out)) ?_
  rintro e w8 ⟨hb, so2, hown, rfl⟩
  clear c0_x c1_x f0_x f1_x
  have K8_a := hid (At.keptAll (K7_a.out) hb)
  have K8_lx := hid (LentW.kept (K7_lx.out) hb)
  have K8_x := hid (At.keptAll (K7_x.out) hb)
  have K8_c := hid (At.keptAll (K7_c.out) hb)
  have K8_want := hid (At.keptAll (K7_want.out) hb)
  have hB8 : Below w.heap.size w w8 := Below.trans hB7 (Below.mono hb hB7.size)
  clear K7_a K7_lx K7_x K7_c K7_want hb hB7
  have K8_rc := hid hown
  clear hown
  obtain ⟨c0_c, c1_c, f0_c, f1_c⟩ := (K8_c.out).facts
  obtain ⟨c0_a, c1_a, f0_a, f1_a⟩ := (K8_a.out).facts
  have K9_a := hid (At.other (p := ⟨w3.heap.size, 1, none⟩) (At.other (p := ⟨w3.heap.size, 0, none⟩) (K8_a.out) (by show w.heap.size ≠ w3.heap.size; omega) (.int .i64 q)) (by show w.heap.size ≠ w3.heap.size; omega) (.slice so2 r r))
  have K9_lx := hid (LentW.other (p := ⟨w3.heap.size, 1, none⟩) (LentW.other (p := ⟨w3.heap.size, 0, none⟩) (K8_lx.out) (by show g ≠ w3.heap.size; omega) (.int .i64 q)) (by show g ≠ w3.heap.size; omega) (.slice so2 r r))
  have K9_x := hid (At.other (p := ⟨w3.heap.size, 1, none⟩) (At.other (p := ⟨w3.heap.size, 0, none⟩) (K8_x.out) (by show w1.heap.size ≠ w3.heap.size; omega) (.int .i64 q)) (by show w1.heap.size ≠ w3.heap.size; omega) (.slice so2 r r))
  have K9_c := hid (At.two (x' := .int .i64 q) (y' := .slice so2 r r) (K8_c.out))
  have K9_want := hid (At.other (p := ⟨w3.heap.size, 1, none⟩) (At.other (p := ⟨w3.heap.size, 0, none⟩) (K8_want.out) (by show w5.heap.size ≠ w3.heap.size; omega) (.int .i64 q)) (by show w5.heap.size ≠ w3.heap.size; omega) (.slice so2 r r))
  have K9_rc := hid ((K8_rc.out).other2 (by show w3.heap.size < _; exact s8_c.out) (.int .i64 q) (.slice so2 r r))
  have hB9 := Below.setCell (p := ⟨w3.heap.size, 1, none⟩) (Below.setCell (p := ⟨w3.heap.size, 0, none⟩) hB8 (by show w.heap.size ≤ w3.heap.size; omega) (.int .i64 q)) (by show w.heap.size ≤ w3.heap.size; omega) (.slice so2 r r)
  clear K8_a K8_lx K8_x K8_c K8_want K8_rc hB8
  go_wp2_with fail
  have s10_a := hid (K9_a.out).lt
  have s10_x := hid (K9_x.out).lt
  have s10_c := hid (K9_c.out).lt
  have s10_want := hid (K9_want.out).lt
  refine Calls.mono (refPrefix_calls n ao k cap X E q r hn'.out hk hE' _ (hW'.out.kept hB9)) ?_
  rintro e w10 ⟨hb, so2r, so2c, hwd, rfl⟩
  clear c0_c c1_c f0_c f1_c c0_a c1_a f0_a f1_a
  have K10_a := hid (At.keptAll (K9_a.out) hb)
  have K10_lx := hid (LentW.kept (K9_lx.out) hb)
  have K10_x := hid (At.keptAll (K9_x.out) hb)
  have K10_c := hid (At.keptAll (K9_c.out) hb)
  have K10_want := hid (At.keptAll (K9_want.out) hb)
  have K10_rc := hid ((K9_rc.out).kept hb)
  have hB10 : Below w.heap.size w w10 := Below.trans hB9 (Below.mono hb hB9.size)
  clear K9_a K9_lx K9_x K9_c K9_want K9_rc hb hB9
  have K10_rw := hid hwd
  clear hwd
  obtain ⟨c0_want, c1_want, f0_want, f1_want⟩ := (K10_want.out).facts
  obtain ⟨c0_c, c1_c, f0_c, f1_c⟩ := (K10_c.out).facts
  have K11_a := hid (At.other (p := ⟨w5.heap.size, 1, none⟩) (At.other (p := ⟨w5.heap.size, 0, none⟩) (K10_a.out) (by show w.heap.size ≠ w5.heap.size; omega) (.int .i64 q)) (by show w.heap.size ≠ w5.heap.size; omega) (.slice so2r r so2c))
  have K11_lx := hid (LentW.other (p := ⟨w5.heap.size, 1, none⟩) (LentW.other (p := ⟨w5.heap.size, 0, none⟩) (K10_lx.out) (by show g ≠ w5.heap.size; omega) (.int .i64 q)) (by show g ≠ w5.heap.size; omega) (.slice so2r r so2c))
  have K11_x := hid (At.other (p := ⟨w5.heap.size, 1, none⟩) (At.other (p := ⟨w5.heap.size, 0, none⟩) (K10_x.out) (by show w1.heap.size ≠ w5.heap.size; omega) (.int .i64 q)) (by show w1.heap.size ≠ w5.heap.size; omega) (.slice so2r r so2c))
  have K11_c := hid (At.other (p := ⟨w5.heap.size, 1, none⟩) (At.other (p := ⟨w5.heap.size, 0, none⟩) (K10_c.out) (by show w3.heap.size ≠ w5.heap.size; omega) (.int .i64 q)) (by show w3.heap.size ≠ w5.heap.size; omega) (.slice so2r r so2c))
  have K11_want := hid (At.two (x' := .int .i64 q) (y' := .slice so2r r so2c) (K10_want.out))
  have K11_rc := hid ((K10_rc.out).other2 (by show w5.heap.size < _; exact s8_want.out) (.int .i64 q) (.slice so2r r so2c))
  have K11_rw := hid ((K10_rw.out).other2 (by show w5.heap.size < _; exact s10_want.out) (.int .i64 q) (.slice so2r r so2c))
  have hB11 := Below.setCell (p := ⟨w5.heap.size, 1, none⟩) (Below.setCell (p := ⟨w5.heap.size, 0, none⟩) hB10 (by show w.heap.size ≤ w5.heap.size; omega) (.int .i64 q)) (by show w.heap.size ≤ w5.heap.size; omega) (.slice so2r r so2c)
  clear K10_a K10_lx K10_x K10_c K10_want K10_rc K10_rw hB10
  go_wp2_with fail
  have s12_a := hid (K11_a.out).lt
  have s12_x := hid (K11_x.out).lt
  have s12_c := hid (K11_c.out).lt
  have s12_want := hid (K11_want.out).lt
  refine Calls.mono (same_true q so2 so2r r r so2c (rowOf (fun i => oddB X (i + 1)) n.toNat) hq'.out (by omega) _ ((K11_rc.out).wds (fun j _ => rowOf_lt _ _ _)) (K11_rw.out).wds) ?_
  rintro e w12 ⟨rfl, hb⟩
  clear c0_want c1_want f0_want f1_want c0_c c1_c f0_c f1_c
  have K12_a := hid (At.keptAll (K11_a.out) hb)
  have K12_lx := hid (LentW.kept (K11_lx.out) hb)
  have K12_x := hid (At.keptAll (K11_x.out) hb)
  have K12_c := hid (At.keptAll (K11_c.out) hb)
  have K12_want := hid (At.keptAll (K11_want.out) hb)
  have hB12 : Below w.heap.size w w12 := Below.trans hB11 (Below.mono hb hB11.size)
  clear K11_a K11_lx K11_x K11_c K11_want K11_rc K11_rw hb hB11
  obtain ⟨c0_x, c1_x, f0_x, f1_x⟩ := (K12_x.out).facts
  obtain ⟨c0_a, c1_a, f0_a, f1_a⟩ := (K12_a.out).facts
  go_wp2_with fail
  have s13_a := hid (K12_a.out).lt
  have s13_x := hid (K12_x.out).lt
  have s13_c := hid (K12_c.out).lt
  have s13_want := hid (K12_want.out).lt
  refine Calls.mono (keptB_calls n ao k cap g c X (by omega) _ (K12_lx.out) (hW'.out.kept hB12)) ?_
  rintro e w13 ⟨rfl, hb⟩
  clear c0_x c1_x f0_x f1_x c0_a c1_a f0_a f1_a
  have K13_a := hid (At.keptAll (K12_a.out) hb)
  have K13_lx := hid (LentW.kept (K12_lx.out) hb)
  have K13_x := hid (At.keptAll (K12_x.out) hb)
  have K13_c := hid (At.keptAll (K12_c.out) hb)
  have K13_want := hid (At.keptAll (K12_want.out) hb)
  have hB13 : Below w.heap.size w w13 := Below.trans hB12 (Below.mono hb hB12.size)
  clear K12_a K12_lx K12_x K12_c K12_want hb hB12
  go_wp2_with fail
  have s14_a := hid (K13_a.out).lt
  have s14_x := hid (K13_x.out).lt
  have s14_c := hid (K13_c.out).lt
  have s14_want := hid (K13_want.out).lt
  refine Calls.mono (awake_calls _ (hT'.out.below hB13 h0) (Nat.lt_of_lt_of_le h0 hB13.size)) ?_
  rintro e w14 ⟨rfl, hb⟩
  have K14_a := hid (At.keptAll (K13_a.out) hb)
  have K14_lx := hid (LentW.kept (K13_lx.out) hb)
  have K14_x := hid (At.keptAll (K13_x.out) hb)
  have K14_c := hid (At.keptAll (K13_c.out) hb)
  have K14_want := hid (At.keptAll (K13_want.out) hb)
  have hB14 : Below w.heap.size w w14 := Below.trans hB13 (Below.mono hb hB13.size)
  clear K13_a K13_lx K13_x K13_c K13_want hb hB13
  go_wp2
  go_ret
  exact ⟨rfl, hB14⟩
end Go.Proofs.YtmbkcnhkbpaagaaDoor
