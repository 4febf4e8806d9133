/-
  The walk of quarrylaw04.BitmapKeeps.
-/
import Derived.Test.YtkdcloiepeenoaaDoorBuild11
import Derived.Test.YtkdcloiepeenoaaDoorLawKit
import Derived.Test.YtkdcloiepeenoaaDoorCopyBits
import Derived.Test.YtkdcloiepeenoaaDoorJoinGives
import Derived.Test.YtkdcloiepeenoaaDoorTurnOps
import Derived.Deep.DeepCutAuto
namespace Go.Proofs.YtkdcloiepeenoaaDoor
open Go.RowKit Go.Shelf

theorem joinE_self {n : Int} {k : Nat} {X : Nat → Nat} {E q : Int} {r : Nat} (h : joinE n n k k X X E q r) (hX : ∀ j, j < k → X j < 18446744073709551616) : E ≠ 0 ∨ (E = 0 ∧ q = n ∧ r = k ∧ ∀ j, j < r → rowOf (fun i => bitAt X i && bitAt X i) n.toNat j = X j) := by
  rcases h with ⟨_, rfl, _⟩ | ⟨_, h, _⟩ | ⟨⟨hf, _⟩, _, rfl, rfl, rfl⟩
  · exact .inl (by decide)
  · exact (h rfl).elim
  · right
    refine ⟨rfl, rfl, rfl, fun j hj => ?_⟩
    obtain ⟨N, rfl⟩ := Int.eq_ofNat_of_zero_le hf.1
    rw [show (fun i => bitAt X i && bitAt X i) = bitAt X from funext fun i => Bool.and_self _]
    simpa using (rowOf_self hf hj (hX j hj)).symm

set_option maxRecDepth 10000 in
set_option maxHeartbeats 16000000 in
theorem bitmapKeeps_walk (n : Int) (ao : Option Addr) (k cap : Nat) (X : Nat → Nat) (hn : (Lit.int .i64 n).wf = true) (hk : k ≤ 17592186043904) (m : Int) (bo : Option Addr) (l cap' : Nat) (Y : Nat → Nat) (hm : (Lit.int .i64 m).wf = true) (hl : l ≤ 17592186043904) (po : Option Addr) (pl pc : Nat) (PZ : Nat → Int) (hpl : pl ≤ 17592186043904)
    (w : World) (hT : Tab w) (h0 : 0 < w.heap.size) (hW : Wds w ao k X) (hV : Wds w bo l Y) (_hP : Nums w po pl PZ) :
    Calls Tryd.prog 3 #[bv n ao k cap, bv m bo l cap', .slice po pl pc] w fun e w' => e = .returned (.bool true) ∧ Below w.heap.size w w' := by
  obtain ⟨E, q, r, hE0⟩ := joinE_ex n n k k X X
  obtain ⟨E2, q2, r2, hE20⟩ := turnE_ex n k X
  obtain ⟨E3, q3, r3, hE30⟩ := joinE_ex m m l l Y Y
  obtain ⟨E4, q4, r4, hE40⟩ := joinE_ex n n k k (fun j => 9000027 + j) (fun j => 9000027 + j)
  obtain ⟨hq0, hr⟩ := joinE_wf hE0 hn
  obtain ⟨hq20, hr2⟩ := turnE_wf hE20 hn
  obtain ⟨hq40, hr4⟩ := joinE_wf hE40 hn
  have hE := hid hE0
  have hE2 := hid hE20
  have hE3 := hid hE30
  have hE4 := hid hE40
  have hq := hid hq0
  have hq2 := hid hq20
  have hq4 := hid hq40
  obtain ⟨NP, hNP⟩ : ∃ NP, Hid (1 + pl % 300 = NP) := ⟨_, rfl⟩
  have hNPi : (1 : Int) + (pl : Int) % 300 = (NP : Int) := by have := hNP.out; omega
  have hNPl : NP ≤ 300 := by have := hNP.out; omega
  have eE : (E != E) = false := by simp
  have eE4 : (E4 != E4) = false := by simp
  have hX := hid (fun j hj => (hW j hj).1)
  have hself := hid (joinE_self hE0 hX.out)
  have hW' := hid hW
  have hV' := hid hV
  have hT' := hid hT
  have hn' := hid hn
  have hm' := hid hm
  have h0' := hid h0
  clear hE0 hE20 hE30 hE40 hq0 hq20 hq40 hW hV hT hn hm h0 _hP
  have K0_a := hid ((At.new w #[.int .i64 n, .slice ao k cap] 24).alloc (.cells #[.int .i64 m, .slice bo l cap'] 24))
  have K0_b := hid (show At ((w.alloc (.cells #[.int .i64 n, .slice ao k cap] 24)).alloc (.cells #[.int .i64 m, .slice bo l cap'] 24)) (w.heap.size + 1) #[.int .i64 m, .slice bo l cap'] 24 from by
    have h := At.new (w.alloc (.cells #[.int .i64 n, .slice ao k cap] 24)) #[.int .i64 m, .slice bo l cap'] 24
    simpa using h)
  have hB0 : Below w.heap.size w ((w.alloc (.cells #[.int .i64 n, .slice ao k cap] 24)).alloc (.cells #[.int .i64 m, .slice bo l cap'] 24)) := by repeat (first | with_reducible exact Below.refl _ _ | with_reducible refine Below.setCell ?_ (by first | (simp; done) | (simp; omega)) _ | with_reducible refine below_drewN ?_ _ | with_reducible refine Below.alloc ?_ (by first | (simp; done) | (simp; omega)) _ | with_reducible refine Below.drew ?_)
  go_enter Tryd.func3, Tryd.ntmps3
  go_wp2_with fail
  have s1_a := hid (K0_a.out).lt
  have s1_b := hid (K0_b.out).lt
  refine Calls.mono (awake_calls _ (hT'.out.below hB0 h0'.out) (Nat.lt_of_lt_of_le h0'.out hB0.size)) ?_
  rintro e w1 ⟨rfl, hb⟩
  have K1_a := hid (At.keptAll (K0_a.out) hb)
  have K1_b := hid (At.keptAll (K0_b.out) hb)
  have hB1 : Below w.heap.size w w1 := Below.trans hB0 (Below.mono hb hB0.size)
  clear K0_a K0_b hb hB0
  obtain ⟨c0_a, c1_a, f0_a, f1_a⟩ := (K1_a.out).facts
  have hwU := hid (hB1.size)
  have hbU := hid (K1_b.out.lt)
  go_wp2_with fail
  have s2_a := hid (K1_a.out).lt
  have s2_b := hid (K1_b.out).lt
  refine Calls.mono (lentB_calls n ao k cap X (by omega) _ (hW'.out.kept hB1)) ?_
  rintro e w2 ⟨g, c, rfl, hg, hL, hb⟩
  have hgw := hid (Nat.le_trans hwU.out hg)
  have hgb := hid (Nat.lt_of_lt_of_le hbU.out hg)
  clear hg
  clear c0_a c1_a f0_a f1_a
  have K2_a := hid (At.keptAll (K1_a.out) hb)
  have K2_b := hid (At.keptAll (K1_b.out) hb)
  have hB2 : Below w.heap.size w w2 := Below.trans hB1 (Below.mono hb hB1.size)
  clear K1_a K1_b hb hB1
  have K2_lx := hid hL
  clear hL
  have hgl := hid (LentW.lt (K2_lx.out))
  obtain ⟨b0, hb0⟩ : ∃ b0, Hid (w2.heap.size = b0) := ⟨_, rfl⟩
  have hgb0 := hid (show g < b0 from by rw [← hb0.out]; exact hgl.out)
  have K2_fb := hid (show FromB b0 w2 from by unfold FromB; rw [hb0.out]; exact Nat.le_refl _)
  have K2_rx := hid (rowsX_nil w2 b0)
  have ne_a_x := (K2_a.out).lt
  have ne_b_x := (K2_b.out).lt
  have ne_lx_x := LentW.lt (K2_lx.out)
  have al : Below w2.heap.size w2 (w2.alloc (.cells #[.int .i64 n, .slice (some ⟨g, 0, none⟩) k c] 24)) := (Below.refl _ _).alloc (Nat.le_refl _) _
  have K3_a := hid (At.alloc (K2_a.out) (.cells #[.int .i64 n, .slice (some ⟨g, 0, none⟩) k c] 24))
  have K3_b := hid (At.alloc (K2_b.out) (.cells #[.int .i64 n, .slice (some ⟨g, 0, none⟩) k c] 24))
  have K3_lx := hid (LentW.kept (K2_lx.out) al)
  have K3_fb := hid ((K2_fb.out).kept al)
  have K3_rx := hid ((K2_rx.out).kept al)
  have K3_x := hid (At.new w2 #[.int .i64 n, .slice (some ⟨g, 0, none⟩) k c] 24)
  have hB3 := Below.alloc hB2 hB2.size (.cells #[.int .i64 n, .slice (some ⟨g, 0, none⟩) k c] 24)
  clear al K2_a K2_b K2_lx K2_fb K2_rx hB2
  obtain ⟨c0_x, c1_x, f0_x, f1_x⟩ := (K3_x.out).facts
  go_wp2_with fail
  have s4_a := hid (K3_a.out).lt
  have s4_b := hid (K3_b.out).lt
  have s4_x := hid (K3_x.out).lt
  refine Calls.mono (and_gives n n (some ⟨g, 0, none⟩) (some ⟨g, 0, none⟩) k k c c X X E q r hn'.out hn'.out (by omega) (by omega) hE _ (LentB.wds (K3_lx.out) hX.out) (LentB.wds (K3_lx.out) hX.out)) ?_
  rintro e w4 ⟨hb, so_p, hown, rfl⟩
  obtain ⟨F_p, hrx⟩ := rowsX_push (K3_rx.out) hb (K3_fb.out) hown
  have sx_p := hid (slX_own hown)
  have gb_p := hid (LentW.lt (K3_lx.out))
  clear c0_x c1_x f0_x f1_x
  have K4_a := hid (At.keptAll (K3_a.out) hb)
  have K4_b := hid (At.keptAll (K3_b.out) hb)
  have K4_lx := hid (LentW.kept (K3_lx.out) hb)
  have K4_fb := hid ((K3_fb.out).kept hb)
  have K4_x := hid (At.keptAll (K3_x.out) hb)
  have hB4 : Below w.heap.size w w4 := Below.trans hB3 (Below.mono hb hB3.size)
  clear K3_a K3_b K3_lx K3_fb K3_rx K3_x hb hB3
  have K4_rx := hid hrx
  clear hrx
  have K4_op := hid hown
  clear hown
  have ne_a_p := (K4_a.out).lt
  have ne_b_p := (K4_b.out).lt
  have ne_lx_p := LentW.lt (K4_lx.out)
  have ne_x_p := (K4_x.out).lt
  have al : Below w4.heap.size w4 (w4.alloc (.cells #[.int .i64 q, .slice so_p r r] 24)) := (Below.refl _ _).alloc (Nat.le_refl _) _
  have K5_a := hid (At.alloc (K4_a.out) (.cells #[.int .i64 q, .slice so_p r r] 24))
  have K5_b := hid (At.alloc (K4_b.out) (.cells #[.int .i64 q, .slice so_p r r] 24))
  have K5_lx := hid (LentW.kept (K4_lx.out) al)
  have K5_fb := hid ((K4_fb.out).kept al)
  have K5_x := hid (At.alloc (K4_x.out) (.cells #[.int .i64 q, .slice so_p r r] 24))
  have K5_rx := hid ((K4_rx.out).kept al)
  have K5_op := hid ((K4_op.out).kept al)
  have K5_p := hid (At.new w4 #[.int .i64 q, .slice so_p r r] 24)
  have hB5 := Below.alloc hB4 hB4.size (.cells #[.int .i64 q, .slice so_p r r] 24)
  clear al K4_a K4_b K4_lx K4_fb K4_x K4_rx K4_op hB4
  obtain ⟨c0_x, c1_x, f0_x, f1_x⟩ := (K5_x.out).facts
  go_wp2_with fail
  have s6_a := hid (K5_a.out).lt
  have s6_b := hid (K5_b.out).lt
  have s6_x := hid (K5_x.out).lt
  have s6_p := hid (K5_p.out).lt
  refine Calls.mono (not_calls n (some ⟨g, 0, none⟩) k c X E2 q2 r2 hn'.out (by omega) hE2 _ (LentB.wds (K5_lx.out) hX.out)) ?_
  rintro e w6 ⟨hb, so_q, hown, rfl⟩
  obtain ⟨F_q, hrx⟩ := rowsX_push (K5_rx.out) hb (K5_fb.out) hown
  have sx_q := hid (slX_own hown)
  have gb_q := hid (LentW.lt (K5_lx.out))
  clear c0_x c1_x f0_x f1_x
  have K6_a := hid (At.keptAll (K5_a.out) hb)
  have K6_b := hid (At.keptAll (K5_b.out) hb)
  have K6_lx := hid (LentW.kept (K5_lx.out) hb)
  have K6_fb := hid ((K5_fb.out).kept hb)
  have K6_x := hid (At.keptAll (K5_x.out) hb)
  have K6_op := hid ((K5_op.out).kept hb)
  have K6_p := hid (At.keptAll (K5_p.out) hb)
  have hB6 : Below w.heap.size w w6 := Below.trans hB5 (Below.mono hb hB5.size)
  clear K5_a K5_b K5_lx K5_fb K5_x K5_rx K5_op K5_p hb hB5
  have K6_rx := hid hrx
  clear hrx
  have K6_oq := hid hown
  clear hown
  have ne_a_q := (K6_a.out).lt
  have ne_b_q := (K6_b.out).lt
  have ne_lx_q := LentW.lt (K6_lx.out)
  have ne_x_q := (K6_x.out).lt
  have ne_p_q := (K6_p.out).lt
  have al : Below w6.heap.size w6 (w6.alloc (.cells #[.int .i64 q2, .slice so_q r2 r2] 24)) := (Below.refl _ _).alloc (Nat.le_refl _) _
  have K7_a := hid (At.alloc (K6_a.out) (.cells #[.int .i64 q2, .slice so_q r2 r2] 24))
  have K7_b := hid (At.alloc (K6_b.out) (.cells #[.int .i64 q2, .slice so_q r2 r2] 24))
  have K7_lx := hid (LentW.kept (K6_lx.out) al)
  have K7_fb := hid ((K6_fb.out).kept al)
  have K7_x := hid (At.alloc (K6_x.out) (.cells #[.int .i64 q2, .slice so_q r2 r2] 24))
  have K7_op := hid ((K6_op.out).kept al)
  have K7_p := hid (At.alloc (K6_p.out) (.cells #[.int .i64 q2, .slice so_q r2 r2] 24))
  have K7_rx := hid ((K6_rx.out).kept al)
  have K7_oq := hid ((K6_oq.out).kept al)
  have K7_q := hid (At.new w6 #[.int .i64 q2, .slice so_q r2 r2] 24)
  have hB7 := Below.alloc hB6 hB6.size (.cells #[.int .i64 q2, .slice so_q r2 r2] 24)
  clear al K6_a K6_b K6_lx K6_fb K6_x K6_op K6_p K6_rx K6_oq hB6
  obtain ⟨c0_x, c1_x, f0_x, f1_x⟩ := (K7_x.out).facts
  go_wp2_with fail
  have s8_a := hid (K7_a.out).lt
  have s8_b := hid (K7_b.out).lt
  have s8_x := hid (K7_x.out).lt
  have s8_p := hid (K7_p.out).lt
  have s8_q := hid (K7_q.out).lt
  refine Calls.mono (prefixB_calls n (some ⟨g, 0, none⟩) k c X E2 q2 r2 hn'.out (by omega) hE2 _ (LentB.wds (K7_lx.out) hX.out)) ?_
  rintro e w8 ⟨hb, so_r, hown, rfl⟩
  obtain ⟨F_r, hrx⟩ := rowsX_push (K7_rx.out) hb (K7_fb.out) hown
  have sx_r := hid (slX_own hown)
  clear c0_x c1_x f0_x f1_x
  have K8_a := hid (At.keptAll (K7_a.out) hb)
  have K8_b := hid (At.keptAll (K7_b.out) hb)
  have K8_lx := hid (LentW.kept (K7_lx.out) hb)
  have K8_fb := hid ((K7_fb.out).kept hb)
  have K8_x := hid (At.keptAll (K7_x.out) hb)
  have K8_op := hid ((K7_op.out).kept hb)
  have K8_p := hid (At.keptAll (K7_p.out) hb)
  have K8_oq := hid ((K7_oq.out).kept hb)
  have K8_q := hid (At.keptAll (K7_q.out) hb)
  have hB8 : Below w.heap.size w w8 := Below.trans hB7 (Below.mono hb hB7.size)
  clear K7_a K7_b K7_lx K7_fb K7_x K7_op K7_p K7_rx K7_oq K7_q hb hB7
  have K8_rx := hid hrx
  clear hrx
  clear hown
  have ne_a_r := (K8_a.out).lt
  have ne_b_r := (K8_b.out).lt
  have ne_lx_r := LentW.lt (K8_lx.out)
  have ne_x_r := (K8_x.out).lt
  have ne_p_r := (K8_p.out).lt
  have ne_q_r := (K8_q.out).lt
  have al : Below w8.heap.size w8 (w8.alloc (.cells #[.int .i64 q2, .slice so_r r2 r2] 24)) := (Below.refl _ _).alloc (Nat.le_refl _) _
  have K9_a := hid (At.alloc (K8_a.out) (.cells #[.int .i64 q2, .slice so_r r2 r2] 24))
  have K9_b := hid (At.alloc (K8_b.out) (.cells #[.int .i64 q2, .slice so_r r2 r2] 24))
  have K9_lx := hid (LentW.kept (K8_lx.out) al)
  have K9_fb := hid ((K8_fb.out).kept al)
  have K9_x := hid (At.alloc (K8_x.out) (.cells #[.int .i64 q2, .slice so_r r2 r2] 24))
  have K9_op := hid ((K8_op.out).kept al)
  have K9_p := hid (At.alloc (K8_p.out) (.cells #[.int .i64 q2, .slice so_r r2 r2] 24))
  have K9_oq := hid ((K8_oq.out).kept al)
  have K9_q := hid (At.alloc (K8_q.out) (.cells #[.int .i64 q2, .slice so_r r2 r2] 24))
  have K9_rx := hid ((K8_rx.out).kept al)
  have K9_r := hid (At.new w8 #[.int .i64 q2, .slice so_r r2 r2] 24)
  have hB9 := Below.alloc hB8 hB8.size (.cells #[.int .i64 q2, .slice so_r r2 r2] 24)
  clear al K8_a K8_b K8_lx K8_fb K8_x K8_op K8_p K8_oq K8_q K8_rx hB8
  go_wp2_with fail
  have s10_a := hid (K9_a.out).lt
  have s10_b := hid (K9_b.out).lt
  have s10_x := hid (K9_x.out).lt
  have s10_p := hid (K9_p.out).lt
  have s10_q := hid (K9_q.out).lt
  have s10_r := hid (K9_r.out).lt
  refine Calls.mono (make_calls NP none 0 0 (fun _ => 0) (wf_small hNPl) (by decide) _ (fun j hj => by omega)) ?_
  rintro e w10 ⟨hb, hmade⟩
  obtain ⟨gm, Km, hKm, hgm, hAm, rfl⟩ : ∃ gm Km, Hid (Km = need ((NP : Int)).toNat) ∧ (w8.alloc (.cells #[.int .i64 q2, .slice so_r r2 r2] 24)).heap.size ≤ gm ∧ At w10 gm (rowCells Km (rowOf (setTo (fun _ => 0) 0) ((NP : Int)).toNat)) 39 ∧ e = .returned (.tuple #[bv NP (some ⟨gm, 0, none⟩) Km Km, .int .i64 0]) := by
    rcases hmade with ⟨h, _⟩ | ⟨_, h⟩
    · exact (h ⟨by omega, by omega, fun t ht => by omega⟩).elim
    · exact h
  have hown : Own (w8.alloc (.cells #[.int .i64 q2, .slice so_r r2 r2] 24)).heap.size w10 (some ⟨gm, 0, none⟩) Km (rowOf (setTo (fun _ => 0) 0) ((NP : Int)).toNat) := .inr ⟨gm, rfl, hgm, hAm⟩
  have hKml : Km ≤ 5 := by rw [hKm.out]; unfold need; omega
  clear hmade hgm hAm
  obtain ⟨F_m, hrx⟩ := rowsX_push (K9_rx.out) hb (K9_fb.out) hown
  have sx_m := hid (slX_own hown)
  have K10_a := hid (At.keptAll (K9_a.out) hb)
  have K10_b := hid (At.keptAll (K9_b.out) hb)
  have K10_lx := hid (LentW.kept (K9_lx.out) hb)
  have K10_fb := hid ((K9_fb.out).kept hb)
  have K10_x := hid (At.keptAll (K9_x.out) hb)
  have K10_op := hid ((K9_op.out).kept hb)
  have K10_p := hid (At.keptAll (K9_p.out) hb)
  have K10_oq := hid ((K9_oq.out).kept hb)
  have K10_q := hid (At.keptAll (K9_q.out) hb)
  have K10_r := hid (At.keptAll (K9_r.out) hb)
  have hB10 : Below w.heap.size w w10 := Below.trans hB9 (Below.mono hb hB9.size)
  clear K9_a K9_b K9_lx K9_fb K9_x K9_op K9_p K9_oq K9_q K9_rx K9_r hb hB9
  have K10_rx := hid hrx
  clear hrx
  clear hown
  have ne_a_m := (K10_a.out).lt
  have ne_b_m := (K10_b.out).lt
  have ne_lx_m := LentW.lt (K10_lx.out)
  have ne_x_m := (K10_x.out).lt
  have ne_p_m := (K10_p.out).lt
  have ne_q_m := (K10_q.out).lt
  have ne_r_m := (K10_r.out).lt
  have al : Below w10.heap.size w10 (w10.alloc (.cells #[.int .i64 NP, .slice (some ⟨gm, 0, none⟩) Km Km] 24)) := (Below.refl _ _).alloc (Nat.le_refl _) _
  have K11_a := hid (At.alloc (K10_a.out) (.cells #[.int .i64 NP, .slice (some ⟨gm, 0, none⟩) Km Km] 24))
  have K11_b := hid (At.alloc (K10_b.out) (.cells #[.int .i64 NP, .slice (some ⟨gm, 0, none⟩) Km Km] 24))
  have K11_lx := hid (LentW.kept (K10_lx.out) al)
  have K11_fb := hid ((K10_fb.out).kept al)
  have K11_x := hid (At.alloc (K10_x.out) (.cells #[.int .i64 NP, .slice (some ⟨gm, 0, none⟩) Km Km] 24))
  have K11_op := hid ((K10_op.out).kept al)
  have K11_p := hid (At.alloc (K10_p.out) (.cells #[.int .i64 NP, .slice (some ⟨gm, 0, none⟩) Km Km] 24))
  have K11_oq := hid ((K10_oq.out).kept al)
  have K11_q := hid (At.alloc (K10_q.out) (.cells #[.int .i64 NP, .slice (some ⟨gm, 0, none⟩) Km Km] 24))
  have K11_r := hid (At.alloc (K10_r.out) (.cells #[.int .i64 NP, .slice (some ⟨gm, 0, none⟩) Km Km] 24))
  have K11_rx := hid ((K10_rx.out).kept al)
  have K11_m := hid (At.new w10 #[.int .i64 NP, .slice (some ⟨gm, 0, none⟩) Km Km] 24)
  have hB11 := Below.alloc hB10 hB10.size (.cells #[.int .i64 NP, .slice (some ⟨gm, 0, none⟩) Km Km] 24)
  clear al K10_a K10_b K10_lx K10_fb K10_x K10_op K10_p K10_oq K10_q K10_r K10_rx hB10
  obtain ⟨c0_b, c1_b, f0_b, f1_b⟩ := (K11_b.out).facts
  go_wp2_with fail
  have s12_a := hid (K11_a.out).lt
  have s12_b := hid (K11_b.out).lt
  have s12_x := hid (K11_x.out).lt
  have s12_p := hid (K11_p.out).lt
  have s12_q := hid (K11_q.out).lt
  have s12_r := hid (K11_r.out).lt
  have s12_m := hid (K11_m.out).lt
  refine Calls.mono (or_gives m m bo bo l l cap' cap' Y Y E3 q3 r3 hm'.out hm'.out (by omega) (by omega) hE3 _ (hV'.out.kept hB11) (hV'.out.kept hB11)) ?_
  rintro e w12 ⟨hb, so_or, hown, rfl⟩
  clear c0_b c1_b f0_b f1_b
  have K12_a := hid (At.keptAll (K11_a.out) hb)
  have K12_b := hid (At.keptAll (K11_b.out) hb)
  have K12_lx := hid (LentW.kept (K11_lx.out) hb)
  have K12_fb := hid ((K11_fb.out).kept hb)
  have K12_x := hid (At.keptAll (K11_x.out) hb)
  have K12_op := hid ((K11_op.out).kept hb)
  have K12_p := hid (At.keptAll (K11_p.out) hb)
  have K12_oq := hid ((K11_oq.out).kept hb)
  have K12_q := hid (At.keptAll (K11_q.out) hb)
  have K12_r := hid (At.keptAll (K11_r.out) hb)
  have K12_rx := hid ((K11_rx.out).kept hb)
  have K12_m := hid (At.keptAll (K11_m.out) hb)
  have hB12 : Below w.heap.size w w12 := Below.trans hB11 (Below.mono hb hB11.size)
  clear K11_a K11_b K11_lx K11_fb K11_x K11_op K11_p K11_oq K11_q K11_r K11_rx K11_m hb hB11
  clear hown
  obtain ⟨c0_x, c1_x, f0_x, f1_x⟩ := (K12_x.out).facts
  go_wp2_with fail
  have s13_a := hid (K12_a.out).lt
  have s13_b := hid (K12_b.out).lt
  have s13_x := hid (K12_x.out).lt
  have s13_p := hid (K12_p.out).lt
  have s13_q := hid (K12_q.out).lt
  have s13_r := hid (K12_r.out).lt
  have s13_m := hid (K12_m.out).lt
  refine Calls.mono (and_gives n n (some ⟨g, 0, none⟩) (some ⟨g, 0, none⟩) k k c c X X E q r hn'.out hn'.out (by omega) (by omega) hE _ (LentB.wds (K12_lx.out) hX.out) (LentB.wds (K12_lx.out) hX.out)) ?_
  rintro e w13 ⟨hb, so_s, hown, rfl⟩
  obtain ⟨F_s, hrx⟩ := rowsX_push (K12_rx.out) hb (K12_fb.out) hown
  have sx_s := hid (slX_own hown)
  have gb_s := hid (LentW.lt (K12_lx.out))
  clear c0_x c1_x f0_x f1_x
  have K13_a := hid (At.keptAll (K12_a.out) hb)
  have K13_b := hid (At.keptAll (K12_b.out) hb)
  have K13_lx := hid (LentW.kept (K12_lx.out) hb)
  have K13_fb := hid ((K12_fb.out).kept hb)
  have K13_x := hid (At.keptAll (K12_x.out) hb)
  have K13_op := hid ((K12_op.out).kept hb)
  have K13_p := hid (At.keptAll (K12_p.out) hb)
  have K13_oq := hid ((K12_oq.out).kept hb)
  have K13_q := hid (At.keptAll (K12_q.out) hb)
  have K13_r := hid (At.keptAll (K12_r.out) hb)
  have K13_m := hid (At.keptAll (K12_m.out) hb)
  have hB13 : Below w.heap.size w w13 := Below.trans hB12 (Below.mono hb hB12.size)
  clear K12_a K12_b K12_lx K12_fb K12_x K12_op K12_p K12_oq K12_q K12_r K12_rx K12_m hb hB12
  have K13_rx := hid hrx
  clear hrx
  have K13_os := hid hown
  clear hown
  have ne_a_s := (K13_a.out).lt
  have ne_b_s := (K13_b.out).lt
  have ne_lx_s := LentW.lt (K13_lx.out)
  have ne_x_s := (K13_x.out).lt
  have ne_p_s := (K13_p.out).lt
  have ne_q_s := (K13_q.out).lt
  have ne_r_s := (K13_r.out).lt
  have ne_m_s := (K13_m.out).lt
  have al : Below w13.heap.size w13 (w13.alloc (.cells #[.int .i64 q, .slice so_s r r] 24)) := (Below.refl _ _).alloc (Nat.le_refl _) _
  have K14_a := hid (At.alloc (K13_a.out) (.cells #[.int .i64 q, .slice so_s r r] 24))
  have K14_b := hid (At.alloc (K13_b.out) (.cells #[.int .i64 q, .slice so_s r r] 24))
  have K14_lx := hid (LentW.kept (K13_lx.out) al)
  have K14_fb := hid ((K13_fb.out).kept al)
  have K14_x := hid (At.alloc (K13_x.out) (.cells #[.int .i64 q, .slice so_s r r] 24))
  have K14_op := hid ((K13_op.out).kept al)
  have K14_p := hid (At.alloc (K13_p.out) (.cells #[.int .i64 q, .slice so_s r r] 24))
  have K14_oq := hid ((K13_oq.out).kept al)
  have K14_q := hid (At.alloc (K13_q.out) (.cells #[.int .i64 q, .slice so_s r r] 24))
  have K14_r := hid (At.alloc (K13_r.out) (.cells #[.int .i64 q, .slice so_s r r] 24))
  have K14_m := hid (At.alloc (K13_m.out) (.cells #[.int .i64 q, .slice so_s r r] 24))
  have K14_rx := hid ((K13_rx.out).kept al)
  have K14_os := hid ((K13_os.out).kept al)
  have K14_s := hid (At.new w13 #[.int .i64 q, .slice so_s r r] 24)
  have hB14 := Below.alloc hB13 hB13.size (.cells #[.int .i64 q, .slice so_s r r] 24)
  clear al K13_a K13_b K13_lx K13_fb K13_x K13_op K13_p K13_oq K13_q K13_r K13_m K13_rx K13_os hB13
  obtain ⟨c0_x, c1_x, f0_x, f1_x⟩ := (K14_x.out).facts
  go_wp2_with fail
  have s15_a := hid (K14_a.out).lt
  have s15_b := hid (K14_b.out).lt
  have s15_x := hid (K14_x.out).lt
  have s15_p := hid (K14_p.out).lt
  have s15_q := hid (K14_q.out).lt
  have s15_r := hid (K14_r.out).lt
  have s15_m := hid (K14_m.out).lt
  have s15_s := hid (K14_s.out).lt
  refine Calls.mono (not_calls n (some ⟨g, 0, none⟩) k c X E2 q2 r2 hn'.out (by omega) hE2 _ (LentB.wds (K14_lx.out) hX.out)) ?_
  rintro e w15 ⟨hb, so_t, hown, rfl⟩
  obtain ⟨F_t, hrx⟩ := rowsX_push (K14_rx.out) hb (K14_fb.out) hown
  have sx_t := hid (slX_own hown)
  have gb_t := hid (LentW.lt (K14_lx.out))
  clear c0_x c1_x f0_x f1_x
  have K15_a := hid (At.keptAll (K14_a.out) hb)
  have K15_b := hid (At.keptAll (K14_b.out) hb)
  have K15_lx := hid (LentW.kept (K14_lx.out) hb)
  have K15_fb := hid ((K14_fb.out).kept hb)
  have K15_x := hid (At.keptAll (K14_x.out) hb)
  have K15_op := hid ((K14_op.out).kept hb)
  have K15_p := hid (At.keptAll (K14_p.out) hb)
  have K15_oq := hid ((K14_oq.out).kept hb)
  have K15_q := hid (At.keptAll (K14_q.out) hb)
  have K15_r := hid (At.keptAll (K14_r.out) hb)
  have K15_m := hid (At.keptAll (K14_m.out) hb)
  have K15_os := hid ((K14_os.out).kept hb)
  have K15_s := hid (At.keptAll (K14_s.out) hb)
  have hB15 : Below w.heap.size w w15 := Below.trans hB14 (Below.mono hb hB14.size)
  clear K14_a K14_b K14_lx K14_fb K14_x K14_op K14_p K14_oq K14_q K14_r K14_m K14_rx K14_os K14_s hb hB14
  have K15_rx := hid hrx
  clear hrx
  have K15_ot := hid hown
  clear hown
  have ne_a_t := (K15_a.out).lt
  have ne_b_t := (K15_b.out).lt
  have ne_lx_t := LentW.lt (K15_lx.out)
  have ne_x_t := (K15_x.out).lt
  have ne_p_t := (K15_p.out).lt
  have ne_q_t := (K15_q.out).lt
  have ne_r_t := (K15_r.out).lt
  have ne_m_t := (K15_m.out).lt
  have ne_s_t := (K15_s.out).lt
  have al : Below w15.heap.size w15 (w15.alloc (.cells #[.int .i64 q2, .slice so_t r2 r2] 24)) := (Below.refl _ _).alloc (Nat.le_refl _) _
  have K16_a := hid (At.alloc (K15_a.out) (.cells #[.int .i64 q2, .slice so_t r2 r2] 24))
  have K16_b := hid (At.alloc (K15_b.out) (.cells #[.int .i64 q2, .slice so_t r2 r2] 24))
  have K16_lx := hid (LentW.kept (K15_lx.out) al)
  have K16_fb := hid ((K15_fb.out).kept al)
  have K16_x := hid (At.alloc (K15_x.out) (.cells #[.int .i64 q2, .slice so_t r2 r2] 24))
  have K16_op := hid ((K15_op.out).kept al)
  have K16_p := hid (At.alloc (K15_p.out) (.cells #[.int .i64 q2, .slice so_t r2 r2] 24))
  have K16_oq := hid ((K15_oq.out).kept al)
  have K16_q := hid (At.alloc (K15_q.out) (.cells #[.int .i64 q2, .slice so_t r2 r2] 24))
  have K16_r := hid (At.alloc (K15_r.out) (.cells #[.int .i64 q2, .slice so_t r2 r2] 24))
  have K16_m := hid (At.alloc (K15_m.out) (.cells #[.int .i64 q2, .slice so_t r2 r2] 24))
  have K16_os := hid ((K15_os.out).kept al)
  have K16_s := hid (At.alloc (K15_s.out) (.cells #[.int .i64 q2, .slice so_t r2 r2] 24))
  have K16_rx := hid ((K15_rx.out).kept al)
  have K16_ot := hid ((K15_ot.out).kept al)
  have K16_t := hid (At.new w15 #[.int .i64 q2, .slice so_t r2 r2] 24)
  have hB16 := Below.alloc hB15 hB15.size (.cells #[.int .i64 q2, .slice so_t r2 r2] 24)
  clear al K15_a K15_b K15_lx K15_fb K15_x K15_op K15_p K15_oq K15_q K15_r K15_m K15_os K15_s K15_rx K15_ot hB15
  obtain ⟨c0_x, c1_x, f0_x, f1_x⟩ := (K16_x.out).facts
  go_wp2_with fail
  have s17_a := hid (K16_a.out).lt
  have s17_b := hid (K16_b.out).lt
  have s17_x := hid (K16_x.out).lt
  have s17_p := hid (K16_p.out).lt
  have s17_q := hid (K16_q.out).lt
  have s17_r := hid (K16_r.out).lt
  have s17_m := hid (K16_m.out).lt
  have s17_s := hid (K16_s.out).lt
  have s17_t := hid (K16_t.out).lt
  refine Calls.mono (or_gives n n (some ⟨g, 0, none⟩) (some ⟨g, 0, none⟩) k k c c X X E q r hn'.out hn'.out (by omega) (by omega) hE _ (LentB.wds (K16_lx.out) hX.out) (LentB.wds (K16_lx.out) hX.out)) ?_
  rintro e w17 ⟨hb, so_u, hown, rfl⟩
  obtain ⟨F_u, hrx⟩ := rowsX_push (K16_rx.out) hb (K16_fb.out) hown
  have sx_u := hid (slX_own hown)
  clear c0_x c1_x f0_x f1_x
  have K17_a := hid (At.keptAll (K16_a.out) hb)
  have K17_b := hid (At.keptAll (K16_b.out) hb)
  have K17_lx := hid (LentW.kept (K16_lx.out) hb)
  have K17_fb := hid ((K16_fb.out).kept hb)
  have K17_x := hid (At.keptAll (K16_x.out) hb)
  have K17_op := hid ((K16_op.out).kept hb)
  have K17_p := hid (At.keptAll (K16_p.out) hb)
  have K17_oq := hid ((K16_oq.out).kept hb)
  have K17_q := hid (At.keptAll (K16_q.out) hb)
  have K17_r := hid (At.keptAll (K16_r.out) hb)
  have K17_m := hid (At.keptAll (K16_m.out) hb)
  have K17_os := hid ((K16_os.out).kept hb)
  have K17_s := hid (At.keptAll (K16_s.out) hb)
  have K17_ot := hid ((K16_ot.out).kept hb)
  have K17_t := hid (At.keptAll (K16_t.out) hb)
  have hB17 : Below w.heap.size w w17 := Below.trans hB16 (Below.mono hb hB16.size)
  clear K16_a K16_b K16_lx K16_fb K16_x K16_op K16_p K16_oq K16_q K16_r K16_m K16_os K16_s K16_rx K16_ot K16_t hb hB16
  have K17_rx := hid hrx
  clear hrx
  clear hown
  have ne_a_u := (K17_a.out).lt
  have ne_b_u := (K17_b.out).lt
  have ne_lx_u := LentW.lt (K17_lx.out)
  have ne_x_u := (K17_x.out).lt
  have ne_p_u := (K17_p.out).lt
  have ne_q_u := (K17_q.out).lt
  have ne_r_u := (K17_r.out).lt
  have ne_m_u := (K17_m.out).lt
  have ne_s_u := (K17_s.out).lt
  have ne_t_u := (K17_t.out).lt
  have al : Below w17.heap.size w17 (w17.alloc (.cells #[.int .i64 q, .slice so_u r r] 24)) := (Below.refl _ _).alloc (Nat.le_refl _) _
  have K18_a := hid (At.alloc (K17_a.out) (.cells #[.int .i64 q, .slice so_u r r] 24))
  have K18_b := hid (At.alloc (K17_b.out) (.cells #[.int .i64 q, .slice so_u r r] 24))
  have K18_lx := hid (LentW.kept (K17_lx.out) al)
  have K18_fb := hid ((K17_fb.out).kept al)
  have K18_x := hid (At.alloc (K17_x.out) (.cells #[.int .i64 q, .slice so_u r r] 24))
  have K18_op := hid ((K17_op.out).kept al)
  have K18_p := hid (At.alloc (K17_p.out) (.cells #[.int .i64 q, .slice so_u r r] 24))
  have K18_oq := hid ((K17_oq.out).kept al)
  have K18_q := hid (At.alloc (K17_q.out) (.cells #[.int .i64 q, .slice so_u r r] 24))
  have K18_r := hid (At.alloc (K17_r.out) (.cells #[.int .i64 q, .slice so_u r r] 24))
  have K18_m := hid (At.alloc (K17_m.out) (.cells #[.int .i64 q, .slice so_u r r] 24))
  have K18_os := hid ((K17_os.out).kept al)
  have K18_s := hid (At.alloc (K17_s.out) (.cells #[.int .i64 q, .slice so_u r r] 24))
  have K18_ot := hid ((K17_ot.out).kept al)
  have K18_t := hid (At.alloc (K17_t.out) (.cells #[.int .i64 q, .slice so_u r r] 24))
  have K18_rx := hid ((K17_rx.out).kept al)
  have K18_u := hid (At.new w17 #[.int .i64 q, .slice so_u r r] 24)
  have hB18 := Below.alloc hB17 hB17.size (.cells #[.int .i64 q, .slice so_u r r] 24)
  clear al K17_a K17_b K17_lx K17_fb K17_x K17_op K17_p K17_oq K17_q K17_r K17_m K17_os K17_s K17_ot K17_t K17_rx hB17
  obtain ⟨c0_x, c1_x, f0_x, f1_x⟩ := (K18_x.out).facts
  go_wp2_with fail
  have s19_a := hid (K18_a.out).lt
  have s19_b := hid (K18_b.out).lt
  have s19_x := hid (K18_x.out).lt
  have s19_p := hid (K18_p.out).lt
  have s19_q := hid (K18_q.out).lt
  have s19_r := hid (K18_r.out).lt
  have s19_m := hid (K18_m.out).lt
  have s19_s := hid (K18_s.out).lt
  have s19_t := hid (K18_t.out).lt
  have s19_u := hid (K18_u.out).lt
  refine Calls.mono (xor_gives n n (some ⟨g, 0, none⟩) (some ⟨g, 0, none⟩) k k c c X X E q r hn'.out hn'.out (by omega) (by omega) hE _ (LentB.wds (K18_lx.out) hX.out) (LentB.wds (K18_lx.out) hX.out)) ?_
  rintro e w19 ⟨hb, so_w, hown, rfl⟩
  obtain ⟨F_w, hrx⟩ := rowsX_push (K18_rx.out) hb (K18_fb.out) hown
  have sx_w := hid (slX_own hown)
  clear c0_x c1_x f0_x f1_x
  have K19_a := hid (At.keptAll (K18_a.out) hb)
  have K19_b := hid (At.keptAll (K18_b.out) hb)
  have K19_lx := hid (LentW.kept (K18_lx.out) hb)
  have K19_fb := hid ((K18_fb.out).kept hb)
  have K19_x := hid (At.keptAll (K18_x.out) hb)
  have K19_op := hid ((K18_op.out).kept hb)
  have K19_p := hid (At.keptAll (K18_p.out) hb)
  have K19_oq := hid ((K18_oq.out).kept hb)
  have K19_q := hid (At.keptAll (K18_q.out) hb)
  have K19_r := hid (At.keptAll (K18_r.out) hb)
  have K19_m := hid (At.keptAll (K18_m.out) hb)
  have K19_os := hid ((K18_os.out).kept hb)
  have K19_s := hid (At.keptAll (K18_s.out) hb)
  have K19_ot := hid ((K18_ot.out).kept hb)
  have K19_t := hid (At.keptAll (K18_t.out) hb)
  have K19_u := hid (At.keptAll (K18_u.out) hb)
  have hB19 : Below w.heap.size w w19 := Below.trans hB18 (Below.mono hb hB18.size)
  clear K18_a K18_b K18_lx K18_fb K18_x K18_op K18_p K18_oq K18_q K18_r K18_m K18_os K18_s K18_ot K18_t K18_rx K18_u hb hB18
  have K19_rx := hid hrx
  clear hrx
  clear hown
  have ne_a_w := (K19_a.out).lt
  have ne_b_w := (K19_b.out).lt
  have ne_lx_w := LentW.lt (K19_lx.out)
  have ne_x_w := (K19_x.out).lt
  have ne_p_w := (K19_p.out).lt
  have ne_q_w := (K19_q.out).lt
  have ne_r_w := (K19_r.out).lt
  have ne_m_w := (K19_m.out).lt
  have ne_s_w := (K19_s.out).lt
  have ne_t_w := (K19_t.out).lt
  have ne_u_w := (K19_u.out).lt
  have al : Below w19.heap.size w19 (w19.alloc (.cells #[.int .i64 q, .slice so_w r r] 24)) := (Below.refl _ _).alloc (Nat.le_refl _) _
  have K20_a := hid (At.alloc (K19_a.out) (.cells #[.int .i64 q, .slice so_w r r] 24))
  have K20_b := hid (At.alloc (K19_b.out) (.cells #[.int .i64 q, .slice so_w r r] 24))
  have K20_lx := hid (LentW.kept (K19_lx.out) al)
  have K20_fb := hid ((K19_fb.out).kept al)
  have K20_x := hid (At.alloc (K19_x.out) (.cells #[.int .i64 q, .slice so_w r r] 24))
  have K20_op := hid ((K19_op.out).kept al)
  have K20_p := hid (At.alloc (K19_p.out) (.cells #[.int .i64 q, .slice so_w r r] 24))
  have K20_oq := hid ((K19_oq.out).kept al)
  have K20_q := hid (At.alloc (K19_q.out) (.cells #[.int .i64 q, .slice so_w r r] 24))
  have K20_r := hid (At.alloc (K19_r.out) (.cells #[.int .i64 q, .slice so_w r r] 24))
  have K20_m := hid (At.alloc (K19_m.out) (.cells #[.int .i64 q, .slice so_w r r] 24))
  have K20_os := hid ((K19_os.out).kept al)
  have K20_s := hid (At.alloc (K19_s.out) (.cells #[.int .i64 q, .slice so_w r r] 24))
  have K20_ot := hid ((K19_ot.out).kept al)
  have K20_t := hid (At.alloc (K19_t.out) (.cells #[.int .i64 q, .slice so_w r r] 24))
  have K20_u := hid (At.alloc (K19_u.out) (.cells #[.int .i64 q, .slice so_w r r] 24))
  have K20_rx := hid ((K19_rx.out).kept al)
  have K20_w := hid (At.new w19 #[.int .i64 q, .slice so_w r r] 24)
  have hB20 := Below.alloc hB19 hB19.size (.cells #[.int .i64 q, .slice so_w r r] 24)
  clear al K19_a K19_b K19_lx K19_fb K19_x K19_op K19_p K19_oq K19_q K19_r K19_m K19_os K19_s K19_ot K19_t K19_u K19_rx hB19
  obtain ⟨c0_x, c1_x, f0_x, f1_x⟩ := (K20_x.out).facts
  go_wp2_with fail
  have s21_a := hid (K20_a.out).lt
  have s21_b := hid (K20_b.out).lt
  have s21_x := hid (K20_x.out).lt
  have s21_p := hid (K20_p.out).lt
  have s21_q := hid (K20_q.out).lt
  have s21_r := hid (K20_r.out).lt
  have s21_m := hid (K20_m.out).lt
  have s21_s := hid (K20_s.out).lt
  have s21_t := hid (K20_t.out).lt
  have s21_u := hid (K20_u.out).lt
  have s21_w := hid (K20_w.out).lt
  refine Calls.mono (minus_gives n n (some ⟨g, 0, none⟩) (some ⟨g, 0, none⟩) k k c c X X E q r hn'.out hn'.out (by omega) (by omega) hE _ (LentB.wds (K20_lx.out) hX.out) (LentB.wds (K20_lx.out) hX.out)) ?_
  rintro e w21 ⟨hb, so_v, hown, rfl⟩
  obtain ⟨F_v, hrx⟩ := rowsX_push (K20_rx.out) hb (K20_fb.out) hown
  have sx_v := hid (slX_own hown)
  clear c0_x c1_x f0_x f1_x
  have K21_a := hid (At.keptAll (K20_a.out) hb)
  have K21_b := hid (At.keptAll (K20_b.out) hb)
  have K21_lx := hid (LentW.kept (K20_lx.out) hb)
  have K21_fb := hid ((K20_fb.out).kept hb)
  have K21_x := hid (At.keptAll (K20_x.out) hb)
  have K21_op := hid ((K20_op.out).kept hb)
  have K21_p := hid (At.keptAll (K20_p.out) hb)
  have K21_oq := hid ((K20_oq.out).kept hb)
  have K21_q := hid (At.keptAll (K20_q.out) hb)
  have K21_r := hid (At.keptAll (K20_r.out) hb)
  have K21_m := hid (At.keptAll (K20_m.out) hb)
  have K21_os := hid ((K20_os.out).kept hb)
  have K21_s := hid (At.keptAll (K20_s.out) hb)
  have K21_ot := hid ((K20_ot.out).kept hb)
  have K21_t := hid (At.keptAll (K20_t.out) hb)
  have K21_u := hid (At.keptAll (K20_u.out) hb)
  have K21_w := hid (At.keptAll (K20_w.out) hb)
  have hB21 : Below w.heap.size w w21 := Below.trans hB20 (Below.mono hb hB20.size)
  clear K20_a K20_b K20_lx K20_fb K20_x K20_op K20_p K20_oq K20_q K20_r K20_m K20_os K20_s K20_ot K20_t K20_u K20_rx K20_w hb hB20
  have K21_rx := hid hrx
  clear hrx
  clear hown
  have ne_a_v := (K21_a.out).lt
  have ne_b_v := (K21_b.out).lt
  have ne_lx_v := LentW.lt (K21_lx.out)
  have ne_x_v := (K21_x.out).lt
  have ne_p_v := (K21_p.out).lt
  have ne_q_v := (K21_q.out).lt
  have ne_r_v := (K21_r.out).lt
  have ne_m_v := (K21_m.out).lt
  have ne_s_v := (K21_s.out).lt
  have ne_t_v := (K21_t.out).lt
  have ne_u_v := (K21_u.out).lt
  have ne_w_v := (K21_w.out).lt
  have al : Below w21.heap.size w21 (w21.alloc (.cells #[.int .i64 q, .slice so_v r r] 24)) := (Below.refl _ _).alloc (Nat.le_refl _) _
  have K22_a := hid (At.alloc (K21_a.out) (.cells #[.int .i64 q, .slice so_v r r] 24))
  have K22_b := hid (At.alloc (K21_b.out) (.cells #[.int .i64 q, .slice so_v r r] 24))
  have K22_lx := hid (LentW.kept (K21_lx.out) al)
  have K22_fb := hid ((K21_fb.out).kept al)
  have K22_x := hid (At.alloc (K21_x.out) (.cells #[.int .i64 q, .slice so_v r r] 24))
  have K22_op := hid ((K21_op.out).kept al)
  have K22_p := hid (At.alloc (K21_p.out) (.cells #[.int .i64 q, .slice so_v r r] 24))
  have K22_oq := hid ((K21_oq.out).kept al)
  have K22_q := hid (At.alloc (K21_q.out) (.cells #[.int .i64 q, .slice so_v r r] 24))
  have K22_r := hid (At.alloc (K21_r.out) (.cells #[.int .i64 q, .slice so_v r r] 24))
  have K22_m := hid (At.alloc (K21_m.out) (.cells #[.int .i64 q, .slice so_v r r] 24))
  have K22_os := hid ((K21_os.out).kept al)
  have K22_s := hid (At.alloc (K21_s.out) (.cells #[.int .i64 q, .slice so_v r r] 24))
  have K22_ot := hid ((K21_ot.out).kept al)
  have K22_t := hid (At.alloc (K21_t.out) (.cells #[.int .i64 q, .slice so_v r r] 24))
  have K22_u := hid (At.alloc (K21_u.out) (.cells #[.int .i64 q, .slice so_v r r] 24))
  have K22_w := hid (At.alloc (K21_w.out) (.cells #[.int .i64 q, .slice so_v r r] 24))
  have K22_rx := hid ((K21_rx.out).kept al)
  have K22_v := hid (At.new w21 #[.int .i64 q, .slice so_v r r] 24)
  have hB22 := Below.alloc hB21 hB21.size (.cells #[.int .i64 q, .slice so_v r r] 24)
  clear al K21_a K21_b K21_lx K21_fb K21_x K21_op K21_p K21_oq K21_q K21_r K21_m K21_os K21_s K21_ot K21_t K21_u K21_w K21_rx hB21
  go_upto_region 14 with fail
  obtain ⟨V1, hV1⟩ : ∃ V1, (w21.alloc (.cells #[.int .i64 q, .slice so_v r r] 24)) = V1 := ⟨_, rfl⟩
  rw [hV1] at K22_a K22_b K22_lx K22_fb K22_x K22_op K22_p K22_oq K22_q K22_r K22_m K22_os K22_s K22_ot K22_t K22_u K22_w K22_rx K22_v hB22
  rw [hV1]
  clear hV1
  go_cut [118] from 88 to 117 (fun b wx => b = .bool false ∧ FromW V1 wx)
  case first => as_aux_lemma =>
    rcases hself.out with hE0 | ⟨hE0, hqn, hrk, hZ⟩
    · have e1 : (E == 0) = false := by simp [hE0]
      clear hE0
      have K_fw := hid (FromW.refl V1)
      obtain ⟨c0_p, c1_p, f0_p, f1_p⟩ := (K22_p.out).facts
      obtain ⟨c0_s, c1_s, f0_s, f1_s⟩ := (K22_s.out).facts
      go_wp2_with fail
      have s23_a := hid (K22_a.out).lt
      have s23_b := hid (K22_b.out).lt
      have s23_x := hid (K22_x.out).lt
      have s23_p := hid (K22_p.out).lt
      have s23_q := hid (K22_q.out).lt
      have s23_r := hid (K22_r.out).lt
      have s23_m := hid (K22_m.out).lt
      have s23_s := hid (K22_s.out).lt
      have s23_t := hid (K22_t.out).lt
      have s23_u := hid (K22_u.out).lt
      have s23_w := hid (K22_w.out).lt
      have s23_v := hid (K22_v.out).lt
      refine Calls.mono (same_true q so_p so_s r r r (rowOf (fun i => bitAt X i && bitAt X i) n.toNat) hq.out (by omega) _ ((K22_op.out).wds (fun _ _ => rowOf_lt _ _ _)) ((K22_os.out).wds (fun _ _ => rowOf_lt _ _ _))) ?_
      rintro e w23 ⟨rfl, hb⟩
      clear c0_p c1_p f0_p f1_p c0_s c1_s f0_s f1_s
      have K23_a := hid (At.keptAll (K22_a.out) hb)
      have K23_b := hid (At.keptAll (K22_b.out) hb)
      have K23_lx := hid (LentW.kept (K22_lx.out) hb)
      have K23_fb := hid ((K22_fb.out).kept hb)
      have K23_x := hid (At.keptAll (K22_x.out) hb)
      have K23_op := hid ((K22_op.out).kept hb)
      have K23_p := hid (At.keptAll (K22_p.out) hb)
      have K23_oq := hid ((K22_oq.out).kept hb)
      have K23_q := hid (At.keptAll (K22_q.out) hb)
      have K23_r := hid (At.keptAll (K22_r.out) hb)
      have K23_m := hid (At.keptAll (K22_m.out) hb)
      have K23_os := hid ((K22_os.out).kept hb)
      have K23_s := hid (At.keptAll (K22_s.out) hb)
      have K23_ot := hid ((K22_ot.out).kept hb)
      have K23_t := hid (At.keptAll (K22_t.out) hb)
      have K23_u := hid (At.keptAll (K22_u.out) hb)
      have K23_w := hid (At.keptAll (K22_w.out) hb)
      have K23_rx := hid ((K22_rx.out).kept hb)
      have K23_v := hid (At.keptAll (K22_v.out) hb)
      have K23_fw := hid ((K_fw.out).kept hb)
      have hB23 : Below w.heap.size w w23 := Below.trans hB22 (Below.mono hb hB22.size)
      clear K22_a K22_b K22_lx K22_fb K22_x K22_op K22_p K22_oq K22_q K22_r K22_m K22_os K22_s K22_ot K22_t K22_u K22_w K22_rx K22_v K_fw hb hB22
      obtain ⟨c0_q, c1_q, f0_q, f1_q⟩ := (K23_q.out).facts
      obtain ⟨c0_t, c1_t, f0_t, f1_t⟩ := (K23_t.out).facts
      go_wp2_with fail
      have s24_a := hid (K23_a.out).lt
      have s24_b := hid (K23_b.out).lt
      have s24_x := hid (K23_x.out).lt
      have s24_p := hid (K23_p.out).lt
      have s24_q := hid (K23_q.out).lt
      have s24_r := hid (K23_r.out).lt
      have s24_m := hid (K23_m.out).lt
      have s24_s := hid (K23_s.out).lt
      have s24_t := hid (K23_t.out).lt
      have s24_u := hid (K23_u.out).lt
      have s24_w := hid (K23_w.out).lt
      have s24_v := hid (K23_v.out).lt
      refine Calls.mono (same_true q2 so_q so_t r2 r2 r2 (rowOf (fun i => !bitAt X i) n.toNat) hq2.out (by omega) _ ((K23_oq.out).wds (fun _ _ => rowOf_lt _ _ _)) ((K23_ot.out).wds (fun _ _ => rowOf_lt _ _ _))) ?_
      rintro e w24 ⟨rfl, hb⟩
      clear c0_q c1_q f0_q f1_q c0_t c1_t f0_t f1_t
      have K24_a := hid (At.keptAll (K23_a.out) hb)
      have K24_b := hid (At.keptAll (K23_b.out) hb)
      have K24_lx := hid (LentW.kept (K23_lx.out) hb)
      have K24_fb := hid ((K23_fb.out).kept hb)
      have K24_x := hid (At.keptAll (K23_x.out) hb)
      have K24_op := hid ((K23_op.out).kept hb)
      have K24_p := hid (At.keptAll (K23_p.out) hb)
      have K24_oq := hid ((K23_oq.out).kept hb)
      have K24_q := hid (At.keptAll (K23_q.out) hb)
      have K24_r := hid (At.keptAll (K23_r.out) hb)
      have K24_m := hid (At.keptAll (K23_m.out) hb)
      have K24_os := hid ((K23_os.out).kept hb)
      have K24_s := hid (At.keptAll (K23_s.out) hb)
      have K24_ot := hid ((K23_ot.out).kept hb)
      have K24_t := hid (At.keptAll (K23_t.out) hb)
      have K24_u := hid (At.keptAll (K23_u.out) hb)
      have K24_w := hid (At.keptAll (K23_w.out) hb)
      have K24_rx := hid ((K23_rx.out).kept hb)
      have K24_v := hid (At.keptAll (K23_v.out) hb)
      have K24_fw := hid ((K23_fw.out).kept hb)
      have hB24 : Below w.heap.size w w24 := Below.trans hB23 (Below.mono hb hB23.size)
      clear K23_a K23_b K23_lx K23_fb K23_x K23_op K23_p K23_oq K23_q K23_r K23_m K23_os K23_s K23_ot K23_t K23_u K23_w K23_rx K23_v K23_fw hb hB23
      obtain ⟨c0_x, c1_x, f0_x, f1_x⟩ := (K24_x.out).facts
      obtain ⟨c0_a, c1_a, f0_a, f1_a⟩ := (K24_a.out).facts
      go_wp2_with fail
      have s25_a := hid (K24_a.out).lt
      have s25_b := hid (K24_b.out).lt
      have s25_x := hid (K24_x.out).lt
      have s25_p := hid (K24_p.out).lt
      have s25_q := hid (K24_q.out).lt
      have s25_r := hid (K24_r.out).lt
      have s25_m := hid (K24_m.out).lt
      have s25_s := hid (K24_s.out).lt
      have s25_t := hid (K24_t.out).lt
      have s25_u := hid (K24_u.out).lt
      have s25_w := hid (K24_w.out).lt
      have s25_v := hid (K24_v.out).lt
      refine Calls.mono (keptB_calls n ao k cap g c X (by omega) _ (K24_lx.out) (hW'.out.kept hB24)) ?_
      rintro e w25 ⟨rfl, hb⟩
      clear c0_x c1_x f0_x f1_x c0_a c1_a f0_a f1_a
      have K25_a := hid (At.keptAll (K24_a.out) hb)
      have K25_b := hid (At.keptAll (K24_b.out) hb)
      have K25_lx := hid (LentW.kept (K24_lx.out) hb)
      have K25_fb := hid ((K24_fb.out).kept hb)
      have K25_x := hid (At.keptAll (K24_x.out) hb)
      have K25_op := hid ((K24_op.out).kept hb)
      have K25_p := hid (At.keptAll (K24_p.out) hb)
      have K25_oq := hid ((K24_oq.out).kept hb)
      have K25_q := hid (At.keptAll (K24_q.out) hb)
      have K25_r := hid (At.keptAll (K24_r.out) hb)
      have K25_m := hid (At.keptAll (K24_m.out) hb)
      have K25_os := hid ((K24_os.out).kept hb)
      have K25_s := hid (At.keptAll (K24_s.out) hb)
      have K25_ot := hid ((K24_ot.out).kept hb)
      have K25_t := hid (At.keptAll (K24_t.out) hb)
      have K25_u := hid (At.keptAll (K24_u.out) hb)
      have K25_w := hid (At.keptAll (K24_w.out) hb)
      have K25_rx := hid ((K24_rx.out).kept hb)
      have K25_v := hid (At.keptAll (K24_v.out) hb)
      have K25_fw := hid ((K24_fw.out).kept hb)
      have hB25 : Below w.heap.size w w25 := Below.trans hB24 (Below.mono hb hB24.size)
      clear K24_a K24_b K24_lx K24_fb K24_x K24_op K24_p K24_oq K24_q K24_r K24_m K24_os K24_s K24_ot K24_t K24_u K24_w K24_rx K24_v K24_fw hb hB24
      go_wp2
      go_meet
      case rel => exact ⟨rfl, K25_fw.out⟩
    · have e1 : (E == 0) = true := by simp [hE0]
      clear hE0
      have hqn' := hid hqn
      have hrk' := hid hrk
      have hZ' := hid hZ
      clear hqn hrk hZ
      have K_fw := hid (FromW.refl V1)
      obtain ⟨c0_p, c1_p, f0_p, f1_p⟩ := (K22_p.out).facts
      obtain ⟨c0_s, c1_s, f0_s, f1_s⟩ := (K22_s.out).facts
      go_wp2_with fail
      have s23_a := hid (K22_a.out).lt
      have s23_b := hid (K22_b.out).lt
      have s23_x := hid (K22_x.out).lt
      have s23_p := hid (K22_p.out).lt
      have s23_q := hid (K22_q.out).lt
      have s23_r := hid (K22_r.out).lt
      have s23_m := hid (K22_m.out).lt
      have s23_s := hid (K22_s.out).lt
      have s23_t := hid (K22_t.out).lt
      have s23_u := hid (K22_u.out).lt
      have s23_w := hid (K22_w.out).lt
      have s23_v := hid (K22_v.out).lt
      refine Calls.mono (same_true q so_p so_s r r r (rowOf (fun i => bitAt X i && bitAt X i) n.toNat) hq.out (by omega) _ ((K22_op.out).wds (fun _ _ => rowOf_lt _ _ _)) ((K22_os.out).wds (fun _ _ => rowOf_lt _ _ _))) ?_
      rintro e w23 ⟨rfl, hb⟩
      clear c0_p c1_p f0_p f1_p c0_s c1_s f0_s f1_s
      have K23_a := hid (At.keptAll (K22_a.out) hb)
      have K23_b := hid (At.keptAll (K22_b.out) hb)
      have K23_lx := hid (LentW.kept (K22_lx.out) hb)
      have K23_fb := hid ((K22_fb.out).kept hb)
      have K23_x := hid (At.keptAll (K22_x.out) hb)
      have K23_op := hid ((K22_op.out).kept hb)
      have K23_p := hid (At.keptAll (K22_p.out) hb)
      have K23_oq := hid ((K22_oq.out).kept hb)
      have K23_q := hid (At.keptAll (K22_q.out) hb)
      have K23_r := hid (At.keptAll (K22_r.out) hb)
      have K23_m := hid (At.keptAll (K22_m.out) hb)
      have K23_os := hid ((K22_os.out).kept hb)
      have K23_s := hid (At.keptAll (K22_s.out) hb)
      have K23_ot := hid ((K22_ot.out).kept hb)
      have K23_t := hid (At.keptAll (K22_t.out) hb)
      have K23_u := hid (At.keptAll (K22_u.out) hb)
      have K23_w := hid (At.keptAll (K22_w.out) hb)
      have K23_rx := hid ((K22_rx.out).kept hb)
      have K23_v := hid (At.keptAll (K22_v.out) hb)
      have K23_fw := hid ((K_fw.out).kept hb)
      have hB23 : Below w.heap.size w w23 := Below.trans hB22 (Below.mono hb hB22.size)
      clear K22_a K22_b K22_lx K22_fb K22_x K22_op K22_p K22_oq K22_q K22_r K22_m K22_os K22_s K22_ot K22_t K22_u K22_w K22_rx K22_v K_fw hb hB22
      obtain ⟨c0_q, c1_q, f0_q, f1_q⟩ := (K23_q.out).facts
      obtain ⟨c0_t, c1_t, f0_t, f1_t⟩ := (K23_t.out).facts
      go_wp2_with fail
      have s24_a := hid (K23_a.out).lt
      have s24_b := hid (K23_b.out).lt
      have s24_x := hid (K23_x.out).lt
      have s24_p := hid (K23_p.out).lt
      have s24_q := hid (K23_q.out).lt
      have s24_r := hid (K23_r.out).lt
      have s24_m := hid (K23_m.out).lt
      have s24_s := hid (K23_s.out).lt
      have s24_t := hid (K23_t.out).lt
      have s24_u := hid (K23_u.out).lt
      have s24_w := hid (K23_w.out).lt
      have s24_v := hid (K23_v.out).lt
      refine Calls.mono (same_true q2 so_q so_t r2 r2 r2 (rowOf (fun i => !bitAt X i) n.toNat) hq2.out (by omega) _ ((K23_oq.out).wds (fun _ _ => rowOf_lt _ _ _)) ((K23_ot.out).wds (fun _ _ => rowOf_lt _ _ _))) ?_
      rintro e w24 ⟨rfl, hb⟩
      clear c0_q c1_q f0_q f1_q c0_t c1_t f0_t f1_t
      have K24_a := hid (At.keptAll (K23_a.out) hb)
      have K24_b := hid (At.keptAll (K23_b.out) hb)
      have K24_lx := hid (LentW.kept (K23_lx.out) hb)
      have K24_fb := hid ((K23_fb.out).kept hb)
      have K24_x := hid (At.keptAll (K23_x.out) hb)
      have K24_op := hid ((K23_op.out).kept hb)
      have K24_p := hid (At.keptAll (K23_p.out) hb)
      have K24_oq := hid ((K23_oq.out).kept hb)
      have K24_q := hid (At.keptAll (K23_q.out) hb)
      have K24_r := hid (At.keptAll (K23_r.out) hb)
      have K24_m := hid (At.keptAll (K23_m.out) hb)
      have K24_os := hid ((K23_os.out).kept hb)
      have K24_s := hid (At.keptAll (K23_s.out) hb)
      have K24_ot := hid ((K23_ot.out).kept hb)
      have K24_t := hid (At.keptAll (K23_t.out) hb)
      have K24_u := hid (At.keptAll (K23_u.out) hb)
      have K24_w := hid (At.keptAll (K23_w.out) hb)
      have K24_rx := hid ((K23_rx.out).kept hb)
      have K24_v := hid (At.keptAll (K23_v.out) hb)
      have K24_fw := hid ((K23_fw.out).kept hb)
      have hB24 : Below w.heap.size w w24 := Below.trans hB23 (Below.mono hb hB23.size)
      clear K23_a K23_b K23_lx K23_fb K23_x K23_op K23_p K23_oq K23_q K23_r K23_m K23_os K23_s K23_ot K23_t K23_u K23_w K23_rx K23_v K23_fw hb hB23
      obtain ⟨c0_x, c1_x, f0_x, f1_x⟩ := (K24_x.out).facts
      obtain ⟨c0_a, c1_a, f0_a, f1_a⟩ := (K24_a.out).facts
      go_wp2_with fail
      have s25_a := hid (K24_a.out).lt
      have s25_b := hid (K24_b.out).lt
      have s25_x := hid (K24_x.out).lt
      have s25_p := hid (K24_p.out).lt
      have s25_q := hid (K24_q.out).lt
      have s25_r := hid (K24_r.out).lt
      have s25_m := hid (K24_m.out).lt
      have s25_s := hid (K24_s.out).lt
      have s25_t := hid (K24_t.out).lt
      have s25_u := hid (K24_u.out).lt
      have s25_w := hid (K24_w.out).lt
      have s25_v := hid (K24_v.out).lt
      refine Calls.mono (keptB_calls n ao k cap g c X (by omega) _ (K24_lx.out) (hW'.out.kept hB24)) ?_
      rintro e w25 ⟨rfl, hb⟩
      clear c0_x c1_x f0_x f1_x c0_a c1_a f0_a f1_a
      have K25_a := hid (At.keptAll (K24_a.out) hb)
      have K25_b := hid (At.keptAll (K24_b.out) hb)
      have K25_lx := hid (LentW.kept (K24_lx.out) hb)
      have K25_fb := hid ((K24_fb.out).kept hb)
      have K25_x := hid (At.keptAll (K24_x.out) hb)
      have K25_op := hid ((K24_op.out).kept hb)
      have K25_p := hid (At.keptAll (K24_p.out) hb)
      have K25_oq := hid ((K24_oq.out).kept hb)
      have K25_q := hid (At.keptAll (K24_q.out) hb)
      have K25_r := hid (At.keptAll (K24_r.out) hb)
      have K25_m := hid (At.keptAll (K24_m.out) hb)
      have K25_os := hid ((K24_os.out).kept hb)
      have K25_s := hid (At.keptAll (K24_s.out) hb)
      have K25_ot := hid ((K24_ot.out).kept hb)
      have K25_t := hid (At.keptAll (K24_t.out) hb)
      have K25_u := hid (At.keptAll (K24_u.out) hb)
      have K25_w := hid (At.keptAll (K24_w.out) hb)
      have K25_rx := hid ((K24_rx.out).kept hb)
      have K25_v := hid (At.keptAll (K24_v.out) hb)
      have K25_fw := hid ((K24_fw.out).kept hb)
      have hB25 : Below w.heap.size w w25 := Below.trans hB24 (Below.mono hb hB24.size)
      clear K24_a K24_b K24_lx K24_fb K24_x K24_op K24_p K24_oq K24_q K24_r K24_m K24_os K24_s K24_ot K24_t K24_u K24_w K24_rx K24_v K24_fw hb hB24
      obtain ⟨c0_p, c1_p, f0_p, f1_p⟩ := (K25_p.out).facts
      obtain ⟨c0_a, c1_a, f0_a, f1_a⟩ := (K25_a.out).facts
      go_wp2_with fail
      have s26_a := hid (K25_a.out).lt
      have s26_b := hid (K25_b.out).lt
      have s26_x := hid (K25_x.out).lt
      have s26_p := hid (K25_p.out).lt
      have s26_q := hid (K25_q.out).lt
      have s26_r := hid (K25_r.out).lt
      have s26_m := hid (K25_m.out).lt
      have s26_s := hid (K25_s.out).lt
      have s26_t := hid (K25_t.out).lt
      have s26_u := hid (K25_u.out).lt
      have s26_w := hid (K25_w.out).lt
      have s26_v := hid (K25_v.out).lt
      refine Calls.mono (same_calls q n so_p ao r k r cap (rowOf (fun i => bitAt X i && bitAt X i) n.toNat) X true hq.out hn'.out (by omega) (by omega) ⟨fun _ => rfl, fun _ => ⟨hqn'.out, hrk'.out, hZ'.out⟩⟩ _ ((K25_op.out).wds (fun _ _ => rowOf_lt _ _ _)) (hW'.out.kept hB25)) ?_
      rintro e w26 ⟨rfl, hb⟩
      clear c0_p c1_p f0_p f1_p c0_a c1_a f0_a f1_a
      have K26_a := hid (At.keptAll (K25_a.out) hb)
      have K26_b := hid (At.keptAll (K25_b.out) hb)
      have K26_lx := hid (LentW.kept (K25_lx.out) hb)
      have K26_fb := hid ((K25_fb.out).kept hb)
      have K26_x := hid (At.keptAll (K25_x.out) hb)
      have K26_op := hid ((K25_op.out).kept hb)
      have K26_p := hid (At.keptAll (K25_p.out) hb)
      have K26_oq := hid ((K25_oq.out).kept hb)
      have K26_q := hid (At.keptAll (K25_q.out) hb)
      have K26_r := hid (At.keptAll (K25_r.out) hb)
      have K26_m := hid (At.keptAll (K25_m.out) hb)
      have K26_os := hid ((K25_os.out).kept hb)
      have K26_s := hid (At.keptAll (K25_s.out) hb)
      have K26_ot := hid ((K25_ot.out).kept hb)
      have K26_t := hid (At.keptAll (K25_t.out) hb)
      have K26_u := hid (At.keptAll (K25_u.out) hb)
      have K26_w := hid (At.keptAll (K25_w.out) hb)
      have K26_rx := hid ((K25_rx.out).kept hb)
      have K26_v := hid (At.keptAll (K25_v.out) hb)
      have K26_fw := hid ((K25_fw.out).kept hb)
      have hB26 : Below w.heap.size w w26 := Below.trans hB25 (Below.mono hb hB25.size)
      clear K25_a K25_b K25_lx K25_fb K25_x K25_op K25_p K25_oq K25_q K25_r K25_m K25_os K25_s K25_ot K25_t K25_u K25_w K25_rx K25_v K25_fw hb hB25
      go_wp2
      go_meet
      case rel => exact ⟨rfl, K26_fw.out⟩
  case rest => as_aux_lemma =>
    obtain ⟨rfl, hcw⟩ := hcut
    obtain ⟨w23, rfl⟩ : ∃ w23, w23 = wc := ⟨_, rfl⟩
    have hb : Below V1.heap.size V1 w23 := hcw
    clear hcw
    have K23_a := hid (At.keptAll (K22_a.out) hb)
    have K23_b := hid (At.keptAll (K22_b.out) hb)
    have K23_lx := hid (LentW.kept (K22_lx.out) hb)
    have K23_fb := hid ((K22_fb.out).kept hb)
    have K23_x := hid (At.keptAll (K22_x.out) hb)
    have K23_op := hid ((K22_op.out).kept hb)
    have K23_p := hid (At.keptAll (K22_p.out) hb)
    have K23_oq := hid ((K22_oq.out).kept hb)
    have K23_q := hid (At.keptAll (K22_q.out) hb)
    have K23_r := hid (At.keptAll (K22_r.out) hb)
    have K23_m := hid (At.keptAll (K22_m.out) hb)
    have K23_os := hid ((K22_os.out).kept hb)
    have K23_s := hid (At.keptAll (K22_s.out) hb)
    have K23_ot := hid ((K22_ot.out).kept hb)
    have K23_t := hid (At.keptAll (K22_t.out) hb)
    have K23_u := hid (At.keptAll (K22_u.out) hb)
    have K23_w := hid (At.keptAll (K22_w.out) hb)
    have K23_rx := hid ((K22_rx.out).kept hb)
    have K23_v := hid (At.keptAll (K22_v.out) hb)
    have hB23 : Below w.heap.size w w23 := Below.trans hB22 (Below.mono hb hB22.size)
    clear K22_a K22_b K22_lx K22_fb K22_x K22_op K22_p K22_oq K22_q K22_r K22_m K22_os K22_s K22_ot K22_t K22_u K22_w K22_rx K22_v hb hB22
    obtain ⟨c0_x, c1_x, f0_x, f1_x⟩ := (K23_x.out).facts
    go_wp2_with fail
    have s24_a := hid (K23_a.out).lt
    have s24_b := hid (K23_b.out).lt
    have s24_x := hid (K23_x.out).lt
    have s24_p := hid (K23_p.out).lt
    have s24_q := hid (K23_q.out).lt
    have s24_r := hid (K23_r.out).lt
    have s24_m := hid (K23_m.out).lt
    have s24_s := hid (K23_s.out).lt
    have s24_t := hid (K23_t.out).lt
    have s24_u := hid (K23_u.out).lt
    have s24_w := hid (K23_w.out).lt
    have s24_v := hid (K23_v.out).lt
    refine Calls.mono (overB_calls n g c k _ (by omega) _ (K23_lx.out)) ?_
    rintro e w24 ⟨⟨v0, rfl⟩, hO⟩
    clear c0_x c1_x f0_x f1_x
    have al : Below w23.heap.size w23 (w23.alloc (.cells #[.int .i64 n, .slice (some ⟨g, 0, none⟩) k c] 24)) := (Below.refl _ _).alloc (Nat.le_refl _) _
    have hgb' := hgb.out
    have K24_a := hid (hO.2.2.1 _ _ _ (by show w.heap.size ≠ g; omega) (At.alloc (K23_a.out) (.cells #[.int .i64 n, .slice (some ⟨g, 0, none⟩) k c] 24)))
    have K24_b := hid (hO.2.2.1 _ _ _ (by show (w.heap.size + 1) ≠ g; omega) (At.alloc (K23_b.out) (.cells #[.int .i64 n, .slice (some ⟨g, 0, none⟩) k c] 24)))
    have K24_fb := hid ((show FromB b0 w24 from by have h := (K23_fb.out).kept al; unfold FromB at h ⊢; rw [hO.2.2.2]; exact h))
    have K24_x := hid (hO.2.2.1 _ _ _ (by show w2.heap.size ≠ g; omega) (At.alloc (K23_x.out) (.cells #[.int .i64 n, .slice (some ⟨g, 0, none⟩) k c] 24)))
    have K24_op := hid (hO.own ((K23_op.out).kept al) gb_p.out)
    have K24_p := hid (hO.2.2.1 _ _ _ (by show w4.heap.size ≠ g; omega) (At.alloc (K23_p.out) (.cells #[.int .i64 n, .slice (some ⟨g, 0, none⟩) k c] 24)))
    have K24_oq := hid (hO.own ((K23_oq.out).kept al) gb_q.out)
    have K24_q := hid (hO.2.2.1 _ _ _ (by show w6.heap.size ≠ g; omega) (At.alloc (K23_q.out) (.cells #[.int .i64 n, .slice (some ⟨g, 0, none⟩) k c] 24)))
    have K24_r := hid (hO.2.2.1 _ _ _ (by show w8.heap.size ≠ g; omega) (At.alloc (K23_r.out) (.cells #[.int .i64 n, .slice (some ⟨g, 0, none⟩) k c] 24)))
    have K24_m := hid (hO.2.2.1 _ _ _ (by show w10.heap.size ≠ g; omega) (At.alloc (K23_m.out) (.cells #[.int .i64 n, .slice (some ⟨g, 0, none⟩) k c] 24)))
    have K24_os := hid (hO.own ((K23_os.out).kept al) gb_s.out)
    have K24_s := hid (hO.2.2.1 _ _ _ (by show w13.heap.size ≠ g; omega) (At.alloc (K23_s.out) (.cells #[.int .i64 n, .slice (some ⟨g, 0, none⟩) k c] 24)))
    have K24_ot := hid (hO.own ((K23_ot.out).kept al) gb_t.out)
    have K24_t := hid (hO.2.2.1 _ _ _ (by show w15.heap.size ≠ g; omega) (At.alloc (K23_t.out) (.cells #[.int .i64 n, .slice (some ⟨g, 0, none⟩) k c] 24)))
    have K24_u := hid (hO.2.2.1 _ _ _ (by show w17.heap.size ≠ g; omega) (At.alloc (K23_u.out) (.cells #[.int .i64 n, .slice (some ⟨g, 0, none⟩) k c] 24)))
    have K24_w := hid (hO.2.2.1 _ _ _ (by show w19.heap.size ≠ g; omega) (At.alloc (K23_w.out) (.cells #[.int .i64 n, .slice (some ⟨g, 0, none⟩) k c] 24)))
    have K24_rx := hid (hO.rows ((K23_rx.out).kept al) hgb0.out)
    have K24_v := hid (hO.2.2.1 _ _ _ (by show w21.heap.size ≠ g; omega) (At.alloc (K23_v.out) (.cells #[.int .i64 n, .slice (some ⟨g, 0, none⟩) k c] 24)))
    have hB24 : Below w.heap.size w w24 := (hB23.alloc hB23.size (.cells #[.int .i64 n, .slice (some ⟨g, 0, none⟩) k c] 24)).trans (hO.below hgw.out)
    have K24_ov := hid (hO.wds (k := k) (by omega) (by omega))
    clear al hO hgb' hB23 K23_a K23_b K23_lx K23_fb K23_x K23_op K23_p K23_oq K23_q K23_r K23_m K23_os K23_s K23_ot K23_t K23_u K23_w K23_rx K23_v
    obtain ⟨c0_x, c1_x, f0_x, f1_x⟩ := (K24_x.out).facts
    go_wp2_with fail
    have s25_a := hid (K24_a.out).lt
    have s25_b := hid (K24_b.out).lt
    have s25_x := hid (K24_x.out).lt
    have s25_p := hid (K24_p.out).lt
    have s25_q := hid (K24_q.out).lt
    have s25_r := hid (K24_r.out).lt
    have s25_m := hid (K24_m.out).lt
    have s25_s := hid (K24_s.out).lt
    have s25_t := hid (K24_t.out).lt
    have s25_u := hid (K24_u.out).lt
    have s25_w := hid (K24_w.out).lt
    have s25_v := hid (K24_v.out).lt
    refine Calls.mono (and_gives n n (some ⟨g, 0, none⟩) (some ⟨g, 0, none⟩) k k c c (fun j => 9000027 + j) (fun j => 9000027 + j) E4 q4 r4 hn'.out hn'.out (by omega) (by omega) hE4 _ (K24_ov.out) (K24_ov.out)) ?_
    rintro e w25 ⟨hb, so_one, hown, rfl⟩
    obtain ⟨F_one, hrx⟩ := rowsX_push (K24_rx.out) hb (K24_fb.out) hown
    have sx_one := hid (slX_own hown)
    skip
    clear c0_x c1_x f0_x f1_x
    have K25_a := hid (At.keptAll (K24_a.out) hb)
    have K25_b := hid (At.keptAll (K24_b.out) hb)
    have K25_fb := hid ((K24_fb.out).kept hb)
    have K25_x := hid (At.keptAll (K24_x.out) hb)
    have K25_op := hid ((K24_op.out).kept hb)
    have K25_p := hid (At.keptAll (K24_p.out) hb)
    have K25_oq := hid ((K24_oq.out).kept hb)
    have K25_q := hid (At.keptAll (K24_q.out) hb)
    have K25_r := hid (At.keptAll (K24_r.out) hb)
    have K25_m := hid (At.keptAll (K24_m.out) hb)
    have K25_os := hid ((K24_os.out).kept hb)
    have K25_s := hid (At.keptAll (K24_s.out) hb)
    have K25_ot := hid ((K24_ot.out).kept hb)
    have K25_t := hid (At.keptAll (K24_t.out) hb)
    have K25_u := hid (At.keptAll (K24_u.out) hb)
    have K25_w := hid (At.keptAll (K24_w.out) hb)
    have K25_v := hid (At.keptAll (K24_v.out) hb)
    have K25_ov := hid ((K24_ov.out).kept hb)
    have hB25 : Below w.heap.size w w25 := Below.trans hB24 (Below.mono hb hB24.size)
    clear K24_a K24_b K24_fb K24_x K24_op K24_p K24_oq K24_q K24_r K24_m K24_os K24_s K24_ot K24_t K24_u K24_w K24_rx K24_v K24_ov hb hB24
    have K25_rx := hid hrx
    clear hrx
    have K25_oone := hid hown
    clear hown
    have ne_a_one := (K25_a.out).lt
    have ne_b_one := (K25_b.out).lt
    have ne_x_one := (K25_x.out).lt
    have ne_p_one := (K25_p.out).lt
    have ne_q_one := (K25_q.out).lt
    have ne_r_one := (K25_r.out).lt
    have ne_m_one := (K25_m.out).lt
    have ne_s_one := (K25_s.out).lt
    have ne_t_one := (K25_t.out).lt
    have ne_u_one := (K25_u.out).lt
    have ne_w_one := (K25_w.out).lt
    have ne_v_one := (K25_v.out).lt
    have al : Below w25.heap.size w25 (w25.alloc (.cells #[.int .i64 q4, .slice so_one r4 r4] 24)) := (Below.refl _ _).alloc (Nat.le_refl _) _
    have K26_a := hid (At.alloc (K25_a.out) (.cells #[.int .i64 q4, .slice so_one r4 r4] 24))
    have K26_b := hid (At.alloc (K25_b.out) (.cells #[.int .i64 q4, .slice so_one r4 r4] 24))
    have K26_fb := hid ((K25_fb.out).kept al)
    have K26_x := hid (At.alloc (K25_x.out) (.cells #[.int .i64 q4, .slice so_one r4 r4] 24))
    have K26_op := hid ((K25_op.out).kept al)
    have K26_p := hid (At.alloc (K25_p.out) (.cells #[.int .i64 q4, .slice so_one r4 r4] 24))
    have K26_oq := hid ((K25_oq.out).kept al)
    have K26_q := hid (At.alloc (K25_q.out) (.cells #[.int .i64 q4, .slice so_one r4 r4] 24))
    have K26_r := hid (At.alloc (K25_r.out) (.cells #[.int .i64 q4, .slice so_one r4 r4] 24))
    have K26_m := hid (At.alloc (K25_m.out) (.cells #[.int .i64 q4, .slice so_one r4 r4] 24))
    have K26_os := hid ((K25_os.out).kept al)
    have K26_s := hid (At.alloc (K25_s.out) (.cells #[.int .i64 q4, .slice so_one r4 r4] 24))
    have K26_ot := hid ((K25_ot.out).kept al)
    have K26_t := hid (At.alloc (K25_t.out) (.cells #[.int .i64 q4, .slice so_one r4 r4] 24))
    have K26_u := hid (At.alloc (K25_u.out) (.cells #[.int .i64 q4, .slice so_one r4 r4] 24))
    have K26_w := hid (At.alloc (K25_w.out) (.cells #[.int .i64 q4, .slice so_one r4 r4] 24))
    have K26_v := hid (At.alloc (K25_v.out) (.cells #[.int .i64 q4, .slice so_one r4 r4] 24))
    have K26_ov := hid ((K25_ov.out).kept al)
    have K26_rx := hid ((K25_rx.out).kept al)
    have K26_oone := hid ((K25_oone.out).kept al)
    have K26_one := hid (At.new w25 #[.int .i64 q4, .slice so_one r4 r4] 24)
    have hB26 := Below.alloc hB25 hB25.size (.cells #[.int .i64 q4, .slice so_one r4 r4] 24)
    clear al K25_a K25_b K25_fb K25_x K25_op K25_p K25_oq K25_q K25_r K25_m K25_os K25_s K25_ot K25_t K25_u K25_w K25_v K25_ov K25_rx K25_oone hB25
    go_upto_region 18 with fail
    obtain ⟨V2, hV2⟩ : ∃ V2, (w25.alloc (.cells #[.int .i64 q4, .slice so_one r4 r4] 24)) = V2 := ⟨_, rfl⟩
    rw [hV2] at K26_a K26_b K26_fb K26_x K26_op K26_p K26_oq K26_q K26_r K26_m K26_os K26_s K26_ot K26_t K26_u K26_w K26_v K26_ov K26_rx K26_oone K26_one hB26
    rw [hV2]
    clear hV2
    go_cut [27, 17] from 127 to 134 (fun px fx wx => ∃ (bt : Nat) (so : Option Addr), px = .pointer (some ⟨bt, 0, none⟩) ∧ fx = .int .i64 E4 ∧ Hid (At wx bt #[.int .i64 q4, .slice so r4 r4] 24) ∧ Hid (Own V2.heap.size wx so r4 (rowOf (fun i => bitAt (fun j => 9000027 + j) i && bitAt (fun j => 9000027 + j) i) n.toNat)) ∧ Hid (FromW V2 wx) ∧ Hid (V2.heap.size ≤ bt))
    case first => as_aux_lemma =>
      clear ne_a_x ne_b_x ne_lx_x ne_a_p ne_b_p ne_lx_p ne_x_p ne_a_q ne_b_q ne_lx_q ne_x_q ne_p_q ne_a_r ne_b_r ne_lx_r ne_x_r ne_p_r ne_q_r ne_a_m ne_b_m ne_lx_m ne_x_m ne_p_m ne_q_m ne_r_m ne_a_s ne_b_s ne_lx_s ne_x_s ne_p_s ne_q_s ne_r_s ne_m_s ne_a_t ne_b_t ne_lx_t ne_x_t ne_p_t ne_q_t ne_r_t ne_m_t ne_s_t ne_a_u ne_b_u ne_lx_u ne_x_u ne_p_u ne_q_u ne_r_u ne_m_u ne_s_u ne_t_u ne_a_w ne_b_w ne_lx_w ne_x_w ne_p_w ne_q_w ne_r_w ne_m_w ne_s_w ne_t_w ne_u_w ne_a_v ne_b_v ne_lx_v ne_x_v ne_p_v ne_q_v ne_r_v ne_m_v ne_s_v ne_t_v ne_u_v ne_w_v ne_a_one ne_b_one ne_x_one ne_p_one ne_q_one ne_r_one ne_m_one ne_s_one ne_t_one ne_u_one ne_w_one ne_v_one hNPi hNPl hKml hpl hl hr hr2 eE eE4
      have hcells : Hid (∀ W' : World, Below V2.heap.size V2 W' → (W'.cell? ⟨w2.heap.size, 0, none⟩ = some (.int .i64 n) ∧ W'.cell? ⟨w2.heap.size, 1, none⟩ = some (.slice (some ⟨g, 0, none⟩) k c))) := fun W' h => ⟨((K26_x.out).keptAll h).facts.1, ((K26_x.out).keptAll h).facts.2.1⟩
      have hs0 := hcells.out V2.drew (Below.refl _ _).drew
      have q0 : Hid (Below V2.heap.size V2 V2.drew) := (Below.refl _ V2).drew
      have hov := K26_ov
      have hX4 : ∀ j, j < k → (fun j => 9000027 + j) j < 18446744073709551616 := fun j hj => by simp only; omega
      rename_i K18 hK18
      refine wp_region_held_drew (S := fun W' => W'.cell? ⟨w2.heap.size, 0, none⟩ = some (.int .i64 n) ∧ W'.cell? ⟨w2.heap.size, 1, none⟩ = some (.slice (some ⟨g, 0, none⟩) k c)) (by kernel_rfl) hs0 (fun hHeld => ?_)
      (refine' wpAnyH_take (i := 0) rfl (by kernel_rfl) (by kernel_rfl) (by kernel_rfl) (fun _ _ _ h => h) (Or.inl ⟨by rfl, ?_⟩) (by assumption) ?_; rotate_left; (· (intro wq hq; (try dsimp only at hq); go_simp; first | done | with_reducible rfl)); simp only [Act.put, List.getElem_toArray, List.getElem_cons_zero, List.setIfInBounds_toArray, List.set_cons_zero, List.set_cons_succ])
      (refine' wpAnyH_take (i := 2) rfl (by kernel_rfl) (by kernel_rfl) (by kernel_rfl) (fun _ _ _ h => h) (Or.inl ⟨by rfl, ?_⟩) (by assumption) ?_; rotate_left; (· (intro wq hq; (try dsimp only at hq); go_simp; first | done | with_reducible rfl)); simp only [Act.put, List.getElem_toArray, List.getElem_cons_zero, List.getElem_cons_succ, List.setIfInBounds_toArray, List.set_cons_zero, List.set_cons_succ])
      refine wpAnyH_ready (rs := [1, 8]) (by kernel_rfl) (by simp) ?_
      refine AllReadyH.cons rfl (fun K hK => ?_) ?_
      · rw [if_pos (by rfl)]
        go_simp
        refine (copyB_calls n (some ⟨g, 0, none⟩) k c (fun j => 9000027 + j) (by omega) _ (hov.out.kept q0.out)).mono ?_
        rintro e x1 ⟨vc, rfl, hrw, hbx⟩
        obtain ⟨ro1, rc1, rfl, hwd⟩ := wds_of_row hrw hX4
        have bq1 : Hid (Below V2.heap.size V2 x1) := hid (q0.out.trans (hbx.mono q0.out.size))
        have hc1 := hid hwd
        refine hK.out _ _ (hcells.out _ bq1.out) (fun hH1 => ?_)
        clear hK K hbx hrw hwd
        refine wpAnyH_ready (rs := [3, 8]) (by kernel_rfl) (by simp) ?_
        refine AllReadyH.cons rfl (fun K hK => ?_) ?_
        · rw [if_pos (by rfl)]
          go_simp
          refine (copyB_calls n (some ⟨g, 0, none⟩) k c (fun j => 9000027 + j) (by omega) _ (hov.out.kept bq1.out)).mono ?_
          rintro e x2 ⟨vc, rfl, hrw, hbx⟩
          obtain ⟨ro2, rc2, rfl, hwd⟩ := wds_of_row hrw hX4
          have bq2 : Hid (Below V2.heap.size V2 x2) := hid (bq1.out.trans (hbx.mono bq1.out.size))
          have hc1_2 := hid (Wds.kept hc1.out hbx)
          have hc2 := hid hwd
          refine hK.out _ _ (hcells.out _ bq2.out) (fun hH2 => ?_)
          clear hK K hbx hrw hwd
          refine wpAnyH_ready (rs := [4, 8]) (by kernel_rfl) (by simp) ?_
          refine AllReadyH.cons rfl (fun K hK => ?_) ?_
          · rw [if_pos (by rfl)]
            go_simp
            refine (and_gives n n ro1 ro2 k k rc1 rc2 (fun j => 9000027 + j) (fun j => 9000027 + j) E4 q4 r4 hn'.out hn'.out (by omega) (by omega) hE4 _ hc1_2.out hc2.out).mono ?_
            rintro e x3 ⟨hbx, so3, hown, rfl⟩
            have bq3 : Hid (Below V2.heap.size V2 x3) := hid (bq2.out.trans (hbx.mono bq2.out.size))
            have ho3 := hid (hown.mono bq2.out.size)
            refine hK.out _ _ (hcells.out _ bq3.out) (fun hH3 => ?_)
            clear hK K hbx hown
            (refine' wpAnyH_take (i := 5) rfl (by kernel_rfl) (by kernel_rfl) (by kernel_rfl) (fun _ _ _ h => h) (Or.inl ⟨by rfl, ?_⟩) (by assumption) ?_; rotate_left; (· (intro wq hq; (try dsimp only at hq); go_simp; first | done | with_reducible rfl)); simp only [Act.put, List.getElem_toArray, List.getElem_cons_zero, List.getElem_cons_succ, List.setIfInBounds_toArray, List.set_cons_zero, List.set_cons_succ])
            (refine' wpAnyH_take (i := 6) rfl (by kernel_rfl) (by kernel_rfl) (by kernel_rfl) (fun _ _ _ h => h) (Or.inl ⟨by rfl, ?_⟩) (by assumption) ?_; rotate_left; (· (intro wq hq; (try dsimp only at hq); go_simp; first | done | with_reducible rfl)); simp only [Act.put, List.getElem_toArray, List.getElem_cons_zero, List.getElem_cons_succ, List.setIfInBounds_toArray, List.set_cons_zero, List.set_cons_succ])
            refine wpAnyH_ready (rs := [7, 8]) (by kernel_rfl) (by simp) ?_
            refine AllReadyH.cons rfl (fun K hK => ?_) ?_
            · rw [if_pos (by rfl)]
              go_simp
              refine hK.out _ _ (hcells.out _ bq3.out) (fun hH4 => ?_)
              clear hK K
              refine wpAnyH_ready (rs := [8]) (by kernel_rfl) (by simp) ?_
              refine AllReadyH.cons rfl (fun K hK => ?_) ?_
              · go_simp
                obtain ⟨y5, hy5⟩ : ∃ y5, (x3.alloc (.cells #[.int .i64 0, .slice none 0 0] 24)) = y5 := ⟨_, rfl⟩
                have bq5 : Hid (Below V2.heap.size V2 y5) := hid (by rw [← hy5]; exact bq3.out.alloc bq3.out.size _)
                have hat5 : Hid (At y5 x3.heap.size #[.int .i64 0, .slice none 0 0] 24) := hid (by rw [← hy5]; exact At.new x3 _ _)
                have hal5 : Below x3.heap.size x3 y5 := by rw [← hy5]; exact (Below.refl _ _).alloc (Nat.le_refl _) _
                have hne5 : Hid (∀ g', so3 = some ⟨g', 0, none⟩ → g' ≠ x3.heap.size) := hid (fun g' e => by have h1 := (own_rng ho3.out e).2; omega)
                have ho3_5 := hid (Own.kept ho3.out hal5)
                have hbt5 := hid (show V2.heap.size ≤ x3.heap.size from bq3.out.size)
                rw [hy5]
                refine hK.out _ _ (hcells.out _ bq5.out) (fun hH5 => ?_)
                clear hK K hy5 hal5
                refine wpAnyH_ready (rs := [9]) (by kernel_rfl) (by simp) ?_
                refine AllReadyH.cons rfl (fun K hK => ?_) ?_
                · obtain ⟨d0, d1, f0, f1⟩ := hat5.out.facts
                  have qz6 : Hid (Below V2.heap.size V2 ((y5.setCell ⟨x3.heap.size, 0, none⟩ (.int .i64 q4)).setCell ⟨x3.heap.size, 1, none⟩ (.slice so3 r4 r4))) := hid ((bq5.out.setCell (p := ⟨x3.heap.size, 0, none⟩) hbt5.out _).setCell (p := ⟨x3.heap.size, 1, none⟩) hbt5.out _)
                  go_simp
                  refine hK.out _ _ (hcells.out _ qz6.out) (fun hH6 => ?_)
                  clear hK K d0 d1 f0 f1
                  (refine' wpAnyH_take (i := 10) rfl (by kernel_rfl) (by kernel_rfl) (by kernel_rfl) (fun _ _ _ h => h) (Or.inl ⟨by rfl, ?_⟩) (by assumption) ?_; rotate_left; (· (intro wq hq; (try dsimp only at hq); go_simp; first | done | with_reducible rfl)); simp only [Act.put, List.getElem_toArray, List.getElem_cons_zero, List.getElem_cons_succ, List.setIfInBounds_toArray, List.set_cons_zero, List.set_cons_succ])
                  refine wpAnyH_done (by kernel_rfl) ?_ _
                  refine hK18 _ _ ?_
                  go_wp2
                  go_meet
                  case rel => exact ⟨_, so3, rfl, rfl, hid hat5.out.two, hid (own_two ho3_5.out hne5.out _ _), qz6, hbt5⟩
                exact AllReadyH.nil
              exact AllReadyH.nil
            refine AllReadyH.cons rfl (fun K hK => ?_) ?_
            · go_simp
              obtain ⟨y7, hy7⟩ : ∃ y7, (x3.alloc (.cells #[.int .i64 0, .slice none 0 0] 24)) = y7 := ⟨_, rfl⟩
              have bq7 : Hid (Below V2.heap.size V2 y7) := hid (by rw [← hy7]; exact bq3.out.alloc bq3.out.size _)
              have hat7 : Hid (At y7 x3.heap.size #[.int .i64 0, .slice none 0 0] 24) := hid (by rw [← hy7]; exact At.new x3 _ _)
              have hal7 : Below x3.heap.size x3 y7 := by rw [← hy7]; exact (Below.refl _ _).alloc (Nat.le_refl _) _
              have hne7 : Hid (∀ g', so3 = some ⟨g', 0, none⟩ → g' ≠ x3.heap.size) := hid (fun g' e => by have h1 := (own_rng ho3.out e).2; omega)
              have ho3_7 := hid (Own.kept ho3.out hal7)
              have hbt7 := hid (show V2.heap.size ≤ x3.heap.size from bq3.out.size)
              rw [hy7]
              refine hK.out _ _ (hcells.out _ bq7.out) (fun hH7 => ?_)
              clear hK K hy7 hal7
              refine wpAnyH_ready (rs := [7, 9]) (by kernel_rfl) (by simp) ?_
              refine AllReadyH.cons rfl (fun K hK => ?_) ?_
              · rw [if_pos (by rfl)]
                go_simp
                refine hK.out _ _ (hcells.out _ bq7.out) (fun hH8 => ?_)
                clear hK K
                refine wpAnyH_ready (rs := [9]) (by kernel_rfl) (by simp) ?_
                refine AllReadyH.cons rfl (fun K hK => ?_) ?_
                · obtain ⟨d0, d1, f0, f1⟩ := hat7.out.facts
                  have qz9 : Hid (Below V2.heap.size V2 ((y7.setCell ⟨x3.heap.size, 0, none⟩ (.int .i64 q4)).setCell ⟨x3.heap.size, 1, none⟩ (.slice so3 r4 r4))) := hid ((bq7.out.setCell (p := ⟨x3.heap.size, 0, none⟩) hbt7.out _).setCell (p := ⟨x3.heap.size, 1, none⟩) hbt7.out _)
                  go_simp
                  refine hK.out _ _ (hcells.out _ qz9.out) (fun hH9 => ?_)
                  clear hK K d0 d1 f0 f1
                  (refine' wpAnyH_take (i := 10) rfl (by kernel_rfl) (by kernel_rfl) (by kernel_rfl) (fun _ _ _ h => h) (Or.inl ⟨by rfl, ?_⟩) (by assumption) ?_; rotate_left; (· (intro wq hq; (try dsimp only at hq); go_simp; first | done | with_reducible rfl)); simp only [Act.put, List.getElem_toArray, List.getElem_cons_zero, List.getElem_cons_succ, List.setIfInBounds_toArray, List.set_cons_zero, List.set_cons_succ])
                  refine wpAnyH_done (by kernel_rfl) ?_ _
                  refine hK18 _ _ ?_
                  go_wp2
                  go_meet
                  case rel => exact ⟨_, so3, rfl, rfl, hid hat7.out.two, hid (own_two ho3_7.out hne7.out _ _), qz9, hbt7⟩
                exact AllReadyH.nil
              refine AllReadyH.cons rfl (fun K hK => ?_) ?_
              · obtain ⟨d0, d1, f0, f1⟩ := hat7.out.facts
                have qz10 : Hid (Below V2.heap.size V2 ((y7.setCell ⟨x3.heap.size, 0, none⟩ (.int .i64 q4)).setCell ⟨x3.heap.size, 1, none⟩ (.slice so3 r4 r4))) := hid ((bq7.out.setCell (p := ⟨x3.heap.size, 0, none⟩) hbt7.out _).setCell (p := ⟨x3.heap.size, 1, none⟩) hbt7.out _)
                go_simp
                refine hK.out _ _ (hcells.out _ qz10.out) (fun hH10 => ?_)
                clear hK K d0 d1 f0 f1
                refine wpAnyH_ready (rs := [7]) (by kernel_rfl) (by simp) ?_
                refine AllReadyH.cons rfl (fun K hK => ?_) ?_
                · rw [if_pos (by rfl)]
                  go_simp
                  refine hK.out _ _ (hcells.out _ qz10.out) (fun hH11 => ?_)
                  clear hK K
                  (refine' wpAnyH_take (i := 10) rfl (by kernel_rfl) (by kernel_rfl) (by kernel_rfl) (fun _ _ _ h => h) (Or.inl ⟨by rfl, ?_⟩) (by assumption) ?_; rotate_left; (· (intro wq hq; (try dsimp only at hq); go_simp; first | done | with_reducible rfl)); simp only [Act.put, List.getElem_toArray, List.getElem_cons_zero, List.getElem_cons_succ, List.setIfInBounds_toArray, List.set_cons_zero, List.set_cons_succ])
                  refine wpAnyH_done (by kernel_rfl) ?_ _
                  refine hK18 _ _ ?_
                  go_wp2
                  go_meet
                  case rel => exact ⟨_, so3, rfl, rfl, hid hat7.out.two, hid (own_two ho3_7.out hne7.out _ _), qz10, hbt7⟩
                exact AllReadyH.nil
              exact AllReadyH.nil
            exact AllReadyH.nil
          refine AllReadyH.cons rfl (fun K hK => ?_) ?_
          · go_simp
            obtain ⟨y12, hy12⟩ : ∃ y12, (x2.alloc (.cells #[.int .i64 0, .slice none 0 0] 24)) = y12 := ⟨_, rfl⟩
            have bq12 : Hid (Below V2.heap.size V2 y12) := hid (by rw [← hy12]; exact bq2.out.alloc bq2.out.size _)
            have hat12 : Hid (At y12 x2.heap.size #[.int .i64 0, .slice none 0 0] 24) := hid (by rw [← hy12]; exact At.new x2 _ _)
            have hal12 : Below x2.heap.size x2 y12 := by rw [← hy12]; exact (Below.refl _ _).alloc (Nat.le_refl _) _
            have hc1_12 := hid (Wds.kept hc1_2.out hal12)
            have hc2_12 := hid (Wds.kept hc2.out hal12)
            have hbt12 := hid (show V2.heap.size ≤ x2.heap.size from bq2.out.size)
            rw [hy12]
            refine hK.out _ _ (hcells.out _ bq12.out) (fun hH12 => ?_)
            clear hK K hy12 hal12
            refine wpAnyH_ready (rs := [4]) (by kernel_rfl) (by simp) ?_
            refine AllReadyH.cons rfl (fun K hK => ?_) ?_
            · rw [if_pos (by rfl)]
              go_simp
              refine (and_gives n n ro1 ro2 k k rc1 rc2 (fun j => 9000027 + j) (fun j => 9000027 + j) E4 q4 r4 hn'.out hn'.out (by omega) (by omega) hE4 _ hc1_12.out hc2_12.out).mono ?_
              rintro e x13 ⟨hbx, so13, hown, rfl⟩
              have bq13 : Hid (Below V2.heap.size V2 x13) := hid (bq12.out.trans (hbx.mono bq12.out.size))
              have hne13 : Hid (∀ g', so13 = some ⟨g', 0, none⟩ → g' ≠ x2.heap.size) := hid (fun g' e => by have h1 := (own_rng hown e).1; have h2 := hat12.out.lt; omega)
              have hat12_13 := hid (At.keptAll hat12.out hbx)
              have ho13 := hid (hown.mono bq12.out.size)
              refine hK.out _ _ (hcells.out _ bq13.out) (fun hH13 => ?_)
              clear hK K hbx hown
              (refine' wpAnyH_take (i := 5) rfl (by kernel_rfl) (by kernel_rfl) (by kernel_rfl) (fun _ _ _ h => h) (Or.inl ⟨by rfl, ?_⟩) (by assumption) ?_; rotate_left; (· (intro wq hq; (try dsimp only at hq); go_simp; first | done | with_reducible rfl)); simp only [Act.put, List.getElem_toArray, List.getElem_cons_zero, List.getElem_cons_succ, List.setIfInBounds_toArray, List.set_cons_zero, List.set_cons_succ])
              (refine' wpAnyH_take (i := 6) rfl (by kernel_rfl) (by kernel_rfl) (by kernel_rfl) (fun _ _ _ h => h) (Or.inl ⟨by rfl, ?_⟩) (by assumption) ?_; rotate_left; (· (intro wq hq; (try dsimp only at hq); go_simp; first | done | with_reducible rfl)); simp only [Act.put, List.getElem_toArray, List.getElem_cons_zero, List.getElem_cons_succ, List.setIfInBounds_toArray, List.set_cons_zero, List.set_cons_succ])
              refine wpAnyH_ready (rs := [7, 9]) (by kernel_rfl) (by simp) ?_
              refine AllReadyH.cons rfl (fun K hK => ?_) ?_
              · rw [if_pos (by rfl)]
                go_simp
                refine hK.out _ _ (hcells.out _ bq13.out) (fun hH14 => ?_)
                clear hK K
                refine wpAnyH_ready (rs := [9]) (by kernel_rfl) (by simp) ?_
                refine AllReadyH.cons rfl (fun K hK => ?_) ?_
                · obtain ⟨d0, d1, f0, f1⟩ := hat12_13.out.facts
                  have qz15 : Hid (Below V2.heap.size V2 ((x13.setCell ⟨x2.heap.size, 0, none⟩ (.int .i64 q4)).setCell ⟨x2.heap.size, 1, none⟩ (.slice so13 r4 r4))) := hid ((bq13.out.setCell (p := ⟨x2.heap.size, 0, none⟩) hbt12.out _).setCell (p := ⟨x2.heap.size, 1, none⟩) hbt12.out _)
                  go_simp
                  refine hK.out _ _ (hcells.out _ qz15.out) (fun hH15 => ?_)
                  clear hK K d0 d1 f0 f1
                  (refine' wpAnyH_take (i := 10) rfl (by kernel_rfl) (by kernel_rfl) (by kernel_rfl) (fun _ _ _ h => h) (Or.inl ⟨by rfl, ?_⟩) (by assumption) ?_; rotate_left; (· (intro wq hq; (try dsimp only at hq); go_simp; first | done | with_reducible rfl)); simp only [Act.put, List.getElem_toArray, List.getElem_cons_zero, List.getElem_cons_succ, List.setIfInBounds_toArray, List.set_cons_zero, List.set_cons_succ])
                  refine wpAnyH_done (by kernel_rfl) ?_ _
                  refine hK18 _ _ ?_
                  go_wp2
                  go_meet
                  case rel => exact ⟨_, so13, rfl, rfl, hid hat12_13.out.two, hid (own_two ho13.out hne13.out _ _), qz15, hbt12⟩
                exact AllReadyH.nil
              refine AllReadyH.cons rfl (fun K hK => ?_) ?_
              · obtain ⟨d0, d1, f0, f1⟩ := hat12_13.out.facts
                have qz16 : Hid (Below V2.heap.size V2 ((x13.setCell ⟨x2.heap.size, 0, none⟩ (.int .i64 q4)).setCell ⟨x2.heap.size, 1, none⟩ (.slice so13 r4 r4))) := hid ((bq13.out.setCell (p := ⟨x2.heap.size, 0, none⟩) hbt12.out _).setCell (p := ⟨x2.heap.size, 1, none⟩) hbt12.out _)
                go_simp
                refine hK.out _ _ (hcells.out _ qz16.out) (fun hH16 => ?_)
                clear hK K d0 d1 f0 f1
                refine wpAnyH_ready (rs := [7]) (by kernel_rfl) (by simp) ?_
                refine AllReadyH.cons rfl (fun K hK => ?_) ?_
                · rw [if_pos (by rfl)]
                  go_simp
                  refine hK.out _ _ (hcells.out _ qz16.out) (fun hH17 => ?_)
                  clear hK K
                  (refine' wpAnyH_take (i := 10) rfl (by kernel_rfl) (by kernel_rfl) (by kernel_rfl) (fun _ _ _ h => h) (Or.inl ⟨by rfl, ?_⟩) (by assumption) ?_; rotate_left; (· (intro wq hq; (try dsimp only at hq); go_simp; first | done | with_reducible rfl)); simp only [Act.put, List.getElem_toArray, List.getElem_cons_zero, List.getElem_cons_succ, List.setIfInBounds_toArray, List.set_cons_zero, List.set_cons_succ])
                  refine wpAnyH_done (by kernel_rfl) ?_ _
                  refine hK18 _ _ ?_
                  go_wp2
                  go_meet
                  case rel => exact ⟨_, so13, rfl, rfl, hid hat12_13.out.two, hid (own_two ho13.out hne13.out _ _), qz16, hbt12⟩
                exact AllReadyH.nil
              exact AllReadyH.nil
            exact AllReadyH.nil
          exact AllReadyH.nil
        refine AllReadyH.cons rfl (fun K hK => ?_) ?_
        · go_simp
          obtain ⟨y18, hy18⟩ : ∃ y18, (x1.alloc (.cells #[.int .i64 0, .slice none 0 0] 24)) = y18 := ⟨_, rfl⟩
          have bq18 : Hid (Below V2.heap.size V2 y18) := hid (by rw [← hy18]; exact bq1.out.alloc bq1.out.size _)
          have hat18 : Hid (At y18 x1.heap.size #[.int .i64 0, .slice none 0 0] 24) := hid (by rw [← hy18]; exact At.new x1 _ _)
          have hal18 : Below x1.heap.size x1 y18 := by rw [← hy18]; exact (Below.refl _ _).alloc (Nat.le_refl _) _
          have hc1_18 := hid (Wds.kept hc1.out hal18)
          have hbt18 := hid (show V2.heap.size ≤ x1.heap.size from bq1.out.size)
          rw [hy18]
          refine hK.out _ _ (hcells.out _ bq18.out) (fun hH18 => ?_)
          clear hK K hy18 hal18
          refine wpAnyH_ready (rs := [3]) (by kernel_rfl) (by simp) ?_
          refine AllReadyH.cons rfl (fun K hK => ?_) ?_
          · rw [if_pos (by rfl)]
            go_simp
            refine (copyB_calls n (some ⟨g, 0, none⟩) k c (fun j => 9000027 + j) (by omega) _ (hov.out.kept bq18.out)).mono ?_
            rintro e x19 ⟨vc, rfl, hrw, hbx⟩
            obtain ⟨ro19, rc19, rfl, hwd⟩ := wds_of_row hrw hX4
            have bq19 : Hid (Below V2.heap.size V2 x19) := hid (bq18.out.trans (hbx.mono bq18.out.size))
            have hat18_19 := hid (At.keptAll hat18.out hbx)
            have hc1_19 := hid (Wds.kept hc1_18.out hbx)
            have hc19 := hid hwd
            refine hK.out _ _ (hcells.out _ bq19.out) (fun hH19 => ?_)
            clear hK K hbx hrw hwd
            refine wpAnyH_ready (rs := [4]) (by kernel_rfl) (by simp) ?_
            refine AllReadyH.cons rfl (fun K hK => ?_) ?_
            · rw [if_pos (by rfl)]
              go_simp
              refine (and_gives n n ro1 ro19 k k rc1 rc19 (fun j => 9000027 + j) (fun j => 9000027 + j) E4 q4 r4 hn'.out hn'.out (by omega) (by omega) hE4 _ hc1_19.out hc19.out).mono ?_
              rintro e x20 ⟨hbx, so20, hown, rfl⟩
              have bq20 : Hid (Below V2.heap.size V2 x20) := hid (bq19.out.trans (hbx.mono bq19.out.size))
              have hne20 : Hid (∀ g', so20 = some ⟨g', 0, none⟩ → g' ≠ x1.heap.size) := hid (fun g' e => by have h1 := (own_rng hown e).1; have h2 := hat18_19.out.lt; omega)
              have hat18_20 := hid (At.keptAll hat18_19.out hbx)
              have ho20 := hid (hown.mono bq19.out.size)
              refine hK.out _ _ (hcells.out _ bq20.out) (fun hH20 => ?_)
              clear hK K hbx hown
              (refine' wpAnyH_take (i := 5) rfl (by kernel_rfl) (by kernel_rfl) (by kernel_rfl) (fun _ _ _ h => h) (Or.inl ⟨by rfl, ?_⟩) (by assumption) ?_; rotate_left; (· (intro wq hq; (try dsimp only at hq); go_simp; first | done | with_reducible rfl)); simp only [Act.put, List.getElem_toArray, List.getElem_cons_zero, List.getElem_cons_succ, List.setIfInBounds_toArray, List.set_cons_zero, List.set_cons_succ])
              (refine' wpAnyH_take (i := 6) rfl (by kernel_rfl) (by kernel_rfl) (by kernel_rfl) (fun _ _ _ h => h) (Or.inl ⟨by rfl, ?_⟩) (by assumption) ?_; rotate_left; (· (intro wq hq; (try dsimp only at hq); go_simp; first | done | with_reducible rfl)); simp only [Act.put, List.getElem_toArray, List.getElem_cons_zero, List.getElem_cons_succ, List.setIfInBounds_toArray, List.set_cons_zero, List.set_cons_succ])
              refine wpAnyH_ready (rs := [7, 9]) (by kernel_rfl) (by simp) ?_
              refine AllReadyH.cons rfl (fun K hK => ?_) ?_
              · rw [if_pos (by rfl)]
                go_simp
                refine hK.out _ _ (hcells.out _ bq20.out) (fun hH21 => ?_)
                clear hK K
                refine wpAnyH_ready (rs := [9]) (by kernel_rfl) (by simp) ?_
                refine AllReadyH.cons rfl (fun K hK => ?_) ?_
                · obtain ⟨d0, d1, f0, f1⟩ := hat18_20.out.facts
                  have qz22 : Hid (Below V2.heap.size V2 ((x20.setCell ⟨x1.heap.size, 0, none⟩ (.int .i64 q4)).setCell ⟨x1.heap.size, 1, none⟩ (.slice so20 r4 r4))) := hid ((bq20.out.setCell (p := ⟨x1.heap.size, 0, none⟩) hbt18.out _).setCell (p := ⟨x1.heap.size, 1, none⟩) hbt18.out _)
                  go_simp
                  refine hK.out _ _ (hcells.out _ qz22.out) (fun hH22 => ?_)
                  clear hK K d0 d1 f0 f1
                  (refine' wpAnyH_take (i := 10) rfl (by kernel_rfl) (by kernel_rfl) (by kernel_rfl) (fun _ _ _ h => h) (Or.inl ⟨by rfl, ?_⟩) (by assumption) ?_; rotate_left; (· (intro wq hq; (try dsimp only at hq); go_simp; first | done | with_reducible rfl)); simp only [Act.put, List.getElem_toArray, List.getElem_cons_zero, List.getElem_cons_succ, List.setIfInBounds_toArray, List.set_cons_zero, List.set_cons_succ])
                  refine wpAnyH_done (by kernel_rfl) ?_ _
                  refine hK18 _ _ ?_
                  go_wp2
                  go_meet
                  case rel => exact ⟨_, so20, rfl, rfl, hid hat18_20.out.two, hid (own_two ho20.out hne20.out _ _), qz22, hbt18⟩
                exact AllReadyH.nil
              refine AllReadyH.cons rfl (fun K hK => ?_) ?_
              · obtain ⟨d0, d1, f0, f1⟩ := hat18_20.out.facts
                have qz23 : Hid (Below V2.heap.size V2 ((x20.setCell ⟨x1.heap.size, 0, none⟩ (.int .i64 q4)).setCell ⟨x1.heap.size, 1, none⟩ (.slice so20 r4 r4))) := hid ((bq20.out.setCell (p := ⟨x1.heap.size, 0, none⟩) hbt18.out _).setCell (p := ⟨x1.heap.size, 1, none⟩) hbt18.out _)
                go_simp
                refine hK.out _ _ (hcells.out _ qz23.out) (fun hH23 => ?_)
                clear hK K d0 d1 f0 f1
                refine wpAnyH_ready (rs := [7]) (by kernel_rfl) (by simp) ?_
                refine AllReadyH.cons rfl (fun K hK => ?_) ?_
                · rw [if_pos (by rfl)]
                  go_simp
                  refine hK.out _ _ (hcells.out _ qz23.out) (fun hH24 => ?_)
                  clear hK K
                  (refine' wpAnyH_take (i := 10) rfl (by kernel_rfl) (by kernel_rfl) (by kernel_rfl) (fun _ _ _ h => h) (Or.inl ⟨by rfl, ?_⟩) (by assumption) ?_; rotate_left; (· (intro wq hq; (try dsimp only at hq); go_simp; first | done | with_reducible rfl)); simp only [Act.put, List.getElem_toArray, List.getElem_cons_zero, List.getElem_cons_succ, List.setIfInBounds_toArray, List.set_cons_zero, List.set_cons_succ])
                  refine wpAnyH_done (by kernel_rfl) ?_ _
                  refine hK18 _ _ ?_
                  go_wp2
                  go_meet
                  case rel => exact ⟨_, so20, rfl, rfl, hid hat18_20.out.two, hid (own_two ho20.out hne20.out _ _), qz23, hbt18⟩
                exact AllReadyH.nil
              exact AllReadyH.nil
            exact AllReadyH.nil
          exact AllReadyH.nil
        exact AllReadyH.nil
      refine AllReadyH.cons rfl (fun K hK => ?_) ?_
      · go_simp
        obtain ⟨y25, hy25⟩ : ∃ y25, (V2.alloc (.cells #[.int .i64 0, .slice none 0 0] 24)).drew = y25 := ⟨_, rfl⟩
        have bq25 : Hid (Below V2.heap.size V2 y25) := hid (by rw [← hy25]; exact ((Below.refl _ V2).alloc (Nat.le_refl _) _).drew)
        have hat25 : Hid (At y25 V2.heap.size #[.int .i64 0, .slice none 0 0] 24) := hid (by rw [← hy25]; exact (At.new V2 _ _).drew)
        have hal25 : Below V2.heap.size V2 y25 := by rw [← hy25]; exact ((Below.refl _ V2).alloc (Nat.le_refl _) _).drew
        have hbt25 := hid (show V2.heap.size ≤ V2.heap.size from Nat.le_refl _)
        rw [hy25]
        refine hK.out _ _ (hcells.out _ bq25.out) (fun hH25 => ?_)
        clear hK K hy25 hal25
        refine wpAnyH_ready (rs := [1]) (by kernel_rfl) (by simp) ?_
        refine AllReadyH.cons rfl (fun K hK => ?_) ?_
        · rw [if_pos (by rfl)]
          go_simp
          refine (copyB_calls n (some ⟨g, 0, none⟩) k c (fun j => 9000027 + j) (by omega) _ (hov.out.kept bq25.out)).mono ?_
          rintro e x26 ⟨vc, rfl, hrw, hbx⟩
          obtain ⟨ro26, rc26, rfl, hwd⟩ := wds_of_row hrw hX4
          have bq26 : Hid (Below V2.heap.size V2 x26) := hid (bq25.out.trans (hbx.mono bq25.out.size))
          have hat25_26 := hid (At.keptAll hat25.out hbx)
          have hc26 := hid hwd
          refine hK.out _ _ (hcells.out _ bq26.out) (fun hH26 => ?_)
          clear hK K hbx hrw hwd
          refine wpAnyH_ready (rs := [3]) (by kernel_rfl) (by simp) ?_
          refine AllReadyH.cons rfl (fun K hK => ?_) ?_
          · rw [if_pos (by rfl)]
            go_simp
            refine (copyB_calls n (some ⟨g, 0, none⟩) k c (fun j => 9000027 + j) (by omega) _ (hov.out.kept bq26.out)).mono ?_
            rintro e x27 ⟨vc, rfl, hrw, hbx⟩
            obtain ⟨ro27, rc27, rfl, hwd⟩ := wds_of_row hrw hX4
            have bq27 : Hid (Below V2.heap.size V2 x27) := hid (bq26.out.trans (hbx.mono bq26.out.size))
            have hat25_27 := hid (At.keptAll hat25_26.out hbx)
            have hc26_27 := hid (Wds.kept hc26.out hbx)
            have hc27 := hid hwd
            refine hK.out _ _ (hcells.out _ bq27.out) (fun hH27 => ?_)
            clear hK K hbx hrw hwd
            refine wpAnyH_ready (rs := [4]) (by kernel_rfl) (by simp) ?_
            refine AllReadyH.cons rfl (fun K hK => ?_) ?_
            · rw [if_pos (by rfl)]
              go_simp
              refine (and_gives n n ro26 ro27 k k rc26 rc27 (fun j => 9000027 + j) (fun j => 9000027 + j) E4 q4 r4 hn'.out hn'.out (by omega) (by omega) hE4 _ hc26_27.out hc27.out).mono ?_
              rintro e x28 ⟨hbx, so28, hown, rfl⟩
              have bq28 : Hid (Below V2.heap.size V2 x28) := hid (bq27.out.trans (hbx.mono bq27.out.size))
              have hne28 : Hid (∀ g', so28 = some ⟨g', 0, none⟩ → g' ≠ V2.heap.size) := hid (fun g' e => by have h1 := (own_rng hown e).1; have h2 := hat25_27.out.lt; omega)
              have hat25_28 := hid (At.keptAll hat25_27.out hbx)
              have ho28 := hid (hown.mono bq27.out.size)
              refine hK.out _ _ (hcells.out _ bq28.out) (fun hH28 => ?_)
              clear hK K hbx hown
              (refine' wpAnyH_take (i := 5) rfl (by kernel_rfl) (by kernel_rfl) (by kernel_rfl) (fun _ _ _ h => h) (Or.inl ⟨by rfl, ?_⟩) (by assumption) ?_; rotate_left; (· (intro wq hq; (try dsimp only at hq); go_simp; first | done | with_reducible rfl)); simp only [Act.put, List.getElem_toArray, List.getElem_cons_zero, List.getElem_cons_succ, List.setIfInBounds_toArray, List.set_cons_zero, List.set_cons_succ])
              (refine' wpAnyH_take (i := 6) rfl (by kernel_rfl) (by kernel_rfl) (by kernel_rfl) (fun _ _ _ h => h) (Or.inl ⟨by rfl, ?_⟩) (by assumption) ?_; rotate_left; (· (intro wq hq; (try dsimp only at hq); go_simp; first | done | with_reducible rfl)); simp only [Act.put, List.getElem_toArray, List.getElem_cons_zero, List.getElem_cons_succ, List.setIfInBounds_toArray, List.set_cons_zero, List.set_cons_succ])
              refine wpAnyH_ready (rs := [7, 9]) (by kernel_rfl) (by simp) ?_
              refine AllReadyH.cons rfl (fun K hK => ?_) ?_
              · rw [if_pos (by rfl)]
                go_simp
                refine hK.out _ _ (hcells.out _ bq28.out) (fun hH29 => ?_)
                clear hK K
                refine wpAnyH_ready (rs := [9]) (by kernel_rfl) (by simp) ?_
                refine AllReadyH.cons rfl (fun K hK => ?_) ?_
                · obtain ⟨d0, d1, f0, f1⟩ := hat25_28.out.facts
                  have qz30 : Hid (Below V2.heap.size V2 ((x28.setCell ⟨V2.heap.size, 0, none⟩ (.int .i64 q4)).setCell ⟨V2.heap.size, 1, none⟩ (.slice so28 r4 r4))) := hid ((bq28.out.setCell (p := ⟨V2.heap.size, 0, none⟩) hbt25.out _).setCell (p := ⟨V2.heap.size, 1, none⟩) hbt25.out _)
                  go_simp
                  refine hK.out _ _ (hcells.out _ qz30.out) (fun hH30 => ?_)
                  clear hK K d0 d1 f0 f1
                  (refine' wpAnyH_take (i := 10) rfl (by kernel_rfl) (by kernel_rfl) (by kernel_rfl) (fun _ _ _ h => h) (Or.inl ⟨by rfl, ?_⟩) (by assumption) ?_; rotate_left; (· (intro wq hq; (try dsimp only at hq); go_simp; first | done | with_reducible rfl)); simp only [Act.put, List.getElem_toArray, List.getElem_cons_zero, List.getElem_cons_succ, List.setIfInBounds_toArray, List.set_cons_zero, List.set_cons_succ])
                  refine wpAnyH_done (by kernel_rfl) ?_ _
                  refine hK18 _ _ ?_
                  go_wp2
                  go_meet
                  case rel => exact ⟨_, so28, rfl, rfl, hid hat25_28.out.two, hid (own_two ho28.out hne28.out _ _), qz30, hbt25⟩
                exact AllReadyH.nil
              refine AllReadyH.cons rfl (fun K hK => ?_) ?_
              · obtain ⟨d0, d1, f0, f1⟩ := hat25_28.out.facts
                have qz31 : Hid (Below V2.heap.size V2 ((x28.setCell ⟨V2.heap.size, 0, none⟩ (.int .i64 q4)).setCell ⟨V2.heap.size, 1, none⟩ (.slice so28 r4 r4))) := hid ((bq28.out.setCell (p := ⟨V2.heap.size, 0, none⟩) hbt25.out _).setCell (p := ⟨V2.heap.size, 1, none⟩) hbt25.out _)
                go_simp
                refine hK.out _ _ (hcells.out _ qz31.out) (fun hH31 => ?_)
                clear hK K d0 d1 f0 f1
                refine wpAnyH_ready (rs := [7]) (by kernel_rfl) (by simp) ?_
                refine AllReadyH.cons rfl (fun K hK => ?_) ?_
                · rw [if_pos (by rfl)]
                  go_simp
                  refine hK.out _ _ (hcells.out _ qz31.out) (fun hH32 => ?_)
                  clear hK K
                  (refine' wpAnyH_take (i := 10) rfl (by kernel_rfl) (by kernel_rfl) (by kernel_rfl) (fun _ _ _ h => h) (Or.inl ⟨by rfl, ?_⟩) (by assumption) ?_; rotate_left; (· (intro wq hq; (try dsimp only at hq); go_simp; first | done | with_reducible rfl)); simp only [Act.put, List.getElem_toArray, List.getElem_cons_zero, List.getElem_cons_succ, List.setIfInBounds_toArray, List.set_cons_zero, List.set_cons_succ])
                  refine wpAnyH_done (by kernel_rfl) ?_ _
                  refine hK18 _ _ ?_
                  go_wp2
                  go_meet
                  case rel => exact ⟨_, so28, rfl, rfl, hid hat25_28.out.two, hid (own_two ho28.out hne28.out _ _), qz31, hbt25⟩
                exact AllReadyH.nil
              exact AllReadyH.nil
            exact AllReadyH.nil
          exact AllReadyH.nil
        exact AllReadyH.nil
      exact AllReadyH.nil
    case rest => as_aux_lemma =>
      obtain ⟨bt, so_two, rfl, rfl, hat, hown2, hfw, hbt⟩ := hcut
      obtain ⟨w27, rfl⟩ : ∃ w27, w27 = wc := ⟨_, rfl⟩
      have hb : Below V2.heap.size V2 w27 := hfw.out
      have hown : Own V2.heap.size w27 so_two r4 (rowOf (fun i => bitAt (fun j => 9000027 + j) i && bitAt (fun j => 9000027 + j) i) n.toNat) := hown2.out
      clear hfw hown2
      obtain ⟨F_two, hrx⟩ := rowsX_push (K26_rx.out) hb (K26_fb.out) hown
      have sx_two := hid (slX_own hown)
      skip
      have K27_a := hid (At.keptAll (K26_a.out) hb)
      have K27_b := hid (At.keptAll (K26_b.out) hb)
      have K27_fb := hid ((K26_fb.out).kept hb)
      have K27_x := hid (At.keptAll (K26_x.out) hb)
      have K27_op := hid ((K26_op.out).kept hb)
      have K27_p := hid (At.keptAll (K26_p.out) hb)
      have K27_oq := hid ((K26_oq.out).kept hb)
      have K27_q := hid (At.keptAll (K26_q.out) hb)
      have K27_r := hid (At.keptAll (K26_r.out) hb)
      have K27_m := hid (At.keptAll (K26_m.out) hb)
      have K27_os := hid ((K26_os.out).kept hb)
      have K27_s := hid (At.keptAll (K26_s.out) hb)
      have K27_ot := hid ((K26_ot.out).kept hb)
      have K27_t := hid (At.keptAll (K26_t.out) hb)
      have K27_u := hid (At.keptAll (K26_u.out) hb)
      have K27_w := hid (At.keptAll (K26_w.out) hb)
      have K27_v := hid (At.keptAll (K26_v.out) hb)
      have K27_ov := hid ((K26_ov.out).kept hb)
      have K27_oone := hid ((K26_oone.out).kept hb)
      have K27_one := hid (At.keptAll (K26_one.out) hb)
      have hB27 : Below w.heap.size w w27 := Below.trans hB26 (Below.mono hb hB26.size)
      clear K26_a K26_b K26_fb K26_x K26_op K26_p K26_oq K26_q K26_r K26_m K26_os K26_s K26_ot K26_t K26_u K26_w K26_v K26_ov K26_rx K26_oone K26_one hb hB26
      have K27_rx := hid hrx
      clear hrx
      have K27_otwo := hid hown
      clear hown
      have K27_two := hat
      clear hat
      clear ne_a_x ne_b_x ne_lx_x ne_a_p ne_b_p ne_lx_p ne_x_p ne_a_q ne_b_q ne_lx_q ne_x_q ne_p_q ne_a_r ne_b_r ne_lx_r ne_x_r ne_p_r ne_q_r ne_a_m ne_b_m ne_lx_m ne_x_m ne_p_m ne_q_m ne_r_m ne_a_s ne_b_s ne_lx_s ne_x_s ne_p_s ne_q_s ne_r_s ne_m_s ne_a_t ne_b_t ne_lx_t ne_x_t ne_p_t ne_q_t ne_r_t ne_m_t ne_s_t ne_a_u ne_b_u ne_lx_u ne_x_u ne_p_u ne_q_u ne_r_u ne_m_u ne_s_u ne_t_u ne_a_w ne_b_w ne_lx_w ne_x_w ne_p_w ne_q_w ne_r_w ne_m_w ne_s_w ne_t_w ne_u_w ne_a_v ne_b_v ne_lx_v ne_x_v ne_p_v ne_q_v ne_r_v ne_m_v ne_s_v ne_t_v ne_u_v ne_w_v ne_a_one ne_b_one ne_x_one ne_p_one ne_q_one ne_r_one ne_m_one ne_s_one ne_t_one ne_u_one ne_w_one ne_v_one
      obtain ⟨c0_one, c1_one, f0_one, f1_one⟩ := (K27_one.out).facts
      obtain ⟨c0_two, c1_two, f0_two, f1_two⟩ := (K27_two.out).facts
      go_wp2_with fail
      have s28_a := hid (K27_a.out).lt
      have s28_b := hid (K27_b.out).lt
      have s28_x := hid (K27_x.out).lt
      have s28_p := hid (K27_p.out).lt
      have s28_q := hid (K27_q.out).lt
      have s28_r := hid (K27_r.out).lt
      have s28_m := hid (K27_m.out).lt
      have s28_s := hid (K27_s.out).lt
      have s28_t := hid (K27_t.out).lt
      have s28_u := hid (K27_u.out).lt
      have s28_w := hid (K27_w.out).lt
      have s28_v := hid (K27_v.out).lt
      have s28_one := hid (K27_one.out).lt
      have s28_two := hid (K27_two.out).lt
      refine Calls.mono (same_true q4 so_one so_two r4 r4 r4 (rowOf (fun i => bitAt (fun j => 9000027 + j) i && bitAt (fun j => 9000027 + j) i) n.toNat) hq4.out (by omega) _ ((K27_oone.out).wds (fun _ _ => rowOf_lt _ _ _)) ((K27_otwo.out).wds (fun _ _ => rowOf_lt _ _ _))) ?_
      rintro e w28 ⟨rfl, hb⟩
      clear c0_one c1_one f0_one f1_one c0_two c1_two f0_two f1_two
      have K28_a := hid (At.keptAll (K27_a.out) hb)
      have K28_b := hid (At.keptAll (K27_b.out) hb)
      have K28_fb := hid ((K27_fb.out).kept hb)
      have K28_x := hid (At.keptAll (K27_x.out) hb)
      have K28_op := hid ((K27_op.out).kept hb)
      have K28_p := hid (At.keptAll (K27_p.out) hb)
      have K28_oq := hid ((K27_oq.out).kept hb)
      have K28_q := hid (At.keptAll (K27_q.out) hb)
      have K28_r := hid (At.keptAll (K27_r.out) hb)
      have K28_m := hid (At.keptAll (K27_m.out) hb)
      have K28_os := hid ((K27_os.out).kept hb)
      have K28_s := hid (At.keptAll (K27_s.out) hb)
      have K28_ot := hid ((K27_ot.out).kept hb)
      have K28_t := hid (At.keptAll (K27_t.out) hb)
      have K28_u := hid (At.keptAll (K27_u.out) hb)
      have K28_w := hid (At.keptAll (K27_w.out) hb)
      have K28_v := hid (At.keptAll (K27_v.out) hb)
      have K28_ov := hid ((K27_ov.out).kept hb)
      have K28_oone := hid ((K27_oone.out).kept hb)
      have K28_one := hid (At.keptAll (K27_one.out) hb)
      have K28_rx := hid ((K27_rx.out).kept hb)
      have K28_otwo := hid ((K27_otwo.out).kept hb)
      have K28_two := hid (At.keptAll (K27_two.out) hb)
      have hB28 : Below w.heap.size w w28 := Below.trans hB27 (Below.mono hb hB27.size)
      clear K27_a K27_b K27_fb K27_x K27_op K27_p K27_oq K27_q K27_r K27_m K27_os K27_s K27_ot K27_t K27_u K27_w K27_v K27_ov K27_oone K27_one K27_rx K27_otwo K27_two hb hB27
      obtain ⟨c0_p, c1_p, f0_p, f1_p⟩ := (K28_p.out).facts
      obtain ⟨c0_s, c1_s, f0_s, f1_s⟩ := (K28_s.out).facts
      go_wp2_with fail
      have s29_a := hid (K28_a.out).lt
      have s29_b := hid (K28_b.out).lt
      have s29_x := hid (K28_x.out).lt
      have s29_p := hid (K28_p.out).lt
      have s29_q := hid (K28_q.out).lt
      have s29_r := hid (K28_r.out).lt
      have s29_m := hid (K28_m.out).lt
      have s29_s := hid (K28_s.out).lt
      have s29_t := hid (K28_t.out).lt
      have s29_u := hid (K28_u.out).lt
      have s29_w := hid (K28_w.out).lt
      have s29_v := hid (K28_v.out).lt
      have s29_one := hid (K28_one.out).lt
      have s29_two := hid (K28_two.out).lt
      refine Calls.mono (same_true q so_p so_s r r r (rowOf (fun i => bitAt X i && bitAt X i) n.toNat) hq.out (by omega) _ ((K28_op.out).wds (fun _ _ => rowOf_lt _ _ _)) ((K28_os.out).wds (fun _ _ => rowOf_lt _ _ _))) ?_
      rintro e w29 ⟨rfl, hb⟩
      clear c0_p c1_p f0_p f1_p c0_s c1_s f0_s f1_s
      have K29_a := hid (At.keptAll (K28_a.out) hb)
      have K29_b := hid (At.keptAll (K28_b.out) hb)
      have K29_fb := hid ((K28_fb.out).kept hb)
      have K29_x := hid (At.keptAll (K28_x.out) hb)
      have K29_op := hid ((K28_op.out).kept hb)
      have K29_p := hid (At.keptAll (K28_p.out) hb)
      have K29_oq := hid ((K28_oq.out).kept hb)
      have K29_q := hid (At.keptAll (K28_q.out) hb)
      have K29_r := hid (At.keptAll (K28_r.out) hb)
      have K29_m := hid (At.keptAll (K28_m.out) hb)
      have K29_os := hid ((K28_os.out).kept hb)
      have K29_s := hid (At.keptAll (K28_s.out) hb)
      have K29_ot := hid ((K28_ot.out).kept hb)
      have K29_t := hid (At.keptAll (K28_t.out) hb)
      have K29_u := hid (At.keptAll (K28_u.out) hb)
      have K29_w := hid (At.keptAll (K28_w.out) hb)
      have K29_v := hid (At.keptAll (K28_v.out) hb)
      have K29_ov := hid ((K28_ov.out).kept hb)
      have K29_oone := hid ((K28_oone.out).kept hb)
      have K29_one := hid (At.keptAll (K28_one.out) hb)
      have K29_rx := hid ((K28_rx.out).kept hb)
      have K29_otwo := hid ((K28_otwo.out).kept hb)
      have K29_two := hid (At.keptAll (K28_two.out) hb)
      have hB29 : Below w.heap.size w w29 := Below.trans hB28 (Below.mono hb hB28.size)
      clear K28_a K28_b K28_fb K28_x K28_op K28_p K28_oq K28_q K28_r K28_m K28_os K28_s K28_ot K28_t K28_u K28_w K28_v K28_ov K28_oone K28_one K28_rx K28_otwo K28_two hb hB28
      obtain ⟨c0_q, c1_q, f0_q, f1_q⟩ := (K29_q.out).facts
      obtain ⟨c0_t, c1_t, f0_t, f1_t⟩ := (K29_t.out).facts
      go_wp2_with fail
      have s30_a := hid (K29_a.out).lt
      have s30_b := hid (K29_b.out).lt
      have s30_x := hid (K29_x.out).lt
      have s30_p := hid (K29_p.out).lt
      have s30_q := hid (K29_q.out).lt
      have s30_r := hid (K29_r.out).lt
      have s30_m := hid (K29_m.out).lt
      have s30_s := hid (K29_s.out).lt
      have s30_t := hid (K29_t.out).lt
      have s30_u := hid (K29_u.out).lt
      have s30_w := hid (K29_w.out).lt
      have s30_v := hid (K29_v.out).lt
      have s30_one := hid (K29_one.out).lt
      have s30_two := hid (K29_two.out).lt
      refine Calls.mono (same_true q2 so_q so_t r2 r2 r2 (rowOf (fun i => !bitAt X i) n.toNat) hq2.out (by omega) _ ((K29_oq.out).wds (fun _ _ => rowOf_lt _ _ _)) ((K29_ot.out).wds (fun _ _ => rowOf_lt _ _ _))) ?_
      rintro e w30 ⟨rfl, hb⟩
      clear c0_q c1_q f0_q f1_q c0_t c1_t f0_t f1_t
      have K30_a := hid (At.keptAll (K29_a.out) hb)
      have K30_b := hid (At.keptAll (K29_b.out) hb)
      have K30_fb := hid ((K29_fb.out).kept hb)
      have K30_x := hid (At.keptAll (K29_x.out) hb)
      have K30_op := hid ((K29_op.out).kept hb)
      have K30_p := hid (At.keptAll (K29_p.out) hb)
      have K30_oq := hid ((K29_oq.out).kept hb)
      have K30_q := hid (At.keptAll (K29_q.out) hb)
      have K30_r := hid (At.keptAll (K29_r.out) hb)
      have K30_m := hid (At.keptAll (K29_m.out) hb)
      have K30_os := hid ((K29_os.out).kept hb)
      have K30_s := hid (At.keptAll (K29_s.out) hb)
      have K30_ot := hid ((K29_ot.out).kept hb)
      have K30_t := hid (At.keptAll (K29_t.out) hb)
      have K30_u := hid (At.keptAll (K29_u.out) hb)
      have K30_w := hid (At.keptAll (K29_w.out) hb)
      have K30_v := hid (At.keptAll (K29_v.out) hb)
      have K30_ov := hid ((K29_ov.out).kept hb)
      have K30_oone := hid ((K29_oone.out).kept hb)
      have K30_one := hid (At.keptAll (K29_one.out) hb)
      have K30_rx := hid ((K29_rx.out).kept hb)
      have K30_otwo := hid ((K29_otwo.out).kept hb)
      have K30_two := hid (At.keptAll (K29_two.out) hb)
      have hB30 : Below w.heap.size w w30 := Below.trans hB29 (Below.mono hb hB29.size)
      clear K29_a K29_b K29_fb K29_x K29_op K29_p K29_oq K29_q K29_r K29_m K29_os K29_s K29_ot K29_t K29_u K29_w K29_v K29_ov K29_oone K29_one K29_rx K29_otwo K29_two hb hB29
      have hr' := hid hr
      have hr2' := hid hr2
      have hr4' := hid hr4
      have hKml' := hid hKml
      have hk' := hid hk
      clear hNPi eE eE4 hl hpl hNPl hr hr2 hr4 hKml hk
      go_upto_region 21 with fail
      refine wp_region_lit ?_
      refine wpList_load_want 24 _ (w4.heap.size) 0 [.int .i64 q, .slice so_p r r] _ ((K30_p.out).range rfl) Tryd.underlying24 sizeBits rfl rfl rfl (by rfl) ?_
      simp only [Act.put, List.setIfInBounds_toArray, List.set_cons_zero, List.set_cons_succ]
      refine wpList_load_want 24 _ (w6.heap.size) 0 [.int .i64 q2, .slice so_q r2 r2] _ ((K30_q.out).range rfl) Tryd.underlying24 sizeBits rfl rfl rfl (by rfl) ?_
      simp only [Act.put, List.setIfInBounds_toArray, List.set_cons_zero, List.set_cons_succ]
      refine wpList_load_want 24 _ (w8.heap.size) 0 [.int .i64 q2, .slice so_r r2 r2] _ ((K30_r.out).range rfl) Tryd.underlying24 sizeBits rfl rfl rfl (by rfl) ?_
      simp only [Act.put, List.setIfInBounds_toArray, List.set_cons_zero, List.set_cons_succ]
      refine wpList_load_want 24 _ (w10.heap.size) 0 [.int .i64 NP, .slice (some ⟨gm, 0, none⟩) Km Km] _ ((K30_m.out).range rfl) Tryd.underlying24 sizeBits rfl rfl rfl (by rfl) ?_
      simp only [Act.put, List.setIfInBounds_toArray, List.set_cons_zero, List.set_cons_succ]
      refine wpList_load_want 24 _ (w13.heap.size) 0 [.int .i64 q, .slice so_s r r] _ ((K30_s.out).range rfl) Tryd.underlying24 sizeBits rfl rfl rfl (by rfl) ?_
      simp only [Act.put, List.setIfInBounds_toArray, List.set_cons_zero, List.set_cons_succ]
      refine wpList_load_want 24 _ (w15.heap.size) 0 [.int .i64 q2, .slice so_t r2 r2] _ ((K30_t.out).range rfl) Tryd.underlying24 sizeBits rfl rfl rfl (by rfl) ?_
      simp only [Act.put, List.setIfInBounds_toArray, List.set_cons_zero, List.set_cons_succ]
      refine wpList_load_want 24 _ (w17.heap.size) 0 [.int .i64 q, .slice so_u r r] _ ((K30_u.out).range rfl) Tryd.underlying24 sizeBits rfl rfl rfl (by rfl) ?_
      simp only [Act.put, List.setIfInBounds_toArray, List.set_cons_zero, List.set_cons_succ]
      refine wpList_load_want 24 _ (w19.heap.size) 0 [.int .i64 q, .slice so_w r r] _ ((K30_w.out).range rfl) Tryd.underlying24 sizeBits rfl rfl rfl (by rfl) ?_
      simp only [Act.put, List.setIfInBounds_toArray, List.set_cons_zero, List.set_cons_succ]
      refine wpList_load_want 24 _ (w21.heap.size) 0 [.int .i64 q, .slice so_v r r] _ ((K30_v.out).range rfl) Tryd.underlying24 sizeBits rfl rfl rfl (by rfl) ?_
      simp only [Act.put, List.setIfInBounds_toArray, List.set_cons_zero, List.set_cons_succ]
      refine wpList_load_want 24 _ (w25.heap.size) 0 [.int .i64 q4, .slice so_one r4 r4] _ ((K30_one.out).range rfl) Tryd.underlying24 sizeBits rfl rfl rfl (by rfl) ?_
      simp only [Act.put, List.setIfInBounds_toArray, List.set_cons_zero, List.set_cons_succ]
      refine wpList_load_want 24 _ (bt) 0 [.int .i64 q4, .slice so_two r4 r4] _ ((K30_two.out).range rfl) Tryd.underlying24 sizeBits rfl rfl rfl (by rfl) ?_
      simp only [Act.put, List.setIfInBounds_toArray, List.set_cons_zero, List.set_cons_succ]
      refine wpList_build rfl _ _ _ rfl _ (by simp only [List.map_toArray, List.map_cons, List.map_nil]; rfl) _ _ (run_build11 (.int .i64 q) (.slice so_p r r) (.int .i64 q2) (.slice so_q r2 r2) (.int .i64 q2) (.slice so_r r2 r2) (.int .i64 NP) (.slice (some ⟨gm, 0, none⟩) Km Km) (.int .i64 q) (.slice so_s r r) (.int .i64 q2) (.slice so_t r2 r2) (.int .i64 q) (.slice so_u r r) (.int .i64 q) (.slice so_w r r) (.int .i64 q) (.slice so_v r r) (.int .i64 q4) (.slice so_one r4 r4) (.int .i64 q4) (.slice so_two r4 r4) _) ?_
      simp only [Act.put, List.setIfInBounds_toArray, List.set_cons_zero, List.set_cons_succ]
      go_wp2_with fail
      have hr := hr'.out
      have hr2 := hr2'.out
      have hr4 := hr4'.out
      have hKml := hKml'.out
      have hk := hk'.out
      have al : Below w30.heap.size w30 (w30.alloc (.cells #[.int .i64 q, .slice so_p r r, .int .i64 q2, .slice so_q r2 r2, .int .i64 q2, .slice so_r r2 r2, .int .i64 NP, .slice (some ⟨gm, 0, none⟩) Km Km, .int .i64 q, .slice so_s r r, .int .i64 q2, .slice so_t r2 r2, .int .i64 q, .slice so_u r r, .int .i64 q, .slice so_w r r, .int .i64 q, .slice so_v r r, .int .i64 q4, .slice so_one r4 r4, .int .i64 q4, .slice so_two r4 r4] 24)) := (Below.refl _ _).alloc (Nat.le_refl _) _
      have hAl := At.new w30 #[.int .i64 q, .slice so_p r r, .int .i64 q2, .slice so_q r2 r2, .int .i64 q2, .slice so_r r2 r2, .int .i64 NP, .slice (some ⟨gm, 0, none⟩) Km Km, .int .i64 q, .slice so_s r r, .int .i64 q2, .slice so_t r2 r2, .int .i64 q, .slice so_u r r, .int .i64 q, .slice so_w r r, .int .i64 q, .slice so_v r r, .int .i64 q4, .slice so_one r4 r4, .int .i64 q4, .slice so_two r4 r4] 24
      have hRX := (K30_rx.out).kept al
      have hfbz : b0 ≤ (w30.alloc (.cells #[.int .i64 q, .slice so_p r r, .int .i64 q2, .slice so_q r2 r2, .int .i64 q2, .slice so_r r2 r2, .int .i64 NP, .slice (some ⟨gm, 0, none⟩) Km Km, .int .i64 q, .slice so_s r r, .int .i64 q2, .slice so_t r2 r2, .int .i64 q, .slice so_u r r, .int .i64 q, .slice so_w r r, .int .i64 q, .slice so_v r r, .int .i64 q4, .slice so_one r4 r4, .int .i64 q4, .slice so_two r4 r4] 24)).heap.size := (K30_fb.out).kept al
      have hBz := hid (hB30.alloc hB30.size (.cells #[.int .i64 q, .slice so_p r r, .int .i64 q2, .slice so_q r2 r2, .int .i64 q2, .slice so_r r2 r2, .int .i64 NP, .slice (some ⟨gm, 0, none⟩) Km Km, .int .i64 q, .slice so_s r r, .int .i64 q2, .slice so_t r2 r2, .int .i64 q, .slice so_u r r, .int .i64 q, .slice so_w r r, .int .i64 q, .slice so_v r r, .int .i64 q4, .slice so_one r4 r4, .int .i64 q4, .slice so_two r4 r4] 24))
      refine Calls.mono (apartR_calls _ w30.heap.size 11 11 b0 _ _ rfl (by decide) (by decide) (fun x hx => by
          simp at hx
          rcases hx with rfl | rfl | rfl | rfl | rfl | rfl | rfl | rfl | rfl | rfl | rfl
          · show r ≤ 17592186044351; omega
          · show r2 ≤ 17592186044351; omega
          · show r2 ≤ 17592186044351; omega
          · show Km ≤ 17592186044351; omega
          · show r ≤ 17592186044351; omega
          · show r2 ≤ 17592186044351; omega
          · show r ≤ 17592186044351; omega
          · show r ≤ 17592186044351; omega
          · show r ≤ 17592186044351; omega
          · show r4 ≤ 17592186044351; omega
          · show r4 ≤ 17592186044351; omega) hfbz (fun kk x hx => by
          rw [hAl.cell (kk * 2 + 1)]
          match kk, hx with
          | 0, hx => simp at hx; subst hx; rw [sx_p.out]; rfl
          | 1, hx => simp at hx; subst hx; rw [sx_q.out]; rfl
          | 2, hx => simp at hx; subst hx; rw [sx_r.out]; rfl
          | 3, hx => simp at hx; subst hx; rw [sx_m.out]; rfl
          | 4, hx => simp at hx; subst hx; rw [sx_s.out]; rfl
          | 5, hx => simp at hx; subst hx; rw [sx_t.out]; rfl
          | 6, hx => simp at hx; subst hx; rw [sx_u.out]; rfl
          | 7, hx => simp at hx; subst hx; rw [sx_w.out]; rfl
          | 8, hx => simp at hx; subst hx; rw [sx_v.out]; rfl
          | 9, hx => simp at hx; subst hx; rw [sx_one.out]; rfl
          | 10, hx => simp at hx; subst hx; rw [sx_two.out]; rfl
          | kk + 11, hx => simp at hx) hRX) ?_
      rintro e wz ⟨rfl, hA⟩
      have hBe := hid (hBz.out.trans (hA.1.mono (show w.heap.size ≤ b0 from by have h1 := hgw.out; have h2 := hgb0.out; omega)))
      clear hA hRX hAl al
      go_wp2
      go_ret
      exact ⟨rfl, hBe.out⟩
end Go.Proofs.YtkdcloiepeenoaaDoor
