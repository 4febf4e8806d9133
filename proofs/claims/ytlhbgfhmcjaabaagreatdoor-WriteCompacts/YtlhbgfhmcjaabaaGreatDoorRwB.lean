/-
 The reference's compact text: arrays, objects, any value (by gen_rwb.py).
-/
import Derived.Test.YtlhbgfhmcjaabaaGreatDoorRwA
namespace Go.Proofs.YtlhbgfhmcjaabaaGreatDoor
open Go.RowKit Go.Shelf
def C58 : ByteArray := ⟨#[58]⟩
def E0 : ByteArray := ⟨#[]⟩
set_option maxRecDepth 10000 in
set_option maxHeartbeats 8000000 in
theorem cmp18_5 (b : Bool) (r t : ByteArray) (ks : List ByteArray) (vs : List Vt) (ko vo : Option Addr) (kc vc : Nat) (X : Nat → Array Value) (d : Nat) (L : List UInt8) (hL : Hid (91 :: (ptA C58 E0 0 vs d 0 ++ [93]) = L)) (hn : Hid (L.length ≤ 140737488355328)) (hvl : (vs.length : Int) ≤ 140737488351232)
  (hc : Hid (∀ (q : Nat) (u : Vt), vs[q]? = some u → (ptV C58 E0 0 u (d + 1)).length ≤ 140737488355328 → ∀ (va : Value) (x : World), ValAt x u va → Calls Tryz.prog 28 #[va] x fun e w' => e = .returned (.string (mkB (ptV C58 E0 0 u (d + 1)))) ∧ Below x.heap.size x w'))
  (w : World) (hr : Hid (RowAt w vo vs.length X)) (hv : Hid (∀ (i : Nat) (u : Vt), vs[i]? = some u → ValAt w u (.agg (X i)))) :
  Calls Tryz.prog 28 #[.agg #[.int .i64 5, .bool b, .string r, .string t, .slice ko ks.length kc, .slice vo vs.length vc]] w fun e w' => e = .returned (.string (mkB L)) ∧ Below w.heap.size w w' := by
 have hlq : Hid (∀ q, ([91] ++ ptA C58 E0 0 (vs.take q) d 0).length ≤ 140737488355328) := fun q => by
  have h1 := ptA_part (cl := C58) (ln := E0) (ix := 0) d vs q
  have := hn.out
  rw [← hL.out] at this
  simp only [List.length_append, List.length_cons, List.length_nil] at this ⊢
  omega
 obtain ⟨N, hN⟩ : ∃ N, Hid (ks.length = N) := ⟨_, rfl⟩
 obtain ⟨M, hM⟩ : ∃ M, Hid (vs.length = M) := ⟨_, rfl⟩
 rw [hM.out] at hvl
 rw [hN.out, hM.out]
 have hen := hid (fun u => ends18_5 b r t ko vo N kc M vc u)
 have A0 := hid (At.new w #[.int .i64 5, .bool b, .string r, .string t, .slice ko N kc, .slice vo M vc] 25)
 have B0 := hid (show Below w.heap.size w (w.alloc (.cells #[.int .i64 5, .bool b, .string r, .string t, .slice ko N kc, .slice vo M vc] 25)) from (Below.refl _ _).alloc (Nat.le_refl _) _)
 obtain ⟨p, hp⟩ : ∃ p, Hid (w.heap.size = p) := ⟨_, rfl⟩
 rw [hp.out] at A0
 go_enter Tryz.func28, Tryz.ntmps28
 go_upto_region 1 with fail
 rw [hp.out]
 generalize w.alloc (.cells #[.int .i64 5, .bool b, .string r, .string t, .slice ko N kc, .slice vo M vc] 25) = W at A0 B0 ⊢
 have d0 := A0.out.cell 0
 have d1 := A0.out.cell 1
 have d2 := A0.out.cell 2
 have d3 := A0.out.cell 3
 have d4 := A0.out.cell 4
 have d5 := A0.out.cell 5
 simp only [List.getElem?_toArray, List.getElem?_cons_zero, List.getElem?_cons_succ] at d0 d1 d2 d3 d4 d5
 go_wp2_with (go_at_call 42; refine Calls.mono (hen.out W) ?_; rintro e w1 ⟨rfl, hb⟩; have A1 := hid (A0.out.keptAll hb); have B1 := hid (B0.out.trans (hb.mono B0.out.size)); clear hb hen A0 B0 d0 d1 d2 d3 d4 d5)
 go_loopw [5, 6] (fun ss ii wr => ∃ (q : Nat) (LQ : List UInt8), q ≤ M ∧ ii = .int .i64 (q : Int) ∧ ss = .string (mkB LQ) ∧ Hid ([91] ++ ptA C58 E0 0 (vs.take q) d 0 = LQ) ∧ Hid (Below w.heap.size w wr) ∧ Hid (At wr p #[.int .i64 5, .bool b, .string r, .string t, .slice ko N kc, .slice vo M vc] 25)) (fun _ ii _ => M - (intOf ii).toNat)
 case atStart => exact ⟨0, [91], Nat.zero_le _, rfl, rfl, hid (by simp [ptA]), B1, A1⟩
 case round =>
  clear A1 B1
  obtain ⟨q, LQ, hqM, rfl, rfl, hLQ, hB, hA⟩ := hrel
  have d0 := hA.out.cell 0
  have d1 := hA.out.cell 1
  have d2 := hA.out.cell 2
  have d3 := hA.out.cell 3
  have d4 := hA.out.cell 4
  have d5 := hA.out.cell 5
  simp only [List.getElem?_toArray, List.getElem?_cons_zero, List.getElem?_cons_succ] at d0 d1 d2 d3 d4 d5
  by_cases hq : q < M
  ·have hqi : (q : Int) < (M : Int) := by omega
   have hlv : q < vs.length := by rw [hM.out]; exact hq
   obtain ⟨u, hu⟩ : ∃ u, vs[q]? = some u := ⟨_, List.getElem?_eq_getElem hlv⟩
   have hta := hid (ptA_take (cl := C58) (ln := E0) (ix := 0) d hu)
   have hb2 := hlq.out (q + 1)
   obtain ⟨UT, hUT⟩ : ∃ UT : List UInt8, Hid (ptV C58 E0 0 u (d + 1) = UT) := ⟨_, hid rfl⟩
   have hcu := hid (hc.out q u hu)
   rw [hUT.out] at hcu
   obtain ⟨g, o, rfl, hg, hrg, -⟩ := row_range (hr.out.kept hB.out) (i := q) hlv
   obtain ⟨L0, hL0⟩ : ∃ L, (X q).toList = L := ⟨_, rfl⟩
   rw [hL0] at hrg
   have hVu : ValAt wr u (.agg L0.toArray) := by
    have := (hv.out q u hu).kept hB.out
    rw [← hL0, Array.toArray_toList]
    exact this
   obtain ⟨k1, b1, r1, t1, ko1, N1, kc1, vo1, M1, vc1, rfl⟩ := hVu.six
   have hrgk := hid hrg
   have hV := hid hVu
   have z1 : (Tryz.prog.info? 25).map (·.size) = some ([.int .i64 k1, .bool b1, .string r1, .string t1, .slice ko1 N1 kc1, .slice vo1 M1 vc1] : List Value).length := sizeVl
   clear hrg hVu hu hL0
   by_cases hq0 : 0 < q
   ·have e0 : decide ((0 : Int) < (q : Int)) = true := by simp; omega
    have e1 : decide (0 < q) = true := by simp; omega
    obtain ⟨L1, hL1⟩ : ∃ L1 : List UInt8, Hid (LQ ++ [44] = L1) := ⟨_, hid rfl⟩
    obtain ⟨L3, hL3⟩ : ∃ L3 : List UInt8, Hid (L1 = L3) := ⟨_, hid rfl⟩
    obtain ⟨L4, hL4⟩ : ∃ L4 : List UInt8, Hid (L3 ++ UT = L4) := ⟨_, hid rfl⟩
    have hfin : Hid (L4 = [91] ++ ptA C58 E0 0 (vs.take (q + 1)) d 0) := by
     show _ = _
     rw [hta.out, hUT.out, ← hL4.out, ← hL3.out, ← hL1.out, ← hLQ.out, if_pos hq0]
     simp [fdL, E0, C58, ByteArray.size]
    have g4 : L4.length ≤ 140737488355328 := by rw [hfin.out]; exact hb2
    have g3 : L3.length ≤ 140737488355328 := by rw [← hL4.out] at g4; simp only [List.length_append] at g4; omega
    have gu : UT.length ≤ 140737488355328 := by rw [← hL4.out] at g4; simp only [List.length_append] at g4; omega
    have g1 : L1.length ≤ 140737488355328 := by rw [hL3.out]; exact g3
    have a1 : ∀ u : World, (Op.stringOp .add (mkB LQ) ⟨#[44]⟩).run Tryz.prog u = .ok (.string (mkB L1)) u := fun u => mkB_add (b := [44]) hL1.out g1 u
    obtain rfl : L1 = L3 := hL3.out
    have a4 : ∀ u : World, (Op.stringOp .add (mkB L1) (mkB UT)).run Tryz.prog u = .ok (.string (mkB L4)) u := fun u => mkB_add hL4.out g4 u
    have hfin' := hid hfin.out
    have hcu' := hid (hcu.out gu)
    clear hcu hfin g4 g3 gu g1 hq0
    go_wp2_with (refine wpList_load_want 25 _ g (o + q * 6) [.int .i64 k1, .bool b1, .string r1, .string t1, .slice ko1 N1 kc1, .slice vo1 M1 vc1] _ hrgk.out Tryz.underlying25 z1 rfl rfl rfl (by rfl) ?_)
    refine Calls.mono (hcu'.out _ wr hV.out) ?_
    rintro e w2 ⟨rfl, hb⟩
    have A2 := hid (hA.out.keptAll hb); have B2 := hid (hB.out.trans (hb.mono hB.out.size))
    clear hb hcu' hrgk hV hA hB d0 d1 d2 d3 d4 d5
    go_wp2
    go_roundw
    case rel => exact ⟨q + 1, L4, by omega, by simp, rfl, hid hfin'.out.symm, B2, A2⟩
    case measure => simp [intOf]; omega
   ·have e0 : decide ((0 : Int) < (q : Int)) = false := by simp; omega
    have e1 : decide (0 < q) = false := by simp; omega
    obtain ⟨L1, hL1⟩ : ∃ L1 : List UInt8, Hid (LQ = L1) := ⟨_, hid rfl⟩
    obtain ⟨L3, hL3⟩ : ∃ L3 : List UInt8, Hid (L1 = L3) := ⟨_, hid rfl⟩
    obtain ⟨L4, hL4⟩ : ∃ L4 : List UInt8, Hid (L3 ++ UT = L4) := ⟨_, hid rfl⟩
    have hfin : Hid (L4 = [91] ++ ptA C58 E0 0 (vs.take (q + 1)) d 0) := by
     show _ = _
     rw [hta.out, hUT.out, ← hL4.out, ← hL3.out, ← hL1.out, ← hLQ.out, if_neg hq0]
     simp [fdL, E0, C58, ByteArray.size]
    have g4 : L4.length ≤ 140737488355328 := by rw [hfin.out]; exact hb2
    have g3 : L3.length ≤ 140737488355328 := by rw [← hL4.out] at g4; simp only [List.length_append] at g4; omega
    have gu : UT.length ≤ 140737488355328 := by rw [← hL4.out] at g4; simp only [List.length_append] at g4; omega
    have g1 : L1.length ≤ 140737488355328 := by rw [hL3.out]; exact g3
    obtain rfl : LQ = L1 := hL1.out
    obtain rfl : LQ = L3 := hL3.out
    have a4 : ∀ u : World, (Op.stringOp .add (mkB LQ) (mkB UT)).run Tryz.prog u = .ok (.string (mkB L4)) u := fun u => mkB_add hL4.out g4 u
    have hfin' := hid hfin.out
    have hcu' := hid (hcu.out gu)
    clear hcu hfin g4 g3 gu g1 hq0
    go_wp2_with (refine wpList_load_want 25 _ g (o + q * 6) [.int .i64 k1, .bool b1, .string r1, .string t1, .slice ko1 N1 kc1, .slice vo1 M1 vc1] _ hrgk.out Tryz.underlying25 z1 rfl rfl rfl (by rfl) ?_)
    refine Calls.mono (hcu'.out _ wr hV.out) ?_
    rintro e w2 ⟨rfl, hb⟩
    have A2 := hid (hA.out.keptAll hb); have B2 := hid (hB.out.trans (hb.mono hB.out.size))
    clear hb hcu' hrgk hV hA hB d0 d1 d2 d3 d4 d5
    go_wp2
    go_roundw
    case rel => exact ⟨q + 1, L4, by omega, by simp, rfl, hid hfin'.out.symm, B2, A2⟩
    case measure => simp [intOf]; omega
  ·obtain rfl : q = M := by omega
   have htk : vs.take q = vs := by rw [← hM.out]; exact List.take_length
   have a5 : ∀ u : World, (Op.stringOp .add (mkB LQ) ⟨#[93]⟩).run Tryz.prog u = .ok (.string (mkB L)) u := fun u => mkB_add (b := [93]) (by rw [← hLQ.out, htk, ← hL.out]; simp) hn.out u
   clear htk
   go_wp2
   go_ret
   exact ⟨rfl, hB.out⟩
set_option maxRecDepth 10000 in
set_option maxHeartbeats 8000000 in
theorem cmp18_6 (b : Bool) (r t : ByteArray) (ks : List ByteArray) (vs : List Vt) (hkv : ks.length = vs.length) (hks : ∀ (i : Nat) (k : ByteArray), ks[i]? = some k → k.size ≤ 4294967296) (ko vo : Option Addr) (kc vc : Nat) (X : Nat → Array Value) (d : Nat) (L : List UInt8) (hL : Hid (123 :: (ptO C58 E0 0 vs ks d 0 ++ [125]) = L)) (hn : Hid (L.length ≤ 140737488355328)) (hvl : (vs.length : Int) ≤ 140737488351232)
  (hc : Hid (∀ (q : Nat) (u : Vt), vs[q]? = some u → (ptV C58 E0 0 u (d + 1)).length ≤ 140737488355328 → ∀ (va : Value) (x : World), ValAt x u va → Calls Tryz.prog 28 #[va] x fun e w' => e = .returned (.string (mkB (ptV C58 E0 0 u (d + 1)))) ∧ Below x.heap.size x w'))
  (w : World) (hk : Hid (KeysAt w ko ks)) (hr : Hid (RowAt w vo vs.length X)) (hv : Hid (∀ (i : Nat) (u : Vt), vs[i]? = some u → ValAt w u (.agg (X i)))) :
  Calls Tryz.prog 28 #[.agg #[.int .i64 6, .bool b, .string r, .string t, .slice ko ks.length kc, .slice vo vs.length vc]] w fun e w' => e = .returned (.string (mkB L)) ∧ Below w.heap.size w w' := by
 have hlq : Hid (∀ q, ([123] ++ ptO C58 E0 0 (vs.take q) (ks.take q) d 0).length ≤ 140737488355328) := fun q => by
  have h1 := ptO_part (cl := C58) (ln := E0) (ix := 0) d vs ks hkv q
  have := hn.out
  rw [← hL.out] at this
  simp only [List.length_append, List.length_cons, List.length_nil] at this ⊢
  omega
 obtain ⟨N, hN⟩ : ∃ N, Hid (ks.length = N) := ⟨_, rfl⟩
 obtain ⟨M, hM⟩ : ∃ M, Hid (vs.length = M) := ⟨_, rfl⟩
 rw [hM.out] at hvl
 rw [hN.out, hM.out]
 have hen := hid (fun u => ends18_6 b r t ko vo N kc M vc u)
 have A0 := hid (At.new w #[.int .i64 6, .bool b, .string r, .string t, .slice ko N kc, .slice vo M vc] 25)
 have B0 := hid (show Below w.heap.size w (w.alloc (.cells #[.int .i64 6, .bool b, .string r, .string t, .slice ko N kc, .slice vo M vc] 25)) from (Below.refl _ _).alloc (Nat.le_refl _) _)
 obtain ⟨p, hp⟩ : ∃ p, Hid (w.heap.size = p) := ⟨_, rfl⟩
 rw [hp.out] at A0
 go_enter Tryz.func28, Tryz.ntmps28
 go_upto_region 1 with fail
 rw [hp.out]
 generalize w.alloc (.cells #[.int .i64 6, .bool b, .string r, .string t, .slice ko N kc, .slice vo M vc] 25) = W at A0 B0 ⊢
 have d0 := A0.out.cell 0
 have d1 := A0.out.cell 1
 have d2 := A0.out.cell 2
 have d3 := A0.out.cell 3
 have d4 := A0.out.cell 4
 have d5 := A0.out.cell 5
 simp only [List.getElem?_toArray, List.getElem?_cons_zero, List.getElem?_cons_succ] at d0 d1 d2 d3 d4 d5
 go_wp2_with (go_at_call 42; refine Calls.mono (hen.out W) ?_; rintro e w1 ⟨rfl, hb⟩; have A1 := hid (A0.out.keptAll hb); have B1 := hid (B0.out.trans (hb.mono B0.out.size)); clear hb hen A0 B0 d0 d1 d2 d3 d4 d5)
 go_loopw [5, 6] (fun ss ii wr => ∃ (q : Nat) (LQ : List UInt8), q ≤ M ∧ ii = .int .i64 (q : Int) ∧ ss = .string (mkB LQ) ∧ Hid ([123] ++ ptO C58 E0 0 (vs.take q) (ks.take q) d 0 = LQ) ∧ Hid (Below w.heap.size w wr) ∧ Hid (At wr p #[.int .i64 6, .bool b, .string r, .string t, .slice ko N kc, .slice vo M vc] 25)) (fun _ ii _ => M - (intOf ii).toNat)
 case atStart => exact ⟨0, [123], Nat.zero_le _, rfl, rfl, hid (by simp [ptO]), B1, A1⟩
 case round =>
  clear A1 B1
  obtain ⟨q, LQ, hqM, rfl, rfl, hLQ, hB, hA⟩ := hrel
  have d0 := hA.out.cell 0
  have d1 := hA.out.cell 1
  have d2 := hA.out.cell 2
  have d3 := hA.out.cell 3
  have d4 := hA.out.cell 4
  have d5 := hA.out.cell 5
  simp only [List.getElem?_toArray, List.getElem?_cons_zero, List.getElem?_cons_succ] at d0 d1 d2 d3 d4 d5
  by_cases hq : q < M
  ·have hqi : (q : Int) < (M : Int) := by omega
   have hlv : q < vs.length := by rw [hM.out]; exact hq
   obtain ⟨u, hu⟩ : ∃ u, vs[q]? = some u := ⟨_, List.getElem?_eq_getElem hlv⟩
   have hqN : (q : Int) < (N : Int) := by rw [← hN.out, hkv]; omega
   obtain ⟨KN, hKq⟩ : ∃ k, ks[q]? = some k := ⟨_, List.getElem?_eq_getElem (by rw [hkv]; exact hlv)⟩
   obtain ⟨-, kb, koff, rfl, -, hkc⟩ := (hk.out.kept hB.out) q KN hKq
   have hqu := hid (fun x => quo18_calls KN (hks q KN hKq) x)
   have hta := hid (ptO_take (cl := C58) (ln := E0) (ix := 0) d hkv hu hKq)
   have hb2 := hlq.out (q + 1)
   obtain ⟨UT, hUT⟩ : ∃ UT : List UInt8, Hid (ptV C58 E0 0 u (d + 1) = UT) := ⟨_, hid rfl⟩
   have hcu := hid (hc.out q u hu)
   rw [hUT.out] at hcu
   obtain ⟨g, o, rfl, hg, hrg, -⟩ := row_range (hr.out.kept hB.out) (i := q) hlv
   obtain ⟨L0, hL0⟩ : ∃ L, (X q).toList = L := ⟨_, rfl⟩
   rw [hL0] at hrg
   have hVu : ValAt wr u (.agg L0.toArray) := by
    have := (hv.out q u hu).kept hB.out
    rw [← hL0, Array.toArray_toList]
    exact this
   obtain ⟨k1, b1, r1, t1, ko1, N1, kc1, vo1, M1, vc1, rfl⟩ := hVu.six
   have hrgk := hid hrg
   have hV := hid hVu
   have hXl := hid hL0
   have z1 : (Tryz.prog.info? 25).map (·.size) = some ([.int .i64 k1, .bool b1, .string r1, .string t1, .slice ko1 N1 kc1, .slice vo1 M1 vc1] : List Value).length := sizeVl
   clear hrg hVu hu hL0 hKq
   by_cases hq0 : 0 < q
   ·have e0 : decide ((0 : Int) < (q : Int)) = true := by simp; omega
    have e1 : decide (0 < q) = true := by simp; omega
    obtain ⟨L1, hL1⟩ : ∃ L1 : List UInt8, Hid (LQ ++ [44] = L1) := ⟨_, hid rfl⟩
    obtain ⟨L2, hL2⟩ : ∃ L2 : List UInt8, Hid (L1 ++ quoL KN = L2) := ⟨_, hid rfl⟩
    obtain ⟨L3, hL3⟩ : ∃ L3 : List UInt8, Hid (L2 ++ [58] = L3) := ⟨_, hid rfl⟩
    obtain ⟨L4, hL4⟩ : ∃ L4 : List UInt8, Hid (L3 ++ UT = L4) := ⟨_, hid rfl⟩
    have hfin : Hid (L4 = [123] ++ ptO C58 E0 0 (vs.take (q + 1)) (ks.take (q + 1)) d 0) := by
     show _ = _
     rw [hta.out, hUT.out, ← hL4.out, ← hL3.out, ← hL2.out, ← hL1.out, ← hLQ.out, if_pos hq0]
     simp [fdL, E0, C58, ByteArray.size]
    have g4 : L4.length ≤ 140737488355328 := by rw [hfin.out]; exact hb2
    have g3 : L3.length ≤ 140737488355328 := by rw [← hL4.out] at g4; simp only [List.length_append] at g4; omega
    have gu : UT.length ≤ 140737488355328 := by rw [← hL4.out] at g4; simp only [List.length_append] at g4; omega
    have g2 : L2.length ≤ 140737488355328 := by rw [← hL3.out] at g3; simp only [List.length_append] at g3; omega
    have g1 : L1.length ≤ 140737488355328 := by rw [← hL2.out] at g2; simp only [List.length_append] at g2; omega
    have a1 : ∀ u : World, (Op.stringOp .add (mkB LQ) ⟨#[44]⟩).run Tryz.prog u = .ok (.string (mkB L1)) u := fun u => mkB_add (b := [44]) hL1.out g1 u
    have a2 : ∀ u : World, (Op.stringOp .add (mkB L1) (mkB (quoL KN))).run Tryz.prog u = .ok (.string (mkB L2)) u := fun u => mkB_add hL2.out g2 u
    have a3 : ∀ u : World, (Op.stringOp .add (mkB L2) ⟨#[58]⟩).run Tryz.prog u = .ok (.string (mkB L3)) u := fun u => mkB_add (b := [58]) hL3.out g3 u
    have a4 : ∀ u : World, (Op.stringOp .add (mkB L3) (mkB UT)).run Tryz.prog u = .ok (.string (mkB L4)) u := fun u => mkB_add hL4.out g4 u
    have hfin' := hid hfin.out
    have hcu' := hid (hcu.out gu)
    clear hcu hfin g4 g3 gu g1 g2 hq0
    go_wp2_with (first | (go_at_call 43; refine Calls.mono (hqu.out wr) ?_; rintro e w2 ⟨rfl, hb⟩; have A2 := hid (hA.out.keptAll hb); have B2 := hid (hB.out.trans (hb.mono hB.out.size)); obtain ⟨g2, o2, eg, -, hrg2, -⟩ := row_range (hr.out.kept B2.out) (i := q) hlv; cases eg; rw [hXl.out] at hrg2; have hr2 := hid hrg2; have V2 := hid (hV.out.kept hb); clear hrg2 hb hqu d0 d1 d2 d3 d4 d5 hkc hA hB hrgk hV; have d0 := A2.out.cell 0; have d5 := A2.out.cell 5; simp only [List.getElem?_toArray, List.getElem?_cons_zero, List.getElem?_cons_succ] at d0 d5) | (refine wpList_load_want 25 _ g (o + q * 6) [.int .i64 k1, .bool b1, .string r1, .string t1, .slice ko1 N1 kc1, .slice vo1 M1 vc1] _ hr2.out Tryz.underlying25 z1 rfl rfl rfl (by rfl) ?_))
    refine Calls.mono (hcu'.out _ w2 V2.out) ?_
    rintro e w3 ⟨rfl, hb⟩
    have A3 := hid (A2.out.keptAll hb)
    have B3 := hid (B2.out.trans (hb.mono B2.out.size))
    clear hb hcu' hr2 V2 A2 B2 d0 d5
    go_wp2
    go_roundw
    case rel => exact ⟨q + 1, L4, by omega, by simp, rfl, hid hfin'.out.symm, B3, A3⟩
    case measure => simp [intOf]; omega
   ·have e0 : decide ((0 : Int) < (q : Int)) = false := by simp; omega
    have e1 : decide (0 < q) = false := by simp; omega
    obtain ⟨L1, hL1⟩ : ∃ L1 : List UInt8, Hid (LQ = L1) := ⟨_, hid rfl⟩
    obtain ⟨L2, hL2⟩ : ∃ L2 : List UInt8, Hid (L1 ++ quoL KN = L2) := ⟨_, hid rfl⟩
    obtain ⟨L3, hL3⟩ : ∃ L3 : List UInt8, Hid (L2 ++ [58] = L3) := ⟨_, hid rfl⟩
    obtain ⟨L4, hL4⟩ : ∃ L4 : List UInt8, Hid (L3 ++ UT = L4) := ⟨_, hid rfl⟩
    have hfin : Hid (L4 = [123] ++ ptO C58 E0 0 (vs.take (q + 1)) (ks.take (q + 1)) d 0) := by
     show _ = _
     rw [hta.out, hUT.out, ← hL4.out, ← hL3.out, ← hL2.out, ← hL1.out, ← hLQ.out, if_neg hq0]
     simp [fdL, E0, C58, ByteArray.size]
    have g4 : L4.length ≤ 140737488355328 := by rw [hfin.out]; exact hb2
    have g3 : L3.length ≤ 140737488355328 := by rw [← hL4.out] at g4; simp only [List.length_append] at g4; omega
    have gu : UT.length ≤ 140737488355328 := by rw [← hL4.out] at g4; simp only [List.length_append] at g4; omega
    have g2 : L2.length ≤ 140737488355328 := by rw [← hL3.out] at g3; simp only [List.length_append] at g3; omega
    have g1 : L1.length ≤ 140737488355328 := by rw [← hL2.out] at g2; simp only [List.length_append] at g2; omega
    obtain rfl : LQ = L1 := hL1.out
    have a2 : ∀ u : World, (Op.stringOp .add (mkB LQ) (mkB (quoL KN))).run Tryz.prog u = .ok (.string (mkB L2)) u := fun u => mkB_add hL2.out g2 u
    have a3 : ∀ u : World, (Op.stringOp .add (mkB L2) ⟨#[58]⟩).run Tryz.prog u = .ok (.string (mkB L3)) u := fun u => mkB_add (b := [58]) hL3.out g3 u
    have a4 : ∀ u : World, (Op.stringOp .add (mkB L3) (mkB UT)).run Tryz.prog u = .ok (.string (mkB L4)) u := fun u => mkB_add hL4.out g4 u
    have hfin' := hid hfin.out
    have hcu' := hid (hcu.out gu)
    clear hcu hfin g4 g3 gu g1 g2 hq0
    go_wp2_with (first | (go_at_call 43; refine Calls.mono (hqu.out wr) ?_; rintro e w2 ⟨rfl, hb⟩; have A2 := hid (hA.out.keptAll hb); have B2 := hid (hB.out.trans (hb.mono hB.out.size)); obtain ⟨g2, o2, eg, -, hrg2, -⟩ := row_range (hr.out.kept B2.out) (i := q) hlv; cases eg; rw [hXl.out] at hrg2; have hr2 := hid hrg2; have V2 := hid (hV.out.kept hb); clear hrg2 hb hqu d0 d1 d2 d3 d4 d5 hkc hA hB hrgk hV; have d0 := A2.out.cell 0; have d5 := A2.out.cell 5; simp only [List.getElem?_toArray, List.getElem?_cons_zero, List.getElem?_cons_succ] at d0 d5) | (refine wpList_load_want 25 _ g (o + q * 6) [.int .i64 k1, .bool b1, .string r1, .string t1, .slice ko1 N1 kc1, .slice vo1 M1 vc1] _ hr2.out Tryz.underlying25 z1 rfl rfl rfl (by rfl) ?_))
    refine Calls.mono (hcu'.out _ w2 V2.out) ?_
    rintro e w3 ⟨rfl, hb⟩
    have A3 := hid (A2.out.keptAll hb)
    have B3 := hid (B2.out.trans (hb.mono B2.out.size))
    clear hb hcu' hr2 V2 A2 B2 d0 d5
    go_wp2
    go_roundw
    case rel => exact ⟨q + 1, L4, by omega, by simp, rfl, hid hfin'.out.symm, B3, A3⟩
    case measure => simp [intOf]; omega
  ·obtain rfl : q = M := by omega
   have htk : vs.take q = vs := by rw [← hM.out]; exact List.take_length
   have htk2 : ks.take q = ks := by rw [← hM.out, ← hkv]; exact List.take_length
   have a5 : ∀ u : World, (Op.stringOp .add (mkB LQ) ⟨#[125]⟩).run Tryz.prog u = .ok (.string (mkB L)) u := fun u => mkB_add (b := [125]) (by rw [← hLQ.out, htk, htk2, ← hL.out]; simp) hn.out u
   clear htk htk2
   go_wp2
   go_ret
   exact ⟨rfl, hB.out⟩
end Go.Proofs.YtlhbgfhmcjaabaaGreatDoor
