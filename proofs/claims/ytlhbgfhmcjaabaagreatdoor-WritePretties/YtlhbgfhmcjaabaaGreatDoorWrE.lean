/-
 The writer's put of arrays and objects (by gen_wre.py).
-/
import Derived.Test.YtlhbgfhmcjaabaaGreatDoorWrM
namespace Go.Proofs.YtlhbgfhmcjaabaaGreatDoor
open Go.RowKit Go.Shelf
/-- What put leaves. -/
def PutP (m B : Nat) (cl ln : ByteArray) (ix : Nat) (L : List UInt8) (w : World) (e : Ending) (w' : World) : Prop := e = .returned (.tuple #[]) ∧ WdI w' m B cl ln (ix : Int) L ∧ WrF m w w'
/-- The lists of a value that is being written lie below the writer. -/
theorem ValOn.wr {m : Nat} {w w' : World} {t : Vt} {v : Value} (h : ValOn (fun c => c < m) w t v) (hf : WrF m w w') : ValOn (fun c => c < m) w' t v := h.kept (fun _ _ h => h) ⟨hf.low.size, fun c hc _ => hf.low.block c hc⟩
theorem RowOn.wr {m n : Nat} {w w' : World} {vo : Option Addr} {X : Nat → Array Value} (h : RowOn (fun c => c < m) w vo n X) (hf : WrF m w w') : RowOn (fun c => c < m) w' vo n X := h.kept (fun _ _ h => h) ⟨hf.low.size, fun c hc _ => hf.low.block c hc⟩
theorem KeysOn.wr {m : Nat} {w w' : World} {ko : Option Addr} {ks : List ByteArray} (h : KeysOn (fun c => c < m) w ko ks) (hf : WrF m w w') : KeysOn (fun c => c < m) w' ko ks := h.kept (fun _ _ h => h) ⟨hf.low.size, fun c hc _ => hf.low.block c hc⟩
set_option maxRecDepth 10000 in
set_option maxHeartbeats 8000000 in
theorem put_arr (m B : Nat) (cl ln : ByteArray) (ix : Nat) (l L : List UInt8) (vs : List Vt) (d : Nat) (vo : Option Addr) (vc : Nat) (X : Nat → Array Value) (hm : m < B) (hvl : (vs.length : Int) ≤ 140737488351232) (hd : (d : Int) ≤ 1048576)
  (hL : Hid (l ++ (91 :: (ptA cl ln ix vs d 0 ++ ((if 0 < vs.length then fdL ln ix d else []) ++ [93]))) = L)) (hn : Hid (L.length ≤ 140737488355328)) (hf0 : Hid (Fits ln ix d)) (hf1 : Hid (Fits ln ix (d + 1)))
  (hput : Hid (∀ (q : Nat) (u : Vt), vs[q]? = some u → 1 ≤ u.kind ∧ u.kind ≤ 6 ∧ ∀ (ks' vs' : Value) (l2 L2 : List UInt8) (x : World), ValOn (fun c => c < m) x u (.agg #[.int .i64 u.kind, .bool u.b, .string u.raw, .string u.text, ks', vs']) → l2 ++ ptV cl ln ix u (d + 1) = L2 → L2.length ≤ 140737488355328 → WdI x m B cl ln (ix : Int) l2 → B ≤ x.heap.size →
   Calls Tryz.prog 31 #[.pointer (some ⟨m, 0, none⟩), kdI u.kind u.b u.raw u.text ks' vs', .int .i64 ((d : Int) + 1)] x fun e w' => PutP m B cl ln ix L2 x e w'))
  (w : World) (h : Hid (WdI w m B cl ln (ix : Int) l)) (hB : B ≤ w.heap.size) (hr : Hid (RowOn (fun c => c < m) w vo vs.length X)) (hv : Hid (∀ (i : Nat) (u : Vt), vs[i]? = some u → ValOn (fun c => c < m) w u (.agg (X i)))) :
  Calls Tryz.prog 31 #[.pointer (some ⟨m, 0, none⟩), .iface 77 (.slice vo vs.length vc), .int .i64 (d : Int)] w fun e w' => PutP m B cl ln ix L w e w' := by
 have hl1 : (l ++ [91]).length ≤ 140737488355328 := by have := hn.out; rw [← hL.out] at this; simp at this ⊢; omega
 have hlq : Hid (∀ q, q ≤ vs.length → ((l ++ [91]) ++ ptA cl ln ix (vs.take q) d 0).length ≤ 140737488355328) := fun q _ => by
  have h1 := ptA_part (cl := cl) (ln := ln) (ix := ix) d vs q
  have := hn.out
  rw [← hL.out] at this
  simp only [List.length_append, List.length_cons, List.length_nil] at this ⊢
  omega
 have hll : Hid ((((l ++ [91]) ++ ptA cl ln ix vs d 0) ++ (if 0 < vs.length then fdL ln ix d else [])).length ≤ 140737488355328) := by
  have := hn.out
  rw [← hL.out] at this
  show _ ≤ _
  simp only [List.length_append, List.length_cons, List.length_nil] at this ⊢
  omega
 obtain ⟨M, hM⟩ : ∃ M, Hid (vs.length = M) := ⟨_, rfl⟩
 rw [hM.out] at hvl
 rw [hM.out]
 have haW := as_EW
 have haQ := as_EQ
 have haE := as_EE
 have hen := hid (fun u => ends_elements vo M vc u)
 have he : ∀ (args : Array Value) (u : World), (callFunc 180 args).run Tryz.prog u = .ok (.enter 180 args) u := fun _ _ => by kernel_rfl
 go_enter Tryz.func31, Tryz.ntmps31
 go_wp2_with fail
 refine upon_method (f := 180) (v := .slice vo M vc) (by kernel_rfl) ?_
 rw [he]
 go_wp2_with fail
 refine Calls.mono (hen.out w) ?_
 rintro e w1 ⟨rfl, hb⟩
 have D1 := hid (h.out.kept hb)
 have F1 := hid (WrF.of_below hb (Nat.le_trans (Nat.le_of_lt hm) hB))
 have hB1 : B ≤ w1.heap.size := Nat.le_trans hB hb.size
 clear hen hb h he
 go_wp2_with fail
 refine Calls.mono (wput_calls m B cl ln (ix : Int) _ ⟨#[91]⟩ (l ++ [91]) (rfl) hm (hl1) _ D1.out hB1) ?_
 rintro e w2 ⟨rfl, hd, hf⟩
 have hB2 : B ≤ w2.heap.size := Nat.le_trans hB1 hf.low.size
 have D2 := hid hd
 have F2 := hid (F1.out.trans hf)
 clear hd hf D1 F1 hB1
 go_wp2_with fail
 go_loopw [13, 14, 55] (fun _ _ ii wr => ∃ q : Nat, q ≤ M ∧ ii = .int .i64 (q : Int) ∧ Hid (WdI wr m B cl ln (ix : Int) ((l ++ [91]) ++ ptA cl ln ix (vs.take q) d 0)) ∧ Hid (WrF m w wr) ∧ Hid (B ≤ wr.heap.size)) (fun _ _ ii _ => M - (intOf ii).toNat)
 case atStart => exact ⟨0, Nat.zero_le _, rfl, hid (by simpa [ptA] using D2.out), F2, hid hB2⟩
 case round =>
  clear D2 F2 hB2
  obtain ⟨q, hqM, rfl, hD, hF, hBr⟩ := hrel
  by_cases hq : q < M
  ·have hqi : (q : Int) < (M : Int) := by omega
   have hlv : q < vs.length := by rw [hM.out]; exact hq
   obtain ⟨u, hu⟩ : ∃ u, vs[q]? = some u := ⟨_, List.getElem?_eq_getElem hlv⟩
   obtain ⟨hk1, hk6, hpu⟩ := hput.out q u hu
   have hVu := (hv.out q u hu).wr hF.out
   obtain ⟨g, o, rfl, hg, hrg, -⟩ := row_range (hr.out.wr hF.out).at hlv
   obtain ⟨ko, kc, vo2, vc2, hX⟩ := hVu.six
   injection hX with hX
   rw [hX] at hrg hVu
   have hrgk := hid hrg
   have hta := hid (ptA_take (cl := cl) (ln := ln) (ix := ix) d hu)
   have hb2 := hlq.out (q + 1) (by omega)
   rw [hta.out] at hb2
   obtain ⟨LQ, hLQ⟩ : ∃ LQ : List UInt8, Hid ((l ++ [91]) ++ ptA cl ln ix (vs.take q) d 0 = LQ) := ⟨_, hid rfl⟩
   rw [hLQ.out] at hD
   have hb3 : (LQ ++ ((if 0 < q then [44] else []) ++ fdL ln ix (d + 1))).length ≤ 140737488355328 := by
    rw [← hLQ.out]
    simp only [List.length_append] at hb2 ⊢
    omega
   have hb4 : ((LQ ++ ((if 0 < q then [44] else []) ++ fdL ln ix (d + 1))) ++ ptV cl ln ix u (d + 1)).length ≤ 140737488355328 := by
    rw [← hLQ.out]
    simp only [List.length_append] at hb2 ⊢
    omega
   have q1 : Below wr.heap.size wr (wr.alloc (.cells #[.int .i64 u.kind, .bool u.b, .string u.raw, .string u.text, .slice ko u.keys.length kc, .slice vo2 u.kids.length vc2] 25)) := (Below.refl _ _).alloc (Nat.le_refl _) _
   have D3 := hid (hD.out.kept q1)
   have F3 := hid (hF.out.trans (WrF.of_below q1 (Nat.le_trans (Nat.le_of_lt hm) hBr.out)))
   have E3 := hid (At.new wr #[.int .i64 u.kind, .bool u.b, .string u.raw, .string u.text, .slice ko u.keys.length kc, .slice vo2 u.kids.length vc2] 25)
   have V3 := hid (hVu.keptB q1)
   have hB3 : B ≤ (wr.alloc (.cells #[.int .i64 u.kind, .bool u.b, .string u.raw, .string u.text, .slice ko u.keys.length kc, .slice vo2 u.kids.length vc2] 25)).heap.size := Nat.le_trans hBr.out q1.size
   obtain ⟨pe, hpe⟩ : ∃ x, Hid (wr.heap.size = x) := ⟨_, rfl⟩
   have hpm : Hid (pe ≠ m) := by have := hBr.out; rw [hpe.out] at this; show _ ≠ _; omega
   rw [hpe.out] at E3
   have z1 : (Tryz.prog.info? 25).map (·.size) = some ([.int .i64 u.kind, .bool u.b, .string u.raw, .string u.text, .slice ko u.keys.length kc, .slice vo2 u.kids.length vc2] : List Value).length := sizeVl
   have hpu' := hid hpu
   clear hrg hVu q1 hD hF hpu hb2
   go_upto_region 15 with (refine wpList_load_want 25 _ g (o + q * 6) [.int .i64 u.kind, .bool u.b, .string u.raw, .string u.text, .slice ko u.keys.length kc, .slice vo2 u.kids.length vc2] _ hrgk.out Tryz.underlying25 z1 rfl rfl rfl (by rfl) ?_)
   rw [hpe.out]
   generalize wr.alloc (.cells #[.int .i64 u.kind, .bool u.b, .string u.raw, .string u.text, .slice ko u.keys.length kc, .slice vo2 u.kids.length vc2] 25) = wb at D3 F3 E3 V3 hB3 ⊢
   clear hrgk hpe
   have hnx := hid (next_calls m B cl ln ix LQ (LQ ++ ((if 0 < q then [44] else []) ++ fdL ln ix (d + 1))) q d hd rfl hf1 hm hb3 wb D3 hB3)
   have hki := hid (fun x => kind_calls u.kind hk1 hk6 u.b u.raw u.text ko vo2 u.keys.length kc u.kids.length vc2 x)
   go_wp2_with (first | (go_at_call 50; refine Calls.mono hnx.out ?_; rintro e w5 ⟨rfl, hd5, hf5⟩; have E5 := hf5.at_ pe _ _ hpm.out (by decide) E3.out; have D5 := hid hd5; have F5 := hid (F3.out.trans hf5); have V5 := hid (V3.out.wr hf5); have hB5 : B ≤ w5.heap.size := Nat.le_trans hB3 hf5.low.size; have d0 := E5.cell 0; have d1 := E5.cell 1; have d2 := E5.cell 2; have d3 := E5.cell 3; have d4 := E5.cell 4; have d5 := E5.cell 5; simp only [List.getElem?_toArray, List.getElem?_cons_zero, List.getElem?_cons_succ] at d0 d1 d2 d3 d4 d5; clear E5 hd5 hf5 hnx D3 F3 V3 hB3 E3) | (go_at_call 32; refine Calls.mono (hki.out w5) ?_; rintro e w6 ⟨rfl, hb6⟩; have D6 := hid (D5.out.kept hb6); have F6 := hid (F5.out.trans (WrF.of_below hb6 (Nat.le_trans (Nat.le_of_lt hm) hB5))); have V6 := hid (V5.out.keptB hb6); have hB6 : B ≤ w6.heap.size := Nat.le_trans hB5 hb6.size; clear hb6 hki D5 F5 V5 hB5 d0 d1 d2 d3 d4 d5))
   refine Calls.mono (hpu'.out _ _ _ _ w6 V6.out rfl hb4 D6.out hB6) ?_
   rintro e w7 ⟨rfl, hd7, hf7⟩
   have D7 := hid hd7
   have F7 := hid (F6.out.trans hf7)
   have hB7 : Hid (B ≤ w7.heap.size) := Nat.le_trans hB6 hf7.low.size
   clear hd7 hf7 D6 F6 V6 hB6 hpu'
   go_wp2
   go_roundw
   case rel =>
    refine ⟨q + 1, by omega, by simp, ?_, F7, hB7⟩
    have h9 := D7.out
    rw [← hLQ.out] at h9
    rw [hta.out]
    simp only [List.append_assoc] at h9 ⊢
    exact hid h9
   case measure => simp [intOf]; omega
  ·obtain rfl : q = M := by omega
   have hB8 := hBr.out
   have htk : vs.take q = vs := by rw [← hM.out]; exact List.take_length
   rw [htk] at hD
   have hll' := hll.out
   rw [hM.out] at hll'
   have hla := hid (last_calls m B cl ln ix ((l ++ [91]) ++ ptA cl ln ix vs d 0) (((l ++ [91]) ++ ptA cl ln ix vs d 0) ++ (if 0 < q then fdL ln ix d else [])) q d rfl hf0 hm hll' wr hD hB8)
   have hLf : Hid (((((l ++ [91]) ++ ptA cl ln ix vs d 0) ++ (if 0 < q then fdL ln ix d else [])) ++ [93]) = L) := by
    show _ = _
    rw [← hL.out, hM.out]
    simp
   clear hD hlq hll hll' htk
   go_wp2_with (go_at_call 51; refine Calls.mono hla.out ?_; rintro e w5 ⟨rfl, hd5, hf5⟩; have D5 := hid hd5; have F5 := hid (hF.out.trans hf5); have hB5 : B ≤ w5.heap.size := Nat.le_trans hB8 hf5.low.size; clear hd5 hf5 hla hF)
   refine Calls.mono (wput_calls m B cl ln (ix : Int) _ ⟨#[93]⟩ L hLf.out hm hn.out _ D5.out hB5) ?_
   rintro e w6 ⟨rfl, hd6, hf6⟩
   have D6 := hid hd6
   have F6 := hid (F5.out.trans hf6)
   clear hd6 hf6 D5 F5
   go_wp2
   go_end0
   exact ⟨rfl, D6.out, F6.out⟩
set_option maxRecDepth 10000 in
set_option maxHeartbeats 8000000 in
theorem put_obj (m B : Nat) (cl ln : ByteArray) (ix : Nat) (l L : List UInt8) (ks : List ByteArray) (vs : List Vt) (hkv : ks.length = vs.length) (d : Nat) (ko0 vo : Option Addr) (kc0 vc : Nat) (X : Nat → Array Value) (hm : m < B) (hvl : (vs.length : Int) ≤ 140737488351232) (hd : (d : Int) ≤ 1048576)
  (hL : Hid (l ++ (123 :: (ptO cl ln ix vs ks d 0 ++ ((if 0 < vs.length then fdL ln ix d else []) ++ [125]))) = L)) (hn : Hid (L.length ≤ 140737488355328)) (hf0 : Hid (Fits ln ix d)) (hf1 : Hid (Fits ln ix (d + 1)))
  (hes : Hid (∀ (q : Nat) (K : ByteArray), ks[q]? = some K → ∀ u : World, ∃ E, Calls Tryz.prog 49 #[.string K] u fun e w' => e = .returned (.tuple #[.string (wrS K).1, .int .i64 E]) ∧ Below u.heap.size u w'))
  (hput : Hid (∀ (q : Nat) (u : Vt), vs[q]? = some u → 1 ≤ u.kind ∧ u.kind ≤ 6 ∧ ∀ (ks' vs' : Value) (l2 L2 : List UInt8) (x : World), ValOn (fun c => c < m) x u (.agg #[.int .i64 u.kind, .bool u.b, .string u.raw, .string u.text, ks', vs']) → l2 ++ ptV cl ln ix u (d + 1) = L2 → L2.length ≤ 140737488355328 → WdI x m B cl ln (ix : Int) l2 → B ≤ x.heap.size →
   Calls Tryz.prog 31 #[.pointer (some ⟨m, 0, none⟩), kdI u.kind u.b u.raw u.text ks' vs', .int .i64 ((d : Int) + 1)] x fun e w' => PutP m B cl ln ix L2 x e w'))
  (w : World) (h : Hid (WdI w m B cl ln (ix : Int) l)) (hB : B ≤ w.heap.size) (hk : Hid (KeysOn (fun c => c < m) w ko0 ks)) (hr : Hid (RowOn (fun c => c < m) w vo vs.length X)) (hv : Hid (∀ (i : Nat) (u : Vt), vs[i]? = some u → ValOn (fun c => c < m) w u (.agg (X i)))) :
  Calls Tryz.prog 31 #[.pointer (some ⟨m, 0, none⟩), .iface 80 (.agg #[.slice ko0 ks.length kc0, .slice vo vs.length vc]), .int .i64 (d : Int)] w fun e w' => PutP m B cl ln ix L w e w' := by
 have hl1 : (l ++ [123]).length ≤ 140737488355328 := by have := hn.out; rw [← hL.out] at this; simp at this ⊢; omega
 have hlq : Hid (∀ q, q ≤ vs.length → ((l ++ [123]) ++ ptO cl ln ix (vs.take q) (ks.take q) d 0).length ≤ 140737488355328) := fun q _ => by
  have h1 := ptO_part (cl := cl) (ln := ln) (ix := ix) d vs ks hkv q
  have := hn.out
  rw [← hL.out] at this
  simp only [List.length_append, List.length_cons, List.length_nil] at this ⊢
  omega
 have hll : Hid ((((l ++ [123]) ++ ptO cl ln ix vs ks d 0) ++ (if 0 < vs.length then fdL ln ix d else [])).length ≤ 140737488355328) := by
  have := hn.out
  rw [← hL.out] at this
  show _ ≤ _
  simp only [List.length_append, List.length_cons, List.length_nil] at this ⊢
  omega
 have hkv' := hid hkv
 obtain ⟨M, hM⟩ : ∃ M, Hid (vs.length = M) := ⟨_, rfl⟩
 rw [hM.out] at hvl hkv
 rw [hkv, hM.out]
 clear hkv
 have haW := as_MW
 have haQ := as_MQ
 have haE := as_ME
 have haM := as_MM
 have hen := hid (fun u => ends_members ko0 vo M kc0 M vc u)
 have he : ∀ (args : Array Value) (u : World), (callFunc 181 args).run Tryz.prog u = .ok (.enter 181 args) u := fun _ _ => by kernel_rfl
 go_enter Tryz.func31, Tryz.ntmps31
 go_wp2_with fail
 refine upon_method (f := 181) (v := .agg #[.slice ko0 M kc0, .slice vo M vc]) (by kernel_rfl) ?_
 rw [he]
 go_wp2_with fail
 refine Calls.mono (hen.out w) ?_
 rintro e w1 ⟨rfl, hb⟩
 have D1 := hid (h.out.kept hb)
 have F1 := hid (WrF.of_below hb (Nat.le_trans (Nat.le_of_lt hm) hB))
 have hB1 : B ≤ w1.heap.size := Nat.le_trans hB hb.size
 clear hen hb h he
 go_wp2_with fail
 refine Calls.mono (wput_calls m B cl ln (ix : Int) _ ⟨#[123]⟩ (l ++ [123]) (rfl) hm (hl1) _ D1.out hB1) ?_
 rintro e w2 ⟨rfl, hd, hf⟩
 have hB2 : B ≤ w2.heap.size := Nat.le_trans hB1 hf.low.size
 have D2 := hid hd
 have F2 := hid (F1.out.trans hf)
 clear hd hf D1 F1 hB1
 have qb : Below w2.heap.size w2 (w2.alloc (.cells #[.slice ko0 M kc0, .slice vo M vc] 80)) := (Below.refl _ _).alloc (Nat.le_refl _) _
 have Db := hid (D2.out.kept qb)
 have Fb := hid (F2.out.trans (WrF.of_below qb (Nat.le_trans (Nat.le_of_lt hm) hB2)))
 have Eb := hid (At.new w2 #[.slice ko0 M kc0, .slice vo M vc] 80)
 have hBb : B ≤ (w2.alloc (.cells #[.slice ko0 M kc0, .slice vo M vc] 80)).heap.size := Nat.le_trans hB2 qb.size
 obtain ⟨bx, hbx⟩ : ∃ x, Hid (w2.heap.size = x) := ⟨_, rfl⟩
 have hbm : Hid (bx ≠ m) := by have := hB2; rw [hbx.out] at this; show _ ≠ _; omega
 rw [hbx.out] at Eb
 go_upto_region 21 with fail
 rw [hbx.out]
 clear qb D2 F2 hB2 hbx
 generalize w2.alloc (.cells #[.slice ko0 M kc0, .slice vo M vc] 80) = wx at Db Fb Eb hBb ⊢
 have c0 : wx.cell? ⟨bx, 0, none⟩ = some (.slice ko0 M kc0) := Eb.out.cell 0
 have c1 : wx.cell? ⟨bx, 1, none⟩ = some (.slice vo M vc) := Eb.out.cell 1
 go_wp2_with fail
 clear c0 c1
 go_loopw [16, 17, 82] (fun _ _ ii wr => ∃ q : Nat, q ≤ M ∧ ii = .int .i64 (q : Int) ∧ Hid (WdI wr m B cl ln (ix : Int) ((l ++ [123]) ++ ptO cl ln ix (vs.take q) (ks.take q) d 0)) ∧ Hid (WrF m w wr) ∧ Hid (B ≤ wr.heap.size) ∧ Hid (At wr bx #[.slice ko0 M kc0, .slice vo M vc] 80)) (fun _ _ ii _ => M - (intOf ii).toNat)
 case atStart => exact ⟨0, Nat.zero_le _, rfl, hid (by simpa [ptO] using Db.out), Fb, hid hBb, Eb⟩
 case round =>
  clear Db Fb hBb Eb
  obtain ⟨q, hqM, rfl, hD, hF, hBr, hE⟩ := hrel
  by_cases hq : q < M
  ·have hqi : (q : Int) < (M : Int) := by omega
   have hlv : q < vs.length := by rw [hM.out]; exact hq
   obtain ⟨u, hu⟩ : ∃ u, vs[q]? = some u := ⟨_, List.getElem?_eq_getElem hlv⟩
   obtain ⟨KN, hKq⟩ : ∃ K, ks[q]? = some K := ⟨_, List.getElem?_eq_getElem (by rw [hkv'.out]; exact hlv)⟩
   obtain ⟨hk1, hk6, hpu⟩ := hput.out q u hu
   have hVu := (hv.out q u hu).wr hF.out
   obtain ⟨g, o, rfl, hg, hrg, -⟩ := row_range (hr.out.wr hF.out).at hlv
   obtain ⟨-, kb, koff, rfl, hkbm, -, hkc⟩ := (hk.out.wr hF.out) q KN hKq
   have hkK := hid (fun (x : World) (hx : WrF m w x) => show x.cell? ⟨kb, koff + q, none⟩ = some (.string KN) by
    obtain ⟨-, kb2, koff2, e2, -, -, h2⟩ := (hk.out.wr hx) q KN hKq
    cases e2
    exact h2)
   obtain ⟨ko, kc, vo2, vc2, hX⟩ := hVu.six
   injection hX with hX
   rw [hX] at hrg hVu
   have hrgk := hid hrg
   have hta := hid (ptO_take (cl := cl) (ln := ln) (ix := ix) d hkv'.out hu hKq)
   have hb2 := hlq.out (q + 1) (by omega)
   rw [hta.out] at hb2
   obtain ⟨LQ, hLQ⟩ : ∃ LQ : List UInt8, Hid ((l ++ [123]) ++ ptO cl ln ix (vs.take q) (ks.take q) d 0 = LQ) := ⟨_, hid rfl⟩
   rw [hLQ.out] at hD
   obtain ⟨L1, hL1⟩ : ∃ L1 : List UInt8, Hid (LQ ++ ((if 0 < q then [44] else []) ++ fdL ln ix (d + 1)) = L1) := ⟨_, hid rfl⟩
   obtain ⟨L2, hL2⟩ : ∃ L2 : List UInt8, Hid (L1 ++ (34 :: (wrS KN).1.data.toList ++ [34]) = L2) := ⟨_, hid rfl⟩
   obtain ⟨L3, hL3⟩ : ∃ L3 : List UInt8, Hid (L2 ++ cl.data.toList = L3) := ⟨_, hid rfl⟩
   obtain ⟨L4, hL4⟩ : ∃ L4 : List UInt8, Hid (L3 ++ ptV cl ln ix u (d + 1) = L4) := ⟨_, hid rfl⟩
   have hfin : Hid (L4 = (l ++ [123]) ++ ptO cl ln ix (vs.take (q + 1)) (ks.take (q + 1)) d 0) := by
    show _ = _
    rw [hta.out, ← hL4.out, ← hL3.out, ← hL2.out, ← hL1.out, ← hLQ.out]
    simp [quoL]
   have hb6 : L4.length ≤ 140737488355328 := by rw [hfin.out, hta.out]; exact hb2
   have hb5 : L3.length ≤ 140737488355328 := by rw [← hL4.out] at hb6; simp only [List.length_append] at hb6; omega
   have hb4 : L2.length ≤ 140737488355328 := by rw [← hL3.out] at hb5; simp only [List.length_append] at hb5; omega
   have hb3 : L1.length ≤ 140737488355328 := by rw [← hL2.out] at hb4; simp only [List.length_append] at hb4; omega
   have q1 : Below wr.heap.size wr (wr.alloc (.cells #[.int .i64 u.kind, .bool u.b, .string u.raw, .string u.text, .slice ko u.keys.length kc, .slice vo2 u.kids.length vc2] 25)) := (Below.refl _ _).alloc (Nat.le_refl _) _
   have D3 := hid (hD.out.kept q1)
   have F3 := hid (hF.out.trans (WrF.of_below q1 (Nat.le_trans (Nat.le_of_lt hm) hBr.out)))
   have E3 := hid (At.new wr #[.int .i64 u.kind, .bool u.b, .string u.raw, .string u.text, .slice ko u.keys.length kc, .slice vo2 u.kids.length vc2] 25)
   have X3 := hid (hE.out.keptAll q1)
   have V3 := hid (hVu.keptB q1)
   have hB3 : B ≤ (wr.alloc (.cells #[.int .i64 u.kind, .bool u.b, .string u.raw, .string u.text, .slice ko u.keys.length kc, .slice vo2 u.kids.length vc2] 25)).heap.size := Nat.le_trans hBr.out q1.size
   obtain ⟨pe, hpe⟩ : ∃ x, Hid (wr.heap.size = x) := ⟨_, rfl⟩
   have hpm : Hid (pe ≠ m) := by have := hBr.out; rw [hpe.out] at this; show _ ≠ _; omega
   rw [hpe.out] at E3
   have z1 : (Tryz.prog.info? 25).map (·.size) = some ([.int .i64 u.kind, .bool u.b, .string u.raw, .string u.text, .slice ko u.keys.length kc, .slice vo2 u.kids.length vc2] : List Value).length := sizeVl
   have hpu' := hid hpu
   have hes' := hid (hes.out q KN hKq)
   clear hrg hVu q1 hD hF hpu hb2 hE hkc hu hKq
   go_upto_region 24 with (refine wpList_load_want 25 _ g (o + q * 6) [.int .i64 u.kind, .bool u.b, .string u.raw, .string u.text, .slice ko u.keys.length kc, .slice vo2 u.kids.length vc2] _ hrgk.out Tryz.underlying25 z1 rfl rfl rfl (by rfl) ?_)
   rw [hpe.out]
   generalize wr.alloc (.cells #[.int .i64 u.kind, .bool u.b, .string u.raw, .string u.text, .slice ko u.keys.length kc, .slice vo2 u.kids.length vc2] 25) = wb at D3 F3 E3 V3 X3 hB3 ⊢
   clear hrgk hpe
   have hnx := hid (next_calls m B cl ln ix LQ L1 q d hd hL1.out hf1 hm hb3 wb D3 hB3)
   go_wp2_with (go_at_call 50; refine Calls.mono hnx.out ?_; rintro e w5 ⟨rfl, hd5, hf5⟩; have E5 := hid (hf5.at_ pe _ _ hpm.out (by decide) E3.out); have X5 := hid (hf5.at_ bx _ _ hbm.out (by decide) X3.out); have D5 := hid hd5; have F5 := hid (F3.out.trans hf5); have V5 := hid (V3.out.wr hf5); have hB5 : B ≤ w5.heap.size := Nat.le_trans hB3 hf5.low.size; have x0 : w5.cell? ⟨bx, 0, none⟩ = some (.slice (some ⟨kb, koff, none⟩) M kc0) := X5.out.cell 0; have x1 := hkK.out w5 F5.out; clear hd5 hf5 hnx D3 F3 V3 X3 hB3 E3)
   refine Calls.mono (put_quoted m B cl ln (ix : Int) L1 KN (wrS KN).1 L2 hL2.out _ hm hb4 hes' w5 D5 hB5) ?_
   rintro e w6 ⟨rfl, hd6, hf6⟩
   have E6 := hid (hf6.at_ pe _ _ hpm.out (by decide) E5.out)
   have X6 := hid (hf6.at_ bx _ _ hbm.out (by decide) X5.out)
   have D6 := hid hd6
   have F6 := hid (F5.out.trans hf6)
   have V6 := hid (V5.out.wr hf6)
   have hB6 : B ≤ w6.heap.size := Nat.le_trans hB5 hf6.low.size
   clear hd6 hf6 D5 F5 V5 X5 E5 hB5 x0 x1 hkK hes'
   go_upto_region 26 with fail
   have hcol := hid (wput_calls m B cl ln (ix : Int) L2 cl L3 hL3.out hm hb5)
   have hx0 : w6.drew.cell? ⟨m, 2, none⟩ = some (.string cl) := D6.out.at_.1
   have q0 := show Below w6.heap.size w6 w6.drew from (Below.refl _ _).drew
   have D7 := hid (D6.out.kept q0)
   have F7 := hid (F6.out.trans (WrF.of_below (m := m) q0 (Nat.le_trans (Nat.le_of_lt hm) hB6)))
   have E7 := hid (E6.out.keptAll q0)
   have X7 := hid (X6.out.keptAll q0)
   have V7 := hid (V6.out.keptB q0)
   have hB7 : B ≤ w6.drew.heap.size := hB6
   rename_i Kr hKr
   refine wp_region_held_drew (S := fun w' => w'.cell? ⟨m, 2, none⟩ = some (.string cl)) (by kernel_rfl) hx0 (fun hHeld => ?_)
   clear hHeld q0 D6 F6 E6 X6 V6 hB6
   generalize w6.drew = v0 at *
   (refine' wpAnyH_take (i := 0) rfl (by kernel_rfl) (by kernel_rfl) (by kernel_rfl) (fun _ _ _ h => h) (Or.inl ⟨by rfl, ?_⟩) (by assumption) ?_; rotate_left; (· (intro wq hq; (try dsimp only at hq); go_simp; first | done | with_reducible rfl)); simp only [Act.put, List.getElem_toArray, List.getElem_cons_zero, List.setIfInBounds_toArray, List.set_cons_zero, List.set_cons_succ])
   (refine' wpAnyH_take (i := 1) rfl (by kernel_rfl) (by kernel_rfl) (by kernel_rfl) (fun _ _ _ h => h) (Or.inl ⟨by rfl, ?_⟩) (by assumption) ?_; rotate_left; (· (intro wq hq; (try dsimp only at hq); go_simp; first | done | with_reducible rfl)); simp only [Act.put, List.getElem_toArray, List.getElem_cons_zero, List.getElem_cons_succ, List.setIfInBounds_toArray, List.set_cons_zero, List.set_cons_succ])
   (refine' wpAnyH_take (i := 2) rfl (by kernel_rfl) (by kernel_rfl) (by kernel_rfl) (fun _ _ _ h => h) (Or.inl ⟨by rfl, ?_⟩) (by assumption) ?_; rotate_left; (· (intro wq hq; (try dsimp only at hq); go_simp; first | done | with_reducible rfl)); simp only [Act.put, List.getElem_toArray, List.getElem_cons_zero, List.getElem_cons_succ, List.setIfInBounds_toArray, List.set_cons_zero, List.set_cons_succ])
   (refine' wpAnyH_take (i := 3) rfl (by kernel_rfl) (by kernel_rfl) (by kernel_rfl) (fun _ _ _ h => h) (Or.inl ⟨by rfl, ?_⟩) (by assumption) ?_; rotate_left; (· (intro wq hq; (try dsimp only at hq); go_simp; first | done | with_reducible rfl)); simp only [Act.put, List.getElem_toArray, List.getElem_cons_zero, List.getElem_cons_succ, List.setIfInBounds_toArray, List.set_cons_zero, List.set_cons_succ])
   (refine' wpAnyH_take (i := 4) rfl (by kernel_rfl) (by kernel_rfl) (by kernel_rfl) (fun _ _ _ h => h) (Or.inl ⟨by rfl, ?_⟩) (by assumption) ?_; rotate_left; (· (intro wq hq; (try dsimp only at hq); go_simp; first | done | with_reducible rfl)); simp only [Act.put, List.getElem_toArray, List.getElem_cons_zero, List.getElem_cons_succ, List.setIfInBounds_toArray, List.set_cons_zero, List.set_cons_succ])
   (refine' wpAnyH_take (i := 5) rfl (by kernel_rfl) (by kernel_rfl) (by kernel_rfl) (fun _ _ _ h => h) (Or.inl ⟨by rfl, ?_⟩) (by assumption) ?_; rotate_left; (· (intro wq hq; (try dsimp only at hq); go_simp; first | done | with_reducible rfl)); simp only [Act.put, List.getElem_toArray, List.getElem_cons_zero, List.getElem_cons_succ, List.setIfInBounds_toArray, List.set_cons_zero, List.set_cons_succ])
   (refine' wpAnyH_take (i := 6) rfl (by kernel_rfl) (by kernel_rfl) (by kernel_rfl) (fun _ _ _ h => h) (Or.inl ⟨by rfl, ?_⟩) (by assumption) ?_; rotate_left; (· (intro wq hq; (try dsimp only at hq); go_simp; first | done | with_reducible rfl)); simp only [Act.put, List.getElem_toArray, List.getElem_cons_zero, List.getElem_cons_succ, List.setIfInBounds_toArray, List.set_cons_zero, List.set_cons_succ])
   refine wpAnyH_ready (rs := [7]) (by kernel_rfl) (by simp) ?_
   refine AllReadyH.cons rfl (fun K hK => ?_) ?_
   ·rw [if_pos (by rfl)]
    go_simp
    refine Calls.mono (hcol.out v0 D7.out hB7) ?_
    rintro e w8 ⟨rfl, hd8, hf8⟩
    have E8 := hid (hf8.at_ pe _ _ hpm.out (by decide) E7.out)
    have X8 := hid (hf8.at_ bx _ _ hbm.out (by decide) X7.out)
    have D8 := hid hd8
    have F8 := hid (F7.out.trans hf8)
    have V8 := hid (V7.out.wr hf8)
    have hB8 : B ≤ w8.heap.size := Nat.le_trans hB7 hf8.low.size
    refine hK.out _ _ hd8.at_.1 (fun _ => ?_)
    clear hK K hd8 hf8 D7 F7 V7 X7 E7 hB7 hx0 hcol
    refine wpAnyH_done (by kernel_rfl) ?_ _
    refine hKr _ _ ?_
    have d0 := E8.out.cell 0
    have d1 := E8.out.cell 1
    have d2 := E8.out.cell 2
    have d3 := E8.out.cell 3
    have d4 := E8.out.cell 4
    have d5 := E8.out.cell 5
    simp only [List.getElem?_toArray, List.getElem?_cons_zero, List.getElem?_cons_succ] at d0 d1 d2 d3 d4 d5
    have hki := hid (fun x => kind_calls u.kind hk1 hk6 u.b u.raw u.text ko vo2 u.keys.length kc u.kids.length vc2 x)
    go_wp2_with (go_at_call 32; refine Calls.mono (hki.out w8) ?_; rintro e w9 ⟨rfl, hb9⟩; have D9 := hid (D8.out.kept hb9); have F9 := hid (F8.out.trans (WrF.of_below hb9 (Nat.le_trans (Nat.le_of_lt hm) hB8))); have V9 := hid (V8.out.keptB hb9); have X9 := hid (X8.out.keptAll hb9); have hB9 : B ≤ w9.heap.size := Nat.le_trans hB8 hb9.size; clear hb9 hki D8 F8 V8 hB8 X8 E8 d0 d1 d2 d3 d4 d5)
    refine Calls.mono (hpu'.out _ _ L3 L4 w9 V9.out hL4.out hb6 D9.out hB9) ?_
    rintro e w10 ⟨rfl, hd10, hf10⟩
    have D10 := hid hd10
    have F10 := hid (F9.out.trans hf10)
    have X10 := hid (hf10.at_ bx _ _ hbm.out (by decide) X9.out)
    have hB10 : Hid (B ≤ w10.heap.size) := Nat.le_trans hB9 hf10.low.size
    clear hd10 hf10 D9 F9 V9 X9 hB9 hpu'
    go_wp2
    go_roundw
    case rel => exact ⟨q + 1, by omega, by simp, hid (by have h9 := D10.out; rwa [hfin.out] at h9), F10, hB10, X10⟩
    case measure => simp [intOf]; omega
   exact AllReadyH.nil
  ·obtain rfl : q = M := by omega
   have hB8 := hBr.out
   have htk : vs.take q = vs := by rw [← hM.out]; exact List.take_length
   have htk2 : ks.take q = ks := by rw [← hM.out, ← hkv'.out]; exact List.take_length
   rw [htk, htk2] at hD
   have hll' := hll.out
   rw [hM.out] at hll'
   have hla := hid (last_calls m B cl ln ix ((l ++ [123]) ++ ptO cl ln ix vs ks d 0) (((l ++ [123]) ++ ptO cl ln ix vs ks d 0) ++ (if 0 < q then fdL ln ix d else [])) q d rfl hf0 hm hll' wr hD hB8)
   have hLf : Hid (((((l ++ [123]) ++ ptO cl ln ix vs ks d 0) ++ (if 0 < q then fdL ln ix d else [])) ++ [125]) = L) := by
    show _ = _
    rw [← hL.out, hM.out]
    simp
   have c1 : wr.cell? ⟨bx, 1, none⟩ = some (.slice vo q vc) := hE.out.cell 1
   clear hD hlq hll hll' htk htk2
   go_wp2_with (go_at_call 51; refine Calls.mono hla.out ?_; rintro e w5 ⟨rfl, hd5, hf5⟩; have D5 := hid hd5; have F5 := hid (hF.out.trans hf5); have hB5 : B ≤ w5.heap.size := Nat.le_trans hB8 hf5.low.size; clear hd5 hf5 hla hF c1)
   refine Calls.mono (wput_calls m B cl ln (ix : Int) _ ⟨#[125]⟩ L hLf.out hm hn.out _ D5.out hB5) ?_
   rintro e w6 ⟨rfl, hd6, hf6⟩
   have D6 := hid hd6
   have F6 := hid (F5.out.trans hf6)
   clear hd6 hf6 D5 F5
   go_wp2
   go_end0
   exact ⟨rfl, D6.out, F6.out⟩
end Go.Proofs.YtlhbgfhmcjaabaaGreatDoor
