/-
 quarryref17.Walk; the bounds that the document's bound gives.
-/
import Derived.Test.YtlmjiocdhobopaaGreatDoorPxD
import Derived.Test.YtlmjiocdhobopaaGreatDoorTrBd
import Derived.Test.YtlmjiocdhobopaaGreatDoorTrMb
import Derived.Test.YtlmjiocdhobopaaGreatDoorPack5
import Derived.Test.YtlmjiocdhobopaaGreatDoorTpN
namespace Go.Proofs.YtlmjiocdhobopaaGreatDoor
open Go.RowKit Go.Shelf
theorem valAt_on {w : World} {t : Vt} {v : Value} (h : ValAt w t v) : ValOn (fun c => c < w.heap.size) w t v := by
 induction h with
 | mk k b r t ks vs ko kc vo vc X hw hz hk hr hv ih =>
  refine .mk k b r t ks vs ko kc vo vc X hw hz (fun i s hi => ?_) (fun i hi => ?_) ih
  ·obtain ⟨h0, g, o, h1, h2, h3⟩ := hk i s hi
   exact ⟨h0, g, o, h1, h2, h2, h3⟩
  ·obtain ⟨h0, g, o, h1, h2, h3⟩ := hr i hi
   exact ⟨h0, g, o, h1, h2, h2, h3⟩
theorem blk_leftK {d : Int} (hd : 0 ≤ d) : ∀ (ks : List ByteArray) (l : Int), 0 ≤ leftK d ks l → leftK d ks l + (blkK ks : Int) ≤ l
 | [], l, _ => by simp [leftK, blkK]
 | k :: ks, l, h => by
  unfold leftK at h ⊢
  split at h
  ·omega
  ·rename_i hl
   rw [if_neg hl]
   have := blk_leftK hd ks _ h
   have ht := toldN_text (x := (k.size : Int)) (d := d) (y := 0) (by omega) hd (by omega)
   unfold blkK
   omega
mutual
theorem blk_leftV : ∀ (t : Vt) (d y l : Int), 0 ≤ d → 0 ≤ y → 0 ≤ leftV t d y l → leftV t d y l + (blkV t : Int) ≤ l
 | .mk k b r t ks vs, d, y, l, hd, hy, h => by
  unfold leftV at h ⊢
  split at h
  ·omega
  ·rename_i hdd
   rw [if_neg hdd]
   have h1 := leftL_le vs ks d y (leftK d ks (l - toldN ((r.size : Int) + (t.size : Int)) d y)) hd hy
   have h2 := blk_leftK hd ks (l - toldN ((r.size : Int) + (t.size : Int)) d y) (by omega)
   have ht := toldN_text (x := (r.size : Int) + (t.size : Int)) (d := d) (y := y) (by omega) hd hy
   have h3 := blk_leftL vs ks d y _ hd hy h
   unfold blkV
   omega
theorem blk_leftL : ∀ (vs : List Vt) (ks : List ByteArray) (d y l : Int), 0 ≤ d → 0 ≤ y → 0 ≤ leftL vs ks d y l → leftL vs ks d y l + (blkL vs : Int) ≤ l
 | [], ks, d, y, l, _, _, h => by unfold leftL blkL; simp
 | v :: vs, ks, d, y, l, hd, hy, h => by
  unfold leftL at h ⊢
  split at h
  ·omega
  ·rename_i hll
   rw [if_neg hll]
   have h1 := leftL_le vs ks.tail d y (leftV v (d + 1) (y + 21 + 2 * ((ks.headD ByteArray.empty).size : Int)) l) hd hy
   have h2 := blk_leftV v (d + 1) (y + 21 + 2 * ((ks.headD ByteArray.empty).size : Int)) l (by omega) (by omega) (by omega)
   have h3 := blk_leftL vs ks.tail d y _ hd hy h
   unfold blkL
   omega
end
theorem byd_blk {t : Vt} (h : byd t = false) : blkV t ≤ 2147483640 := by
 unfold byd at h
 have h' : 0 ≤ leftV t 1 0 2147483647 := by simpa using h
 cases t with
 | mk k b r t ks vs =>
  unfold leftV at h'
  rw [if_neg (by decide)] at h'
  have h1 := leftL_le vs ks 1 0 (leftK 1 ks (2147483647 - toldN ((r.size : Int) + (t.size : Int)) 1 0)) (by decide) (by decide)
  have h2 := blk_leftK (d := 1) (by decide) ks (2147483647 - toldN ((r.size : Int) + (t.size : Int)) 1 0) (by omega)
  have h3 := blk_leftL vs ks 1 0 _ (by decide) (by decide) h'
  have h4 : toldN ((r.size : Int) + (t.size : Int)) 1 0 = 16 + 6 * ((r.size : Int) + (t.size : Int)) + 16 := by
   unfold toldN
   rw [if_neg (by decide)]
   omega
  unfold blkV
  omega
set_option maxRecDepth 10000 in
set_option maxHeartbeats 4000000 in
theorem refWalkF_calls (t : Vt) (hz : szV t) (hln : lnV t) (hb : blkV t ≤ 2147483640) (k : Int) (b : Bool) (r tx : ByteArray) (ko : Option Addr) (N kc : Nat) (vo : Option Addr) (M vc : Nat) (w : World) (hP : Hid (PowT w)) (ha : Hid (ValAt w t (.agg #[.int .i64 k, .bool b, .string r, .string tx, .slice ko N kc, .slice vo M vc]))) (hwf : wfV t 1024 = true) :
  Calls Tryz.prog 6 #[.agg #[.int .i64 k, .bool b, .string r, .string tx, .slice ko N kc, .slice vo M vc]] w fun e w' => ∃ (ao : Option Addr) (ca : Nat) (lo : Option Addr) (cl : Nat), e = .returned (.tuple #[.slice ao (prV [] t).length ca, .slice lo (prV [] t).length cl]) ∧ PtsV w' ao lo (prV [] t) ∧ Below w.heap.size w w' := by
 have A1 : Hid (At (w.alloc (.cells #[.int .i64 k, .bool b, .string r, .string tx, .slice ko N kc, .slice vo M vc] 25)) w.heap.size #[.int .i64 k, .bool b, .string r, .string tx, .slice ko N kc, .slice vo M vc] 25) := At.new w _ _
 have B1 : Hid (Below w.heap.size w (w.alloc (.cells #[.int .i64 k, .bool b, .string r, .string tx, .slice ko N kc, .slice vo M vc] 25))) := (Below.refl _ w).alloc (Nat.le_refl _) _
 have hf := hid (fun u h2 => formed17_calls t hz (.agg #[.int .i64 k, .bool b, .string r, .string tx, .slice ko N kc, .slice vo M vc]) u h2)
 rw [hwf] at hf
 have hbnd := hid (fun (x : List UInt8 × Vt) (hx : x ∈ prV [] t) => (show x.1.length ≤ 1099511627776 by have := prV_bound t [] x hln hx; simp only [List.length_nil] at this; omega))
 have hokp := hid (okP_of t 1024 hwf hb hln)
 have hcn := hid (show cntV t ≤ 2147483640 from Nat.le_trans (cnt_blk t) hb)
 generalize hW1 : w.alloc (.cells #[.int .i64 k, .bool b, .string r, .string tx, .slice ko N kc, .slice vo M vc] 25) = W1 at A1 B1
 have hwf' := hid hwf
 clear hwf
 go_enter Tryz.func6, Tryz.ntmps6
 go_wp2_with (first | refine wpList_load_want 25 _ w.heap.size 0 [.int .i64 k, .bool b, .string r, .string tx, .slice ko N kc, .slice vo M vc] _ (A1.out.range rfl) Tryz.underlying25 sizeVl rfl rfl rfl (by rfl) ?_ | fail)
 refine Calls.mono (hf.out _ (ha.out.kept B1.out)) ?_
 rintro e W2 ⟨rfl, b2⟩
 have A2 := hid (A1.out.keptAll b2)
 have B2 := hid (B1.out.trans (b2.mono B1.out.size))
 clear hf b2 A1 B1 hW1
 have hw := hid (refWalk_ex W2.heap.size w B2.out.size hP.out _ t (Nat.le_refl _) ⟨1024, hwf'.out⟩ hokp.out [] hbnd.out _ W2 (.slice none 0 0) (.slice none 0 0) [] (by have := hcn.out; simp; omega) (Nat.le_refl _) B2.out (valAt_on (ha.out.kept B2.out)) ⟨ObjG.nil _ _, fun g h => (by cases h), fun g h => (by cases h)⟩)
 go_wp2_with (first | refine wpList_load_want 25 _ w.heap.size 0 [.int .i64 k, .bool b, .string r, .string tx, .slice ko N kc, .slice vo M vc] _ (A2.out.range rfl) Tryz.underlying25 sizeVl rfl rfl rfl (by rfl) ?_ | fail)
 refine Calls.mono hw.out ?_
 rintro e W3 ⟨kv, vv, rfl, hG, hF⟩
 rw [List.nil_append] at hG
 have B3 := hid (B2.out.trans (hF.bel.mono B2.out.size))
 obtain ⟨ao, ca, rfl⟩ := hG.1.1.shape
 obtain ⟨lo, cl, rfl⟩ := hG.1.2.1.shape
 have e1 : (ptK (prV [] t)).length = (prV [] t).length := by unfold ptK; rw [List.length_map]
 have e2 : (ptU (prV [] t)).length = (prV [] t).length := by unfold ptU; rw [List.length_map]
 have hK := hG.1.1.row.2.at
 obtain ⟨X, -, hR, hVl⟩ := hG.1.2.1.row
 have hpv := hid (show PtsV W3 ao lo (prV [] t) from ⟨hK, X, by rw [← e2]; exact hR.at, fun i u hu => (hVl i u hu).at⟩)
 rw [e1, e2]
 clear hG hF hK hR hVl hw e1 e2
 go_wp2
 refine bodyPost_ret (results_tmp2 rfl _ _ _) rfl ?_
 exact ⟨_, _, _, _, rfl, hpv.out, B3.out⟩
set_option maxRecDepth 10000 in
set_option maxHeartbeats 4000000 in
theorem refWalkF_no (t : Vt) (hz : szV t) (k : Int) (b : Bool) (r tx : ByteArray) (ko : Option Addr) (N kc : Nat) (vo : Option Addr) (M vc : Nat) (w : World) (ha : Hid (ValAt w t (.agg #[.int .i64 k, .bool b, .string r, .string tx, .slice ko N kc, .slice vo M vc]))) (hwf : wfV t 1024 = false) :
  Calls Tryz.prog 6 #[.agg #[.int .i64 k, .bool b, .string r, .string tx, .slice ko N kc, .slice vo M vc]] w fun e w' => e = .returned (.tuple #[.slice none 0 0, .slice none 0 0]) ∧ Below w.heap.size w w' := by
 have A1 : Hid (At (w.alloc (.cells #[.int .i64 k, .bool b, .string r, .string tx, .slice ko N kc, .slice vo M vc] 25)) w.heap.size #[.int .i64 k, .bool b, .string r, .string tx, .slice ko N kc, .slice vo M vc] 25) := At.new w _ _
 have B1 : Hid (Below w.heap.size w (w.alloc (.cells #[.int .i64 k, .bool b, .string r, .string tx, .slice ko N kc, .slice vo M vc] 25))) := (Below.refl _ w).alloc (Nat.le_refl _) _
 have hf := hid (fun u h2 => formed17_calls t hz (.agg #[.int .i64 k, .bool b, .string r, .string tx, .slice ko N kc, .slice vo M vc]) u h2)
 rw [hwf] at hf
 generalize hW1 : w.alloc (.cells #[.int .i64 k, .bool b, .string r, .string tx, .slice ko N kc, .slice vo M vc] 25) = W1 at A1 B1
 go_enter Tryz.func6, Tryz.ntmps6
 go_wp2_with (first | refine wpList_load_want 25 _ w.heap.size 0 [.int .i64 k, .bool b, .string r, .string tx, .slice ko N kc, .slice vo M vc] _ (A1.out.range rfl) Tryz.underlying25 sizeVl rfl rfl rfl (by rfl) ?_ | fail)
 refine Calls.mono (hf.out _ (ha.out.kept B1.out)) ?_
 rintro e W2 ⟨rfl, b2⟩
 have B2 := hid (B1.out.trans (b2.mono B1.out.size))
 clear hf b2 A1 B1 hW1
 go_wp2
 refine bodyPost_ret (results_tmp2 rfl _ _ _) rfl ?_
 exact ⟨rfl, B2.out⟩
set_option maxRecDepth 10000 in
set_option maxHeartbeats 4000000 in
theorem walkF_no (t : Vt) (hwf : Hid (wfV t 1024 = false)) (k : Int) (b : Bool) (r tx : ByteArray) (ko : Option Addr) (N kc : Nat) (vo : Option Addr) (M vc : Nat) (w : World) (hT : Hid (TabU w)) (ha : Hid (ValAt w t (.agg #[.int .i64 k, .bool b, .string r, .string tx, .slice ko N kc, .slice vo M vc]))) :
  Calls Tryz.prog 4 #[.agg #[.int .i64 k, .bool b, .string r, .string tx, .slice ko N kc, .slice vo M vc]] w fun e w' => e = .returned (.func (.func 13) #[] #[]) ∧ Below w.heap.size w w' := by
 have A1 : Hid (At (w.alloc (.cells #[.int .i64 k, .bool b, .string r, .string tx, .slice ko N kc, .slice vo M vc] 25)) w.heap.size #[.int .i64 k, .bool b, .string r, .string tx, .slice ko N kc, .slice vo M vc] 25) := At.new w _ _
 have B1 : Hid (Below w.heap.size w (w.alloc (.cells #[.int .i64 k, .bool b, .string r, .string tx, .slice ko N kc, .slice vo M vc] 25))) := (Below.refl _ w).alloc (Nat.le_refl _) _
 have hf := hid (fun u (h1 : TabU u) h2 => formedP_calls t (.agg #[.int .i64 k, .bool b, .string r, .string tx, .slice ko N kc, .slice vo M vc]) u h1 h2)
 rw [hwf.out] at hf
 generalize hW1 : w.alloc (.cells #[.int .i64 k, .bool b, .string r, .string tx, .slice ko N kc, .slice vo M vc] 25) = W1 at A1 B1
 go_enter Tryz.func4, Tryz.ntmps4
 go_wp2_with (first | refine wpList_load_want 25 _ w.heap.size 0 [.int .i64 k, .bool b, .string r, .string tx, .slice ko N kc, .slice vo M vc] _ (A1.out.range rfl) Tryz.underlying25 sizeVl rfl rfl rfl (by rfl) ?_ | fail)
 refine Calls.mono (hf.out _ (hT.out.below B1.out) (ha.out.kept B1.out)) ?_
 rintro e W2 ⟨rfl, b2⟩
 have B2 := hid (B1.out.trans (b2.mono B1.out.size))
 clear hf b2 A1 B1 hW1
 go_wp2
 go_ret
 exact ⟨rfl, B2.out⟩
end Go.Proofs.YtlmjiocdhobopaaGreatDoor
