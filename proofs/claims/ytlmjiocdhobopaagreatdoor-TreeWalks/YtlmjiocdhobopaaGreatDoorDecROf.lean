/-
 What the reference's Read and Of answer: the same.
-/
import Derived.Test.YtlmjiocdhobopaaGreatDoorRefScan
import Derived.Test.YtlmjiocdhobopaaGreatDoorDecRMake
import Derived.Test.YtlmjiocdhobopaaGreatDoorDecR
namespace Go.Proofs.YtlmjiocdhobopaaGreatDoor
open Go.RowKit Go.Shelf
/-- What the reference reckons of a number's text: the digits behind a sign, or none. -/
theorem rs_pw (s : ByteArray) : ∀ i, i ≤ s.size → (∀ j, j < s.size → dgB (lk s j) = true) → (pwN (s.data.toList.take i) ≤ 1000000000000000 → rsF s i = pwN (s.data.toList.take i)) ∧ (1000000000000000 < pwN (s.data.toList.take i) → 1000000000000000 < rsF s i)
 | 0, _, _ => ⟨fun _ => rfl, fun h => by simp [pwN] at h⟩
 | i + 1, h, hd => by
  obtain ⟨h1, h2⟩ := rs_pw s i (by omega) hd
  rw [pw_take s i (by omega)]
  have hdi := hd i (by omega)
  have h3 := (dgB_iff _).1 hdi
  show (_ → (if dgB (lk s i) = true ∧ rsF s i ≤ 1000000000000000 then 10 * rsF s i + (lk s i - 48) else rsF s i) = _) ∧ (_ → _ < (if dgB (lk s i) = true ∧ rsF s i ≤ 1000000000000000 then 10 * rsF s i + (lk s i - 48) else rsF s i))
  by_cases h4 : pwN (s.data.toList.take i) ≤ 1000000000000000
  ·rw [h1 h4, if_pos ⟨hdi, h4⟩]
   exact ⟨fun _ => rfl, fun h => h⟩
  ·have h5 := h2 (by omega)
   rw [if_neg (fun h => by omega)]
   exact ⟨fun h => by omega, fun _ => h5⟩
theorem take_all (s : ByteArray) : s.data.toList.take s.size = s.data.toList := List.take_of_length_le (by rw [size_list]; exact Nat.le_refl _)
/-- Of digits alone. -/
theorem rs_plain (s : ByteArray) (hd : ∀ j, j < s.size → dgB (lk s j) = true) : (pwN s.data.toList ≤ 1000000000000000 → rsF s s.size = pwN s.data.toList) ∧ (1000000000000000 < pwN s.data.toList → 1000000000000000 < rsF s s.size) := by
 have := rs_pw s s.size (Nat.le_refl _) hd
 rwa [take_all] at this
theorem rsN_no (s : ByteArray) (h : ∀ j, j < s.size → lk s j ≠ 45) : ∀ i, i ≤ s.size → rsN s i = false
 | 0, _ => rfl
 | i + 1, hi => by
  show (rsN s i || decide (lk s i = 45)) = false
  rw [rsN_no s h i (by omega), decide_eq_false (h i (by omega))]
  rfl
/-- With one byte ahead that is no digit. -/
theorem rs_shift (s t : ByteArray) (hz : s.size = t.size + 1) (h0 : dgB (lk s 0) = false) (hl : ∀ j, j < t.size → lk s (j + 1) = lk t j) : ∀ i, i ≤ t.size → rsF s (i + 1) = rsF t i ∧ rsN s (i + 1) = (decide (lk s 0 = 45) || rsN t i)
 | 0, _ => by
  refine ⟨?_, ?_⟩
  ·show (if dgB (lk s 0) = true ∧ (0 : Nat) ≤ 1000000000000000 then 10 * 0 + (lk s 0 - 48) else 0) = 0
   rw [if_neg (fun h => by rw [h0] at h; exact Bool.noConfusion h.1)]
  ·show (false || decide (lk s 0 = 45)) = (decide (lk s 0 = 45) || false)
   simp
 | i + 1, h => by
  obtain ⟨h1, h2⟩ := rs_shift s t hz h0 hl i (by omega)
  have h3 := hl i (by omega)
  refine ⟨?_, ?_⟩
  ·show (if dgB (lk s (i + 1)) = true ∧ rsF s (i + 1) ≤ 1000000000000000 then 10 * rsF s (i + 1) + (lk s (i + 1) - 48) else rsF s (i + 1)) = (if dgB (lk t i) = true ∧ rsF t i ≤ 1000000000000000 then 10 * rsF t i + (lk t i - 48) else rsF t i)
   rw [h1, h3]
  ·show (rsN s (i + 1) || decide (lk s (i + 1) = 45)) = (decide (lk s 0 = 45) || (rsN t i || decide (lk t i = 45)))
   rw [h2, h3, Bool.or_assoc]
theorem dg_ne {x : Nat} (h : dgB x = true) : x ≠ 45 := by have := (dgB_iff x).1 h; omega
theorem ext_shift (s : ByteArray) (C H : Nat) (hH : H ≤ s.size) (j : Nat) (hj : j < (s.extract (C + 2) H).size) : lk (s.extract (C + 1) H) (j + 1) = lk (s.extract (C + 2) H) j := by
 rw [ByteArray.size_extract] at hj
 rw [lk_extract s (C + 1) H (j + 1) (by omega) hH, lk_extract s (C + 2) H j (by omega) hH]
 have h : C + 1 + (j + 1) = C + 2 + j := by omega
 rw [h]
theorem ext_sizeD (s : ByteArray) (C H : Nat) (hH : H ≤ s.size) (hC : C + 2 ≤ H) : (s.extract (C + 1) H).size = (s.extract (C + 2) H).size + 1 := by
 rw [ByteArray.size_extract, ByteArray.size_extract]; omega
/-- The exponent, as the reference reckons it, is the same, or beyond all bounds on the same side. -/
theorem rs_same {s : ByteArray} {p en : Nat} {N : Num} (hp : p ≤ s.size) (h : scanS s p = (some N, en)) : rsV (scEx s p) = powS N ∨ (rsV (scEx s p) = -1000000000000001 ∧ powS N < -1000000000000000) ∨ (rsV (scEx s p) = 1000000000000001 ∧ 1000000000000000 < powS N) := by
 obtain ⟨-, -, hdig⟩ := num_of h hp
 have hN : N.dn = scDn s p ∧ N.pw = scPw s p ∧ (scX s p = true → dgB (lk s (scF s p)) = true) := by
  unfold scanS at h
  split at h
  ·cases h
  ·split at h
   ·cases h
   ·split at h
    ·cases h
    ·rename_i h3
     simp only [Prod.mk.injEq, Option.some.injEq] at h
     obtain ⟨rfl, rfl⟩ := h
     refine ⟨rfl, rfl, fun hX => ?_⟩
     cases hd : dgB (lk s (scF s p)) with
     | true => rfl
     | false => exact absurd ⟨hX, hd⟩ h3
 have key : ∀ (t : ByteArray) (b : Bool), rsF t t.size = rsF N.pw N.pw.size → rsN t t.size = b → N.dn = b → rsV t = powS N ∨ (rsV t = -1000000000000001 ∧ powS N < -1000000000000000) ∨ (rsV t = 1000000000000001 ∧ 1000000000000000 < powS N) := by
  intro t b h1 h2 h3
  obtain ⟨h4, h5⟩ := rs_plain N.pw hdig
  unfold rsV powS
  rw [h1, h2, h3]
  by_cases h6 : pwN N.pw.data.toList ≤ 1000000000000000
  ·left
   have hM : (if 1000000000000000 < rsF N.pw N.pw.size then 1000000000000001 else rsF N.pw N.pw.size : Nat) = pwN N.pw.data.toList := by rw [h4 h6, if_neg (by omega)]
   rw [hM]
  ·right
   have hM : (if 1000000000000000 < rsF N.pw N.pw.size then 1000000000000001 else rsF N.pw N.pw.size : Nat) = 1000000000000001 := if_pos (h5 (by omega))
   rw [hM]
   cases b
   ·right; refine ⟨rfl, ?_⟩; simp; omega
   ·left; refine ⟨rfl, ?_⟩; simp; omega
 by_cases hX : scX s p = true
 ·have hF := scF_le s p hX
  have hH : scH s p = rn s (scF s p) := by rw [scH, if_pos hX]
  have hHl := rn_le s _ hF
  have hHg := rn_ge s (scF s p)
  have hpw : N.pw = s.extract (scF s p) (scH s p) := by rw [hN.2.1, scPw, if_pos hX]
  have hex : scEx s p = s.extract (scC s p + 1) (scH s p) := by rw [scEx, if_pos hX]
  by_cases hg : lk s (scC s p + 1) = 43 ∨ lk s (scC s p + 1) = 45
  ·have hF2 : scF s p = scC s p + 2 := by rw [scF, if_pos hg]
   have hDn : scDn s p = decide (lk s (scC s p + 1) = 45) := by rw [scDn, hX]; rfl
   rw [hF2] at hpw hH hHl hHg
   rw [hex]
   generalize scC s p = C at *
   generalize scH s p = H at *
   have hHl2 : H ≤ s.size := by rw [hH]; exact hHl
   have hHg2 : C + 2 ≤ H := by rw [hH]; exact hHg
   clear hH hHl hHg hex
   have l0 : lk (s.extract (C + 1) H) 0 = lk s (C + 1) := lk_extract s (C + 1) H 0 (by omega) hHl2
   have hd0 : dgB (lk (s.extract (C + 1) H) 0) = false := by
    rw [l0]
    rcases hg with h' | h'
    ·rw [h']; decide
    ·rw [h']; decide
   have z1 := ext_sizeD s C H hHl2 hHg2
   have hsh := rs_shift (s.extract (C + 1) H) (s.extract (C + 2) H) z1 hd0 (fun j hj => ext_shift s C H hHl2 j hj) (s.extract (C + 2) H).size (Nat.le_refl _)
   refine key _ (scDn s p) ?_ ?_ hN.1
   ·rw [z1, hsh.1, hpw]
   ·rw [z1, hsh.2, l0, rsN_no _ (fun j hj => dg_ne (by rw [hpw] at hdig; exact hdig j hj)) _ (Nat.le_refl _), hDn]
    simp
  ·have hF1 : scF s p = scC s p + 1 := by rw [scF, if_neg hg]
   rw [hex, ← hF1, ← hpw]
   refine key _ (scDn s p) rfl ?_ hN.1
   rw [rsN_no _ (fun j hj => dg_ne (hdig j hj)) _ (Nat.le_refl _), scDn, hX, decide_eq_false (fun h => hg (.inr h))]
   rfl
 ·have hX' : scX s p = false := by simpa using hX
  have h1 : scEx s p = ⟨#[]⟩ := by rw [scEx, if_neg hX]
  have h2 : N.pw = ⟨#[]⟩ := by rw [hN.2.1, scPw, if_neg hX]
  rw [h1]
  refine key _ false (by rw [h2]) rfl (by rw [hN.1, scDn, hX']; rfl)
/-- So the reference makes what the program's worth is. -/
theorem mk_worth {s : ByteArray} {p en : Nat} {N : Num} (hs : s.size ≤ 281474976710656) (hp : p ≤ s.size) (h : scanS s p = (some N, en)) :
  mkV N.neg (N.wh ++ N.be) (rsV (scEx s p) - (N.be.size : Int)) = match worthS N with | none => .tuple #[decV zeroD, .bool false] | some d => .tuple #[decV d, .bool true] := by
 obtain ⟨h1, -, -⟩ := num_of h hp
 have hall : Lib.trimLeftB (N.wh ++ N.be).data.toList 48 = allS N := by rw [data_append]; rfl
 have hl : (allS N).length ≤ 281474976710656 := Nat.le_trans (trimL_length _ _) (by rw [List.length_append, size_list, size_list]; omega)
 rw [mkV, hall, worthS]
 by_cases h0 : allS N = []
 ·rw [if_pos h0, if_pos h0]
 ·rw [if_neg h0, if_neg h0]
  have hd : Lib.trimRightB (allS N) 48 = digS N := rfl
  rw [hd]
  rcases rs_same hp h with h2 | ⟨h2, h3⟩ | ⟨h2, h3⟩
  ·have h4 : rsV (scEx s p) - (N.be.size : Int) + (((allS N).length - (digS N).length : Nat) : Int) = expS N := by rw [h2]; rfl
   rw [h4]
   cases inB (expS N) <;> rfl
  ·have e1 : inB (rsV (scEx s p) - (N.be.size : Int) + (((allS N).length - (digS N).length : Nat) : Int)) = false := by rw [h2]; unfold inB; simp; omega
   have e2 : inB (expS N) = false := by unfold inB expS; simp; omega
   rw [e1, e2]; rfl
  ·have e1 : inB (rsV (scEx s p) - (N.be.size : Int) + (((allS N).length - (digS N).length : Nat) : Int)) = false := by rw [h2]; unfold inB; simp; omega
   have e2 : inB (expS N) = false := by unfold inB expS; simp; omega
   rw [e1, e2]; rfl
set_option maxRecDepth 10000 in
set_option maxHeartbeats 4000000 in
theorem refRead_calls (s : ByteArray) (p : Nat) (hs : s.size ≤ 281474976710656) (hp : p ≤ s.size) (w : World) :
  Calls Tryz.prog 53 #[.string s, .int .i64 (p : Int)] w fun e w' => e = .returned (readV s p) ∧ Below w.heap.size w w' := by
 have hsc := hid (fun w1 => refScan_calls s p (by omega) hp w1)
 have e1 : decide ((p : Int) < 0) = false := by simp
 have e2 : decide ((s.size : Int) < (p : Int)) = false := by simp; omega
 have D0 := hid (show OwnD w w.heap.size false ⟨#[]⟩ 0 (w.alloc (.cells #[.bool false, .string ⟨#[]⟩, .int .i64 0] 49)) from ⟨Nat.le_refl _, At.new w _ _, by repeat (first | with_reducible exact Below.refl _ _ | with_reducible refine Below.setCell ?_ (by first | (simp; done) | (simp; omega)) _ | with_reducible refine below_drewN ?_ _ | with_reducible refine Below.alloc ?_ (by first | (simp; done) | (simp; omega)) _ | with_reducible refine Below.drew ?_)⟩)
 obtain ⟨r, hr⟩ : ∃ r, scanS s p = r := ⟨_, rfl⟩
 obtain ⟨on, en⟩ := r
 go_enter Tryz.func53, Tryz.ntmps53
 go_wp2_with fail
 refine Calls.mono (hsc.out _) ?_
 rintro e w1 ⟨⟨n, t1, t2, t3, en', ok, rfl, hR⟩, hb⟩
 have D1 := hid (D0.out.kept hb)
 clear D0 hsc hb e1 e2
 obtain ⟨h1, h2, h3⟩ := hR.out
 rw [hr] at h1 h2 h3
 obtain rfl : en' = en := h1
 clear hR
 have B1 := hid (At.new w1 #[.bool n, .string t1, .string t2, .string t3] 104)
 have D2 := hid (D1.out.kept (w' := w1.alloc (.cells #[.bool n, .string t1, .string t2, .string t3] 104)) ((Below.refl _ _).alloc (Nat.le_refl _) _))
 have k2 := hid h2
 have k3 := hid h3
 have kr := hid hr
 clear h2 h3 hr
 go_upto_region 4 with fail
 generalize hb1 : w1.heap.size = b1 at B1 ⊢
 generalize w1.alloc (.cells #[.bool n, .string t1, .string t2, .string t3] 104) = w2 at B1 D2 ⊢
 clear D1 hb1
 have hen : en' ≤ s.size := by have := scan_end (s := s) hp; rw [kr.out] at this; exact this
 cases ok with
 | false =>
  obtain rfl : on = none := k2.out rfl
  have hv := hid (show readV s p = .tuple #[.agg #[.bool false, .string ⟨#[]⟩, .int .i64 0], .int .i64 (en' : Int), .int .i64 110] by rw [readV, readS, kr.out]; rfl)
  obtain ⟨⟨c0, c1, c2⟩, f0, f1, f2⟩ := D2.out.facts
  clear k2 k3 kr B1
  go_wp2
  refine ret_dec3 rfl rfl (D2.out.put _ _ _).2.1 rfl ⟨?_, (D2.out.put _ _ _).2.2⟩
  rw [hv.out]
  rfl
 | true =>
  obtain ⟨N, hN, q1, q2, q3, q4⟩ := k3.out rfl
  obtain rfl : on = some N := hN
  subst q1 q2 q3 q4
  obtain ⟨z1, z2, z3⟩ := num_of kr.out hp
  obtain ⟨E, hE⟩ : ∃ E, Hid (rsV (scEx s p) = E) := ⟨_, rfl⟩
  have hEb : -1000000000000001 ≤ E ∧ E ≤ 1000000000000001 := by
   rw [← hE.out]
   unfold rsV
   split <;> split <;> omega
  have hxs : (scEx s p).size ≤ s.size := by
   unfold scEx
   split
   ·rw [ByteArray.size_extract]; omega
   ·exact Nat.zero_le _
  have hnc := hid (fun w1 => numberD_calls (scEx s p) (by omega) E hE w1)
  have hmw := hid (mk_worth hs hp kr.out)
  have hmc := hid (fun w1 => makeD_calls N.neg (N.wh ++ N.be) (by rw [ByteArray.size_append]; omega) (E - (N.be.size : Int)) (by omega) (by omega) w1)
  rw [hE.out] at hmw
  obtain ⟨d, ok2, er, hmk, hrd, hok⟩ : ∃ (d : Dec) (ok2 : Bool) (er : Nat), mkV N.neg (N.wh ++ N.be) (E - (N.be.size : Int)) = .tuple #[decV d, .bool ok2] ∧ readV s p = .tuple #[decV d, .int .i64 (en' : Int), .int .i64 (er : Int)] ∧ (ok2 = false → d = zeroD ∧ er = 111) ∧ (ok2 = true → er = 0) := by
   have h1 : readS s p = match worthS N with | none => (zeroD, en', 111) | some d => (d, en', 0) := by rw [readS, kr.out]; rfl
   cases hw : worthS N with
   | none =>
    have h2 := hmw.out
    rw [hw] at h1 h2
    exact ⟨zeroD, false, 111, h2, by rw [readV, h1], fun _ => ⟨rfl, rfl⟩, fun h => by cases h⟩
   | some d =>
    have h2 := hmw.out
    rw [hw] at h1 h2
    exact ⟨d, true, 0, h2, by rw [readV, h1], (fun h => by cases h), fun _ => rfl⟩
  have hv := hid hrd
  have hok' := hid hok
  rw [hmk] at hmc
  obtain ⟨tx, htx⟩ : ∃ tx, scEx s p = tx := ⟨_, rfl⟩
  rw [htx] at hnc B1 hxs
  obtain ⟨ng, t1, t2, dw, tp⟩ := N
  obtain ⟨dn, dd, dx⟩ := d
  obtain ⟨TD, hTD⟩ : ∃ TD : ByteArray, (⟨dd.toArray⟩ : ByteArray) = TD := ⟨_, rfl⟩
  dsimp only [decV] at hmc hv
  rw [hTD] at hmc hv
  dsimp only at B1 hmc z1 z2 ⊢
  have hsum : ¬ t1.size + t2.size > 9223372036854775807 := by omega
  have ez : IntKind.i64.wrap (E - (t2.size : Int)) = E - (t2.size : Int) := by rw [IntKind.wrap_i64]; omega
  have hTD' := hid hTD
  clear hmw hmk hrd hok htx k2 k3 hE z3 hTD
  have c0 : w2.cell? ⟨b1, 0, none⟩ = some (.bool ng) := B1.out.cell 0
  have c1 : w2.cell? ⟨b1, 1, none⟩ = some (.string t1) := B1.out.cell 1
  have c2 : w2.cell? ⟨b1, 2, none⟩ = some (.string t2) := B1.out.cell 2
  have c3 : w2.cell? ⟨b1, 3, none⟩ = some (.string tx) := B1.out.cell 3
  go_wp2_with fail
  refine Calls.mono (hnc.out _) ?_
  rintro e w3 ⟨rfl, hw⟩
  obtain rfl : w2 = w3 := hw.symm
  clear hw hnc
  go_wp2_with fail
  refine Calls.mono (hmc.out _) ?_
  rintro e w3 ⟨rfl, hb⟩
  have D3 := hid (D2.out.kept hb)
  clear c0 c1 c2 c3 B1 D2 hmc hb hsum ez
  have B4 := hid (At.new w3 #[.bool dn, .string TD, .int .i64 dx] 49)
  have D4 := hid (D3.out.kept (w' := w3.alloc (.cells #[.bool dn, .string TD, .int .i64 dx] 49)) ((Below.refl _ _).alloc (Nat.le_refl _) _))
  go_upto_region 8 with fail
  generalize hb4 : w3.heap.size = b4 at B4 ⊢
  generalize w3.alloc (.cells #[.bool dn, .string TD, .int .i64 dx] 49) = w4 at B4 D4 ⊢
  clear D3 hb4
  obtain ⟨⟨c0, c1, c2⟩, f0, f1, f2⟩ := D4.out.facts
  cases ok2 with
  | false =>
   obtain ⟨hz, rfl⟩ := hok'.out.1 rfl
   have hz2 := hid hz
   have hv2 := hid (show readV s p = .tuple #[.agg #[.bool false, .string ⟨#[]⟩, .int .i64 0], .int .i64 (en' : Int), .int .i64 111] by
    rw [hv.out, ← hTD'.out]
    have h5 := hz2.out
    injection h5 with h6 h7 h8
    rw [h6, h7, h8]
    rfl)
   clear hv hok' B4 hz
   go_wp2
   refine ret_dec3 rfl rfl (D4.out.put _ _ _).2.1 rfl ⟨?_, (D4.out.put _ _ _).2.2⟩
   rw [hv2.out]
   rfl
  | true =>
   obtain rfl := hok'.out.2 rfl
   have g0 : w4.cell? ⟨b4, 0, none⟩ = some (.bool dn) := B4.out.cell 0
   have g1 : w4.cell? ⟨b4, 1, none⟩ = some (.string TD) := B4.out.cell 1
   have g2 : w4.cell? ⟨b4, 2, none⟩ = some (.int .i64 dx) := B4.out.cell 2
   clear hok' B4
   go_wp2
   refine ret_dec3 rfl rfl (D4.out.put _ _ _).2.1 rfl ⟨?_, (D4.out.put _ _ _).2.2⟩
   rw [hv.out]
   rfl
end Go.Proofs.YtlmjiocdhobopaaGreatDoor
