/-
 write.Normal, write.Canon, and the law's own example (by gen_nrb.py).
-/
import Derived.Test.YtlhbgfhmcjaabaaGreatDoorNrA
import Derived.Test.YtlhbgfhmcjaabaaGreatDoorWrH
namespace Go.Proofs.YtlhbgfhmcjaabaaGreatDoor
open Go.RowKit Go.Shelf
/-- What is known of normal at a value. -/
def NrmAt (od : List ByteArray → List Nat) (t : Vt) (va : Value) : Prop := wfV t 1024 = true → ∀ u : World, ValAt u t va → PowT u → Calls Tryz.prog 35 #[va] u fun e w' => ∃ x : Value, e = .returned x ∧ ValOn (fun c => u.heap.size ≤ c) w' (nrmV od t) x ∧ Below u.heap.size u w'
set_option maxRecDepth 10000 in
set_option maxHeartbeats 8000000 in
theorem nrm_calls (od : List ByteArray → List Nat) (t : Vt) (va : Value) (hnr : NrmAt od t va) (w : World) (hT : TabU w) (hP : PowT w) (ha : ValAt w t va) (F : Bool) (hF : wfV t 1024 = F) :
  Calls Tryz.prog 15 #[va] w fun e w' => ∃ x : Value, e = .returned (.tuple #[x, .int .i64 (if F then 0 else 1)]) ∧ ValOn (fun c => w.heap.size ≤ c) w' (if F then nrmV od t else vt0) x ∧ Below w.heap.size w w' := by
 have hfo := hid (fun u h0 h1 => formedP_calls t va u h0 h1)
 rw [hF] at hfo
 have hco := hid (fun (e : F = true) u h1 h2 => hnr (hF.trans e) u h1 h2)
 have ha' := hid ha
 have hT' := hid hT
 have hP' := hid hP
 obtain ⟨NV, hNV⟩ : ∃ x, nrmV od t = x := ⟨_, rfl⟩
 rw [hNV] at hco ⊢
 cases ha with
 | mk k b r t0 ks vs ko kc vo vc X hw hzz hk hr hv =>
 clear hw hzz hk hr hv hF hT hP hnr hNV
 generalize ks.length = N at *
 generalize vs.length = M at *
 obtain ⟨H, hH⟩ : ∃ H, Hid (w.heap.size = H) := ⟨_, rfl⟩
 have e1 : (w.alloc (.cells #[.int .i64 k, .bool b, .string r, .string t0, .slice ko N kc, .slice vo M vc] 25)).heap.size = H + 1 := by rw [World.size_alloc, hH.out]
 have A1 : Hid (At ((w.alloc (.cells #[.int .i64 k, .bool b, .string r, .string t0, .slice ko N kc, .slice vo M vc] 25)).alloc (.cells #[.int .i64 0, .bool false, .string ⟨#[]⟩, .string ⟨#[]⟩, .slice none 0 0, .slice none 0 0] 25)) H #[.int .i64 k, .bool b, .string r, .string t0, .slice ko N kc, .slice vo M vc] 25) := by
  have h := (At.new w #[.int .i64 k, .bool b, .string r, .string t0, .slice ko N kc, .slice vo M vc] 25).alloc (.cells #[.int .i64 0, .bool false, .string ⟨#[]⟩, .string ⟨#[]⟩, .slice none 0 0, .slice none 0 0] 25)
  rw [hH.out] at h
  exact h
 have R1 : Hid (At ((w.alloc (.cells #[.int .i64 k, .bool b, .string r, .string t0, .slice ko N kc, .slice vo M vc] 25)).alloc (.cells #[.int .i64 0, .bool false, .string ⟨#[]⟩, .string ⟨#[]⟩, .slice none 0 0, .slice none 0 0] 25)) (H + 1) #[.int .i64 0, .bool false, .string ⟨#[]⟩, .string ⟨#[]⟩, .slice none 0 0, .slice none 0 0] 25) := by
  have h := At.new (w.alloc (.cells #[.int .i64 k, .bool b, .string r, .string t0, .slice ko N kc, .slice vo M vc] 25)) #[.int .i64 0, .bool false, .string ⟨#[]⟩, .string ⟨#[]⟩, .slice none 0 0, .slice none 0 0] 25
  rw [e1] at h
  exact h
 have B1 : Hid (Below w.heap.size w ((w.alloc (.cells #[.int .i64 k, .bool b, .string r, .string t0, .slice ko N kc, .slice vo M vc] 25)).alloc (.cells #[.int .i64 0, .bool false, .string ⟨#[]⟩, .string ⟨#[]⟩, .slice none 0 0, .slice none 0 0] 25))) := ((Below.refl _ w).alloc (Nat.le_refl _) _).alloc (by rw [World.size_alloc]; omega) _
 have z1 : Hid (((w.alloc (.cells #[.int .i64 k, .bool b, .string r, .string t0, .slice ko N kc, .slice vo M vc] 25)).alloc (.cells #[.int .i64 0, .bool false, .string ⟨#[]⟩, .string ⟨#[]⟩, .slice none 0 0, .slice none 0 0] 25)).heap.size = H + 2) := by show _ = _; rw [World.size_alloc, e1]
 clear e1
 go_enter Tryz.func15, Tryz.ntmps15
 go_upto_region 1 with fail
 rw [hH.out]
 generalize (w.alloc (.cells #[.int .i64 k, .bool b, .string r, .string t0, .slice ko N kc, .slice vo M vc] 25)).alloc (.cells #[.int .i64 0, .bool false, .string ⟨#[]⟩, .string ⟨#[]⟩, .slice none 0 0, .slice none 0 0] 25) = W1 at A1 R1 B1 z1 ⊢
 have d0 := A1.out.cell 0
 have d1 := A1.out.cell 1
 have d2 := A1.out.cell 2
 have d3 := A1.out.cell 3
 have d4 := A1.out.cell 4
 have d5 := A1.out.cell 5
 simp only [List.getElem?_toArray, List.getElem?_cons_zero, List.getElem?_cons_succ] at d0 d1 d2 d3 d4 d5
 go_wp2_with fail
 refine Calls.mono (hfo.out W1 (hT'.out.below B1.out) (ha'.out.kept B1.out)) ?_
 rintro e w2 ⟨rfl, hb2⟩
 have A2 := hid (A1.out.keptAll hb2)
 have R2 := hid (R1.out.keptAll hb2)
 have B2 := hid (B1.out.trans (hb2.mono B1.out.size))
 have z2 : Hid (H + 2 ≤ w2.heap.size) := by have := hb2.size; rw [z1.out] at this; exact this
 clear hb2 hfo A1 B1 R1 z1 d0 d1 d2 d3 d4 d5
 cases F with
 | false =>
  have g0 := R2.out.cell 0
  have g1 := R2.out.cell 1
  have g2 := R2.out.cell 2
  have g3 := R2.out.cell 3
  have g4 := R2.out.cell 4
  have g5 := R2.out.cell 5
  simp only [List.getElem?_toArray, List.getElem?_cons_zero, List.getElem?_cons_succ] at g0 g1 g2 g3 g4 g5
  have f0 := R2.out.frozen 0
  have f1 := R2.out.frozen 1
  have f2 := R2.out.frozen 2
  have f3 := R2.out.frozen 3
  have f4 := R2.out.frozen 4
  have f5 := R2.out.frozen 5
  go_wp2
  refine ret_val2 (p := 2) (u := 3) rfl rfl (R2.out.six) rfl rfl ?_
  have hh := hH.out
  refine ⟨_, rfl, ?_, below_six B2.out (by omega) _ _ _ _ _ _⟩
  exact .mk 0 false ⟨#[]⟩ ⟨#[]⟩ [] [] none 0 none 0 (fun _ => #[]) (by decide) ⟨by decide, by decide, Nat.zero_le _, Nat.zero_le _⟩ (fun i s h => by simp at h) (fun i h => by simp at h) (fun i u h => by simp at h)
 | true =>
  have d0 := A2.out.cell 0
  have d1 := A2.out.cell 1
  have d2 := A2.out.cell 2
  have d3 := A2.out.cell 3
  have d4 := A2.out.cell 4
  have d5 := A2.out.cell 5
  simp only [List.getElem?_toArray, List.getElem?_cons_zero, List.getElem?_cons_succ] at d0 d1 d2 d3 d4 d5
  have hc2 := hid (hco.out (by first | rfl | trivial) w2 (ha'.out.kept B2.out) (hP'.out.kept B2.out))
  go_wp2_with fail
  refine Calls.mono hc2.out ?_
  rintro e w3 ⟨x, rfl, hV, hb3⟩
  obtain ⟨u, hu⟩ : ∃ u, Hid (NV = u) := ⟨_, rfl⟩
  rw [hu.out] at hV
  obtain ⟨ko2, kc2, vo2, vc2, rfl⟩ := hV.six
  have B3 := hid (B2.out.trans (hb3.mono B2.out.size))
  have R3 := hid (R2.out.keptAll hb3)
  have V3 := hid hV
  clear hb3 hc2 d0 d1 d2 d3 d4 d5 hV
  have g0 := R3.out.cell 0
  have g1 := R3.out.cell 1
  have g2 := R3.out.cell 2
  have g3 := R3.out.cell 3
  have g4 := R3.out.cell 4
  have g5 := R3.out.cell 5
  simp only [List.getElem?_toArray, List.getElem?_cons_zero, List.getElem?_cons_succ] at g0 g1 g2 g3 g4 g5
  have f0 := R3.out.frozen 0
  have f1 := R3.out.frozen 1
  have f2 := R3.out.frozen 2
  have f3 := R3.out.frozen 3
  have f4 := R3.out.frozen 4
  have f5 := R3.out.frozen 5
  go_wp2
  refine ret_val2 (p := 2) (u := 3) rfl rfl (R3.out.six) rfl rfl ?_
  have hz := z2.out
  have hh := hH.out
  try rw [if_pos rfl]
  rw [hu.out]
  refine ⟨_, rfl, ?_, below_six B3.out (by omega) _ _ _ _ _ _⟩
  refine V3.out.kept (fun c _ hc => ?_) ⟨same_six.1, fun c hc hl => same_six.2 c ?_ hl⟩
  ·show w.heap.size ≤ c
   have : w2.heap.size ≤ c := hc
   omega
  ·show c ≠ H + 1
   have : w2.heap.size ≤ c := hc
   omega
set_option maxRecDepth 10000 in
set_option maxHeartbeats 8000000 in
theorem canon_calls (od : List ByteArray → List Nat) (t : Vt) (va : Value) (hnr : NrmAt od t va) (F : Bool) (hF : wfV t 1024 = F) (hwf : F = true → wfV (nrmV od t) 1024 = true) (hsz : F = true → szV (nrmV od t)) (hdp : F = true → depV (nrmV od t) ≤ 1048576) (hn : F = true → (cmpL (nrmV od t)).length ≤ 140737488355328) (w : World) (hT : TabU w) (hP : PowT w) (ha : ValAt w t va) :
  Calls Tryz.prog 17 #[va] w fun e w' => e = .returned (.tuple #[.string (if F then ⟨(cmpL (nrmV od t)).toArray⟩ else ⟨#[]⟩), .int .i64 (if F then 0 else 1)]) ∧ Below w.heap.size w w' := by
 have hno := hid (fun u h0 h1 h2 => nrm_calls od t va hnr u h0 h1 h2 F hF)
 have hco := hid (fun (e : F = true) va u h1 => compact_calls (nrmV od t) va (hwf e) (hsz e) (hdp e) (hn e) u h1)
 have ha' := hid ha
 have hT' := hid hT
 have hP' := hid hP
 obtain ⟨NV, hNV⟩ : ∃ x, nrmV od t = x := ⟨_, rfl⟩
 rw [hNV] at hno hco ⊢
 generalize cmpL NV = CL at *
 cases ha with
 | mk k b r t0 ks vs ko kc vo vc X hw hzz hk hr hv =>
 clear hw hzz hk hr hv hF hT hP hnr hNV hwf hsz hdp hn
 generalize ks.length = N at *
 generalize vs.length = M at *
 have A1 : Hid (At (w.alloc (.cells #[.int .i64 k, .bool b, .string r, .string t0, .slice ko N kc, .slice vo M vc] 25)) w.heap.size #[.int .i64 k, .bool b, .string r, .string t0, .slice ko N kc, .slice vo M vc] 25) := At.new w _ _
 have B1 : Hid (Below w.heap.size w (w.alloc (.cells #[.int .i64 k, .bool b, .string r, .string t0, .slice ko N kc, .slice vo M vc] 25))) := (Below.refl _ w).alloc (Nat.le_refl _) _
 go_enter Tryz.func17, Tryz.ntmps17
 go_upto_region 1 with fail
 generalize w.alloc (.cells #[.int .i64 k, .bool b, .string r, .string t0, .slice ko N kc, .slice vo M vc] 25) = W1 at A1 B1 ⊢
 have d0 := A1.out.cell 0
 have d1 := A1.out.cell 1
 have d2 := A1.out.cell 2
 have d3 := A1.out.cell 3
 have d4 := A1.out.cell 4
 have d5 := A1.out.cell 5
 simp only [List.getElem?_toArray, List.getElem?_cons_zero, List.getElem?_cons_succ] at d0 d1 d2 d3 d4 d5
 go_wp2_with fail
 refine Calls.mono (hno.out W1 (hT'.out.below B1.out) (hP'.out.kept B1.out) (ha'.out.kept B1.out)) ?_
 rintro e w2 ⟨x, rfl, hV, hb2⟩
 obtain ⟨u, hu⟩ : ∃ u, Hid ((if F then NV else vt0) = u) := ⟨_, rfl⟩
 rw [hu.out] at hV
 obtain ⟨ko2, kc2, vo2, vc2, rfl⟩ := hV.six
 have q2 : Below w2.heap.size w2 (w2.alloc (.cells #[.int .i64 u.kind, .bool u.b, .string u.raw, .string u.text, .slice ko2 u.keys.length kc2, .slice vo2 u.kids.length vc2] 25)) := (Below.refl _ _).alloc (Nat.le_refl _) _
 have B2 := hid ((B1.out.trans (hb2.mono B1.out.size)).trans (q2.mono (Nat.le_trans B1.out.size hb2.size)))
 have V2 := hid ((hV.keptB q2).at)
 have E2 := hid (At.new w2 #[.int .i64 u.kind, .bool u.b, .string u.raw, .string u.text, .slice ko2 u.keys.length kc2, .slice vo2 u.kids.length vc2] 25)
 clear hb2 hno A1 B1 hV q2 d0 d1 d2 d3 d4 d5
 cases F with
 | false =>
  go_wp2
  refine bodyPost_ret (v := .tuple #[.string ⟨#[]⟩, .int .i64 1]) (by simp [results, Tryz.results17, go_sem]) rfl ⟨rfl, B2.out⟩
 | true =>
  rw [if_pos rfl] at hu
  have hc2 := hid (hco.out (by first | rfl | trivial))
  rw [hu.out] at hc2
  go_upto_region 4 with fail
  obtain ⟨pe, hpe⟩ : ∃ x, w2.heap.size = x := ⟨_, rfl⟩
  rw [hpe] at E2 ⊢
  clear hpe hu
  generalize w2.alloc (.cells #[.int .i64 u.kind, .bool u.b, .string u.raw, .string u.text, .slice ko2 u.keys.length kc2, .slice vo2 u.kids.length vc2] 25) = W3 at E2 V2 B2 ⊢
  have d0 := E2.out.cell 0
  have d1 := E2.out.cell 1
  have d2 := E2.out.cell 2
  have d3 := E2.out.cell 3
  have d4 := E2.out.cell 4
  have d5 := E2.out.cell 5
  simp only [List.getElem?_toArray, List.getElem?_cons_zero, List.getElem?_cons_succ] at d0 d1 d2 d3 d4 d5
  go_wp2_with fail
  refine Calls.mono (hc2.out _ W3 V2.out) ?_
  rintro e w3 ⟨rfl, hb3⟩
  have B3 := hid (B2.out.trans (hb3.mono B2.out.size))
  clear hb3 hc2
  go_wp2
  refine bodyPost_ret (v := .tuple #[.string ⟨CL.toArray⟩, .int .i64 0]) (by simp [results, Tryz.results17, go_sem]) rfl ⟨rfl, B3.out⟩
/-- The law's own example, and its normal form. -/
def exT : Vt := .mk 5 false ⟨#[]⟩ ⟨#[]⟩ [] [.mk 3 false ⟨#[49, 46, 48]⟩ ⟨#[]⟩ [] [], .mk 1 false ⟨#[]⟩ ⟨#[]⟩ [] []]
def exN : Vt := .mk 5 false ⟨#[]⟩ ⟨#[]⟩ [] [.mk 3 false ⟨#[49]⟩ ⟨#[]⟩ [] [], .mk 1 false ⟨#[]⟩ ⟨#[]⟩ [] []]
theorem exNum : nrmN ⟨#[49, 46, 48]⟩ = ⟨#[49]⟩ := by decide +kernel
theorem ex_nrm (od : List ByteArray → List Nat) : nrmV od exT = exN := by
 unfold exT exN
 simp [nrmV, nrmL, exNum]
theorem ex_wf : wfV exT 1024 = true := by decide +kernel
theorem exN_wf : wfV exN 1024 = true := by decide +kernel
theorem ex_cmp : cmpL exT = [91, 49, 46, 48, 44, 110, 117, 108, 108, 93] := by decide +kernel
theorem exN_cmp : cmpL exN = [91, 49, 44, 110, 117, 108, 108, 93] := by decide +kernel
theorem ex_sz : szV exT := by
 unfold exT
 simp only [szV, szL]
 exact ⟨by decide, fun i k h => by simp at h, ⟨by decide, fun i k h => by simp at h, trivial⟩, ⟨by decide, fun i k h => by simp at h, trivial⟩, trivial⟩
theorem exN_sz : szV exN := by
 unfold exN
 simp only [szV, szL]
 exact ⟨by decide, fun i k h => by simp at h, ⟨by decide, fun i k h => by simp at h, trivial⟩, ⟨by decide, fun i k h => by simp at h, trivial⟩, trivial⟩
theorem ex_at (w : World) : ValAt ((w.alloc (.cells #[.int .i64 3, .bool false, .string ⟨#[49, 46, 48]⟩, .string ⟨#[]⟩, .slice none 0 0, .slice none 0 0, .int .i64 1, .bool false, .string ⟨#[]⟩, .string ⟨#[]⟩, .slice none 0 0, .slice none 0 0] 25))) exT (.agg #[.int .i64 5, .bool false, .string ⟨#[]⟩, .string ⟨#[]⟩, .slice none 0 0, .slice (some ⟨w.heap.size, 0, none⟩) 2 2]) := by
 have h := At.new w #[.int .i64 3, .bool false, .string ⟨#[49, 46, 48]⟩, .string ⟨#[]⟩, .slice none 0 0, .slice none 0 0, .int .i64 1, .bool false, .string ⟨#[]⟩, .string ⟨#[]⟩, .slice none 0 0, .slice none 0 0] 25
 refine .mk 5 false ⟨#[]⟩ ⟨#[]⟩ [] [.mk 3 false ⟨#[49, 46, 48]⟩ ⟨#[]⟩ [] [], .mk 1 false ⟨#[]⟩ ⟨#[]⟩ [] []] none 0 (some ⟨w.heap.size, 0, none⟩) 2 (fun i => if i = 0 then #[.int .i64 3, .bool false, .string ⟨#[49, 46, 48]⟩, .string ⟨#[]⟩, .slice none 0 0, .slice none 0 0] else #[.int .i64 1, .bool false, .string ⟨#[]⟩, .string ⟨#[]⟩, .slice none 0 0, .slice none 0 0]) (by decide) ⟨by decide, by decide, Nat.zero_le _, by decide⟩ (fun i s h => by simp at h) (row2 h) ?_
 intro i u hu
 match i, hu with
 | 0, hu => simp at hu; subst hu; exact valLeaf _ 3 false _ _ (by decide) (by decide) (by decide)
 | 1, hu => simp at hu; subst hu; exact valLeaf _ 1 false _ _ (by decide) (by decide) (by decide)
set_option maxRecDepth 10000 in
set_option maxHeartbeats 8000000 in
theorem awake18_calls (w : World) (hT : TabU w) (hP : PowT w) : Calls Tryz.prog 12 #[] w fun e w' => e = .returned (.bool true) ∧ Below w.heap.size w w' := by
 have hc1 := hid (fun u h0 h1 => cmp_calls exT (.agg #[.int .i64 5, .bool false, .string ⟨#[]⟩, .string ⟨#[]⟩, .slice none 0 0, .slice (some ⟨w.heap.size, 0, none⟩) 2 2]) ex_sz (by decide) (by rw [ex_cmp]; decide) u h0 h1 true ex_wf)
 have hc2 := hid (fun u h0 h1 h2 => canon_calls (fun _ => []) exT (.agg #[.int .i64 5, .bool false, .string ⟨#[]⟩, .string ⟨#[]⟩, .slice none 0 0, .slice (some ⟨w.heap.size, 0, none⟩) 2 2]) (fun _ u h1 h2 => normal_ex _ _ exT (Nat.le_refl _) (by unfold exT; simp [lnV, lnL]) (by unfold exT; simp only [noO, noOL]; exact ⟨by decide, by decide, ⟨by decide, by decide, trivial⟩, ⟨by decide, by decide, trivial⟩, trivial⟩) _ u h1 h2) true ex_wf (fun _ => by rw [ex_nrm]; exact exN_wf) (fun _ => by rw [ex_nrm]; exact exN_sz) (fun _ => by rw [ex_nrm]; decide) (fun _ => by rw [ex_nrm, exN_cmp]; decide) u h0 h1 h2)
 rw [ex_nrm, exN_cmp] at hc2
 rw [ex_cmp] at hc1
 have ha := hid (ex_at w)
 obtain ⟨W1, eW⟩ : ∃ x, (w.alloc (.cells #[.int .i64 3, .bool false, .string ⟨#[49, 46, 48]⟩, .string ⟨#[]⟩, .slice none 0 0, .slice none 0 0, .int .i64 1, .bool false, .string ⟨#[]⟩, .string ⟨#[]⟩, .slice none 0 0, .slice none 0 0] 25)).alloc (.cells #[.int .i64 5, .bool false, .string ⟨#[]⟩, .string ⟨#[]⟩, .slice none 0 0, .slice (some ⟨w.heap.size, 0, none⟩) 2 2] 25) = x := ⟨_, rfl⟩
 have q1 : Below (w.alloc (.cells #[.int .i64 3, .bool false, .string ⟨#[49, 46, 48]⟩, .string ⟨#[]⟩, .slice none 0 0, .slice none 0 0, .int .i64 1, .bool false, .string ⟨#[]⟩, .string ⟨#[]⟩, .slice none 0 0, .slice none 0 0] 25)).heap.size (w.alloc (.cells #[.int .i64 3, .bool false, .string ⟨#[49, 46, 48]⟩, .string ⟨#[]⟩, .slice none 0 0, .slice none 0 0, .int .i64 1, .bool false, .string ⟨#[]⟩, .string ⟨#[]⟩, .slice none 0 0, .slice none 0 0] 25)) W1 := by rw [← eW]; exact (Below.refl _ _).alloc (Nat.le_refl _) _
 have V1 := hid (ha.out.kept q1)
 have A1 : Hid (At W1 (w.heap.size + 1) #[.int .i64 5, .bool false, .string ⟨#[]⟩, .string ⟨#[]⟩, .slice none 0 0, .slice (some ⟨w.heap.size, 0, none⟩) 2 2] 25) := by
  have h := At.new (w.alloc (.cells #[.int .i64 3, .bool false, .string ⟨#[49, 46, 48]⟩, .string ⟨#[]⟩, .slice none 0 0, .slice none 0 0, .int .i64 1, .bool false, .string ⟨#[]⟩, .string ⟨#[]⟩, .slice none 0 0, .slice none 0 0] 25)) #[.int .i64 5, .bool false, .string ⟨#[]⟩, .string ⟨#[]⟩, .slice none 0 0, .slice (some ⟨w.heap.size, 0, none⟩) 2 2] 25
  rw [World.size_alloc, eW] at h
  exact h
 have B1 := hid (((Below.refl w.heap.size w).alloc (Nat.le_refl _) (.cells #[.int .i64 3, .bool false, .string ⟨#[49, 46, 48]⟩, .string ⟨#[]⟩, .slice none 0 0, .slice none 0 0, .int .i64 1, .bool false, .string ⟨#[]⟩, .string ⟨#[]⟩, .slice none 0 0, .slice none 0 0] 25)).trans (q1.mono (by rw [World.size_alloc]; omega)))
 have hT1 := hid (hT.below B1.out)
 have hP1 := hid (hP.kept B1.out)
 clear ha q1 hT hP
 go_enter Tryz.func12, Tryz.ntmps12
 go_upto_region 2 with fail
 clear eW
 have d0 := A1.out.cell 0
 have d1 := A1.out.cell 1
 have d2 := A1.out.cell 2
 have d3 := A1.out.cell 3
 have d4 := A1.out.cell 4
 have d5 := A1.out.cell 5
 simp only [List.getElem?_toArray, List.getElem?_cons_zero, List.getElem?_cons_succ] at d0 d1 d2 d3 d4 d5
 go_wp2_with fail
 refine Calls.mono (hc1.out W1 hT1.out V1.out) ?_
 rintro e w2 ⟨rfl, hb2⟩
 have A2 := hid (A1.out.keptAll hb2)
 have V2 := hid (V1.out.kept hb2)
 have B2 := hid (B1.out.trans (hb2.mono B1.out.size))
 have hT2 := hid (hT1.out.below hb2)
 have hP2 := hid (hP1.out.kept hb2)
 clear hb2 hc1 A1 V1 B1 hT1 hP1 d0 d1 d2 d3 d4 d5
 have d0 := A2.out.cell 0
 have d1 := A2.out.cell 1
 have d2 := A2.out.cell 2
 have d3 := A2.out.cell 3
 have d4 := A2.out.cell 4
 have d5 := A2.out.cell 5
 simp only [List.getElem?_toArray, List.getElem?_cons_zero, List.getElem?_cons_succ] at d0 d1 d2 d3 d4 d5
 go_wp2_with fail
 refine Calls.mono (hc2.out w2 hT2.out hP2.out V2.out) ?_
 rintro e w3 ⟨rfl, hb3⟩
 have B3 := hid (B2.out.trans (hb3.mono B2.out.size))
 clear hb3 hc2
 go_wp2
 go_ret
 exact ⟨rfl, B3.out⟩
end Go.Proofs.YtlhbgfhmcjaabaaGreatDoor
