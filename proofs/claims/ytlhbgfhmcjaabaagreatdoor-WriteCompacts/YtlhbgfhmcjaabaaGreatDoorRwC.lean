/-
 The reference's compact text of any value; its Compact (by gen_rwc.py).
-/
import Derived.Test.YtlhbgfhmcjaabaaGreatDoorRwB
import Derived.Test.YtlhbgfhmcjaabaaGreatDoorWrH
namespace Go.Proofs.YtlhbgfhmcjaabaaGreatDoor
open Go.RowKit Go.Shelf
set_option maxRecDepth 10000 in
set_option maxHeartbeats 8000000 in
theorem cmp18_1 (b : Bool) (r t : ByteArray) (ko vo : Option Addr) (N kc M vc : Nat) (S : ByteArray) (w : World) (hw : Hid (∀ u : World, Calls Tryz.prog 41 #[.agg #[.int .i64 1, .bool b, .string r, .string t, .slice ko N kc, .slice vo M vc]] u fun e w' => e = .returned (.string S) ∧ Below u.heap.size u w')) :
  Calls Tryz.prog 28 #[.agg #[.int .i64 1, .bool b, .string r, .string t, .slice ko N kc, .slice vo M vc]] w fun e w' => e = .returned (.string S) ∧ Below w.heap.size w w' := by
 have A0 := hid (At.new w #[.int .i64 1, .bool b, .string r, .string t, .slice ko N kc, .slice vo M vc] 25)
 have B0 := hid (show Below w.heap.size w (w.alloc (.cells #[.int .i64 1, .bool b, .string r, .string t, .slice ko N kc, .slice vo M vc] 25)) from (Below.refl _ _).alloc (Nat.le_refl _) _)
 obtain ⟨p, hp⟩ : ∃ p, w.heap.size = p := ⟨_, rfl⟩
 rw [hp] at A0
 go_enter Tryz.func28, Tryz.ntmps28
 go_upto_region 1 with fail
 generalize w.alloc (.cells #[.int .i64 1, .bool b, .string r, .string t, .slice ko N kc, .slice vo M vc] 25) = W at A0 B0 ⊢
 have d0 := A0.out.cell 0
 have d1 := A0.out.cell 1
 have d2 := A0.out.cell 2
 have d3 := A0.out.cell 3
 have d4 := A0.out.cell 4
 have d5 := A0.out.cell 5
 simp only [List.getElem?_toArray, List.getElem?_cons_zero, List.getElem?_cons_succ] at d0 d1 d2 d3 d4 d5
 go_wp2_with (go_at_call 41; refine Calls.mono (hw.out W) ?_; rintro e w1 ⟨rfl, hb⟩; have B1 := hid (B0.out.trans (hb.mono B0.out.size)); clear hb hw B0)
 go_ret
 exact ⟨rfl, B1.out⟩
set_option maxRecDepth 10000 in
set_option maxHeartbeats 8000000 in
theorem cmp18_2 (b : Bool) (r t : ByteArray) (ko vo : Option Addr) (N kc M vc : Nat) (S : ByteArray) (w : World) (hw : Hid (∀ u : World, Calls Tryz.prog 41 #[.agg #[.int .i64 2, .bool b, .string r, .string t, .slice ko N kc, .slice vo M vc]] u fun e w' => e = .returned (.string S) ∧ Below u.heap.size u w')) :
  Calls Tryz.prog 28 #[.agg #[.int .i64 2, .bool b, .string r, .string t, .slice ko N kc, .slice vo M vc]] w fun e w' => e = .returned (.string S) ∧ Below w.heap.size w w' := by
 have A0 := hid (At.new w #[.int .i64 2, .bool b, .string r, .string t, .slice ko N kc, .slice vo M vc] 25)
 have B0 := hid (show Below w.heap.size w (w.alloc (.cells #[.int .i64 2, .bool b, .string r, .string t, .slice ko N kc, .slice vo M vc] 25)) from (Below.refl _ _).alloc (Nat.le_refl _) _)
 obtain ⟨p, hp⟩ : ∃ p, w.heap.size = p := ⟨_, rfl⟩
 rw [hp] at A0
 go_enter Tryz.func28, Tryz.ntmps28
 go_upto_region 1 with fail
 generalize w.alloc (.cells #[.int .i64 2, .bool b, .string r, .string t, .slice ko N kc, .slice vo M vc] 25) = W at A0 B0 ⊢
 have d0 := A0.out.cell 0
 have d1 := A0.out.cell 1
 have d2 := A0.out.cell 2
 have d3 := A0.out.cell 3
 have d4 := A0.out.cell 4
 have d5 := A0.out.cell 5
 simp only [List.getElem?_toArray, List.getElem?_cons_zero, List.getElem?_cons_succ] at d0 d1 d2 d3 d4 d5
 go_wp2_with (go_at_call 41; refine Calls.mono (hw.out W) ?_; rintro e w1 ⟨rfl, hb⟩; have B1 := hid (B0.out.trans (hb.mono B0.out.size)); clear hb hw B0)
 go_ret
 exact ⟨rfl, B1.out⟩
set_option maxRecDepth 10000 in
set_option maxHeartbeats 8000000 in
theorem cmp18_3 (b : Bool) (r t : ByteArray) (ko vo : Option Addr) (N kc M vc : Nat) (S : ByteArray) (w : World) (hw : Hid (∀ u : World, Calls Tryz.prog 41 #[.agg #[.int .i64 3, .bool b, .string r, .string t, .slice ko N kc, .slice vo M vc]] u fun e w' => e = .returned (.string S) ∧ Below u.heap.size u w')) :
  Calls Tryz.prog 28 #[.agg #[.int .i64 3, .bool b, .string r, .string t, .slice ko N kc, .slice vo M vc]] w fun e w' => e = .returned (.string S) ∧ Below w.heap.size w w' := by
 have A0 := hid (At.new w #[.int .i64 3, .bool b, .string r, .string t, .slice ko N kc, .slice vo M vc] 25)
 have B0 := hid (show Below w.heap.size w (w.alloc (.cells #[.int .i64 3, .bool b, .string r, .string t, .slice ko N kc, .slice vo M vc] 25)) from (Below.refl _ _).alloc (Nat.le_refl _) _)
 obtain ⟨p, hp⟩ : ∃ p, w.heap.size = p := ⟨_, rfl⟩
 rw [hp] at A0
 go_enter Tryz.func28, Tryz.ntmps28
 go_upto_region 1 with fail
 generalize w.alloc (.cells #[.int .i64 3, .bool b, .string r, .string t, .slice ko N kc, .slice vo M vc] 25) = W at A0 B0 ⊢
 have d0 := A0.out.cell 0
 have d1 := A0.out.cell 1
 have d2 := A0.out.cell 2
 have d3 := A0.out.cell 3
 have d4 := A0.out.cell 4
 have d5 := A0.out.cell 5
 simp only [List.getElem?_toArray, List.getElem?_cons_zero, List.getElem?_cons_succ] at d0 d1 d2 d3 d4 d5
 go_wp2_with (go_at_call 41; refine Calls.mono (hw.out W) ?_; rintro e w1 ⟨rfl, hb⟩; have B1 := hid (B0.out.trans (hb.mono B0.out.size)); clear hb hw B0)
 go_ret
 exact ⟨rfl, B1.out⟩
set_option maxRecDepth 10000 in
set_option maxHeartbeats 8000000 in
theorem cmp18_4 (b : Bool) (r t : ByteArray) (ko vo : Option Addr) (N kc M vc : Nat) (S : ByteArray) (w : World) (hw : Hid (∀ u : World, Calls Tryz.prog 41 #[.agg #[.int .i64 4, .bool b, .string r, .string t, .slice ko N kc, .slice vo M vc]] u fun e w' => e = .returned (.string S) ∧ Below u.heap.size u w')) :
  Calls Tryz.prog 28 #[.agg #[.int .i64 4, .bool b, .string r, .string t, .slice ko N kc, .slice vo M vc]] w fun e w' => e = .returned (.string S) ∧ Below w.heap.size w w' := by
 have A0 := hid (At.new w #[.int .i64 4, .bool b, .string r, .string t, .slice ko N kc, .slice vo M vc] 25)
 have B0 := hid (show Below w.heap.size w (w.alloc (.cells #[.int .i64 4, .bool b, .string r, .string t, .slice ko N kc, .slice vo M vc] 25)) from (Below.refl _ _).alloc (Nat.le_refl _) _)
 obtain ⟨p, hp⟩ : ∃ p, w.heap.size = p := ⟨_, rfl⟩
 rw [hp] at A0
 go_enter Tryz.func28, Tryz.ntmps28
 go_upto_region 1 with fail
 generalize w.alloc (.cells #[.int .i64 4, .bool b, .string r, .string t, .slice ko N kc, .slice vo M vc] 25) = W at A0 B0 ⊢
 have d0 := A0.out.cell 0
 have d1 := A0.out.cell 1
 have d2 := A0.out.cell 2
 have d3 := A0.out.cell 3
 have d4 := A0.out.cell 4
 have d5 := A0.out.cell 5
 simp only [List.getElem?_toArray, List.getElem?_cons_zero, List.getElem?_cons_succ] at d0 d1 d2 d3 d4 d5
 go_wp2_with (go_at_call 41; refine Calls.mono (hw.out W) ?_; rintro e w1 ⟨rfl, hb⟩; have B1 := hid (B0.out.trans (hb.mono B0.out.size)); clear hb hw B0)
 go_ret
 exact ⟨rfl, B1.out⟩
theorem fd_none (d : Nat) : fdL E0 0 d = [] := rfl
theorem cmp18_ex : ∀ (n : Nat) (t : Vt), SizeOf.sizeOf t ≤ n → ∀ (lv : Int), wfV t lv = true → szV t → ∀ (d : Nat), (ptV C58 E0 0 t d).length ≤ 140737488355328 → ∀ (va : Value) (w : World), ValAt w t va →
  Calls Tryz.prog 28 #[va] w fun e w' => e = .returned (.string (mkB (ptV C58 E0 0 t d))) ∧ Below w.heap.size w w' := by
 intro n
 induction n with
 | zero =>
  intro t hs
  cases t
  simp at hs
 | succ n ih =>
  intro t hs lv hw hsz d hn va w ha
  cases ha with
  | mk k b r t ks vs ko kc vo vc X hwf hz hk hr hvv =>
  obtain ⟨h1, h6, hkl, hwl⟩ := wf_kind hw
  have hsz' := hsz
  unfold szV at hsz'
  have hvl : (vs.length : Int) ≤ 140737488351232 := by have := hz.2.2.2; unfold capT at this; omega
  have hc : ∀ (q : Nat) (u : Vt), vs[q]? = some u → (ptV C58 E0 0 u (d + 1)).length ≤ 140737488355328 → ∀ (va : Value) (x : World), ValAt x u va → Calls Tryz.prog 28 #[va] x fun e w' => e = .returned (.string (mkB (ptV C58 E0 0 u (d + 1)))) ∧ Below x.heap.size x w' := fun q u hu hl va x hx => by
   have hsu := kid_size (k := k) (b := b) (r := r) (t := t) (ks := ks) hu
   exact ih u (by omega) (lv - 1) (wfL_get hwl hu) (szL_get hsz'.2.2 hu) (d + 1) hl va x hx
  have hcase : k = 1 ∨ k = 2 ∨ k = 3 ∨ k = 4 ∨ k = 5 ∨ k = 6 := by omega
  rcases hcase with rfl | rfl | rfl | rfl | rfl | rfl
  ·have e : mkB (ptV C58 E0 0 (.mk 1 b r t ks vs) d) = ⟨#[110, 117, 108, 108]⟩ := by simp [ptV, wordL, mkB]
   rw [e]
   exact cmp18_1 b r t ko vo ks.length kc vs.length vc _ w (hid (fun u => word18_1 b r t ko vo ks.length kc vs.length vc u))
  ·cases b with
   | true =>
    have e : mkB (ptV C58 E0 0 (.mk 2 true r t ks vs) d) = ⟨#[116, 114, 117, 101]⟩ := by simp [ptV, wordL, mkB]
    rw [e]
    exact cmp18_2 true r t ko vo ks.length kc vs.length vc _ w (hid (fun u => word18_t r t ko vo ks.length kc vs.length vc u))
   | false =>
    have e : mkB (ptV C58 E0 0 (.mk 2 false r t ks vs) d) = ⟨#[102, 97, 108, 115, 101]⟩ := by simp [ptV, wordL, mkB]
    rw [e]
    exact cmp18_2 false r t ko vo ks.length kc vs.length vc _ w (hid (fun u => word18_f r t ko vo ks.length kc vs.length vc u))
  ·have e : mkB (ptV C58 E0 0 (.mk 3 b r t ks vs) d) = r := by simp [ptV, wordL, mkB]
   rw [e]
   exact cmp18_3 b r t ko vo ks.length kc vs.length vc _ w (hid (fun u => word18_3 b r t ko vo ks.length kc vs.length vc u))
  ·have e : ptV C58 E0 0 (.mk 4 b r t ks vs) d = quoL t := by simp [ptV]
   rw [e]
   exact cmp18_4 b r t ko vo ks.length kc vs.length vc _ w (hid (fun u => word18_4 b r t ko vo ks.length kc vs.length vc hsz'.1 u))
  ·have e : 91 :: (ptA C58 E0 0 vs d 0 ++ [93]) = ptV C58 E0 0 (.mk 5 b r t ks vs) d := by simp [ptV, fd_none]
   exact cmp18_5 b r t ks vs ko vo kc vc X d _ (hid e) (hid hn) hvl (hid hc) w (hid hr) (hid hvv)
  ·have e : 123 :: (ptO C58 E0 0 vs ks d 0 ++ [125]) = ptV C58 E0 0 (.mk 6 b r t ks vs) d := by simp [ptV, fd_none]
   exact cmp18_6 b r t ks vs (hkl rfl) hsz'.2.1 ko vo kc vc X d _ (hid e) (hid hn) hvl (hid hc) w (hid hk) (hid hr) (hid hvv)
set_option maxRecDepth 10000 in
set_option maxHeartbeats 8000000 in
theorem cmpR_calls (t : Vt) (va : Value) (hsz : szV t) (hn : (cmpL t).length ≤ 140737488355328) (w : World) (ha : ValAt w t va) (F : Bool) (hF : wfV t 1024 = F) :
  Calls Tryz.prog 11 #[va] w fun e w' => e = .returned (.tuple #[.string (if F then ⟨(cmpL t).toArray⟩ else ⟨#[]⟩), .int .i64 (if F then 0 else 1)]) ∧ Below w.heap.size w w' := by
 have hfo := hid (fun u h1 => formed17_calls t hsz va u h1)
 rw [hF] at hfo
 have hco := hid (fun (e : F = true) u h1 => cmp18_ex _ t (Nat.le_refl _) 1024 (hF.trans e) hsz 0 hn va u h1)
 have ecl : mkB (ptV C58 E0 0 t 0) = ⟨(cmpL t).toArray⟩ := rfl
 rw [ecl] at hco
 have ha' := hid ha
 cases ha with
 | mk k b r t0 ks vs ko kc vo vc X hw hzz hk hr hv =>
 clear hw hzz hk hr hv hF hsz hn ecl
 generalize ks.length = N at *
 generalize vs.length = M at *
 generalize cmpL (.mk k b r t0 ks vs) = CL at *
 have A1 : Hid (At (w.alloc (.cells #[.int .i64 k, .bool b, .string r, .string t0, .slice ko N kc, .slice vo M vc] 25)) w.heap.size #[.int .i64 k, .bool b, .string r, .string t0, .slice ko N kc, .slice vo M vc] 25) := At.new w _ _
 have B1 : Hid (Below w.heap.size w (w.alloc (.cells #[.int .i64 k, .bool b, .string r, .string t0, .slice ko N kc, .slice vo M vc] 25))) := (Below.refl _ w).alloc (Nat.le_refl _) _
 go_enter Tryz.func11, Tryz.ntmps11
 go_upto_region 1 with fail
 generalize w.alloc (.cells #[.int .i64 k, .bool b, .string r, .string t0, .slice ko N kc, .slice vo M vc] 25) = W1 at A1 B1 ⊢
 have d0 := A1.out.cell 0
 have d1 := A1.out.cell 1
 have d2 := A1.out.cell 2
 have d3 := A1.out.cell 3
 have d4 := A1.out.cell 4
 have d5 := A1.out.cell 5
 simp only [List.getElem?_toArray, List.getElem?_cons_zero, List.getElem?_cons_succ] at d0 d1 d2 d3 d4 d5
 go_wp2_with fail
 refine Calls.mono (hfo.out W1 (ha'.out.kept B1.out)) ?_
 rintro e w2 ⟨rfl, hb2⟩
 have A2 := hid (A1.out.keptAll hb2)
 have B2 := hid (B1.out.trans (hb2.mono B1.out.size))
 clear hb2 hfo A1 B1 d0 d1 d2 d3 d4 d5
 cases F with
 | false =>
  go_wp2
  refine bodyPost_ret (v := .tuple #[.string ⟨#[]⟩, .int .i64 1]) (by simp [results, Tryz.results11, go_sem]) rfl ⟨rfl, B2.out⟩
 | true =>
  have d0 := A2.out.cell 0
  have d1 := A2.out.cell 1
  have d2 := A2.out.cell 2
  have d3 := A2.out.cell 3
  have d4 := A2.out.cell 4
  have d5 := A2.out.cell 5
  simp only [List.getElem?_toArray, List.getElem?_cons_zero, List.getElem?_cons_succ] at d0 d1 d2 d3 d4 d5
  have hc2 := hid (hco.out (by first | rfl | trivial) w2 (ha'.out.kept B2.out))
  go_wp2_with fail
  refine Calls.mono hc2.out ?_
  rintro e w3 ⟨rfl, hb3⟩
  have B3 := hid (B2.out.trans (hb3.mono B2.out.size))
  clear hb3 hc2
  go_wp2
  refine bodyPost_ret (v := .tuple #[.string ⟨CL.toArray⟩, .int .i64 0]) (by simp [results, Tryz.results11, go_sem]) rfl ⟨rfl, B3.out⟩
end Go.Proofs.YtlhbgfhmcjaabaaGreatDoor
