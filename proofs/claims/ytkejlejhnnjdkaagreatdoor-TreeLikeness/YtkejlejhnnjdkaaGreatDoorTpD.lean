/-
 slices.Equal of texts, slices.EqualFunc of values, tree.Same (by gen_tpd.py).
-/
import Derived.Test.YtkejlejhnnjdkaaGreatDoorPack7
namespace Go.Proofs.YtkejlejhnnjdkaaGreatDoor
open Go.RowKit Go.Shelf
theorem belowD {w W w1 : World} (h : Below w.heap.size w W) (hb : Below W.heap.size W w1) : Below w.heap.size w w1 := h.trans (hb.mono h.size)
set_option maxRecDepth 10000 in
set_option maxHeartbeats 1000000 in
theorem equalK_calls (L L' : List ByteArray) (hl : L.length ≤ capT) (hl' : L'.length ≤ capT) (ao bo : Option Addr) (cap cap' : Nat) (w : World) (hA : KeysAt w ao L) (hB : KeysAt w bo L') :
  Calls Tryz.prog 23 #[.slice ao L.length cap, .slice bo L'.length cap'] w fun e w' => ∃ B : Bool, e = .returned (.bool B) ∧ (B = true ↔ L = L') ∧ Below w.heap.size w w' := by
 unfold capT at hl hl'
 have hA' := hid hA
 have hB' := hid hB
 obtain ⟨n, hn⟩ : ∃ n, Hid (L.length = n) := ⟨_, rfl⟩
 obtain ⟨m, hm⟩ : ∃ m, Hid (L'.length = m) := ⟨_, rfl⟩
 rw [hn.out] at hl ⊢
 rw [hm.out] at hl' ⊢
 have hli : (n : Int) ≤ 9223372036854775807 := by omega
 have hmi : (m : Int) ≤ 9223372036854775807 := by omega
 clear hl hl'
 clear hA hB
 by_cases hnm : n = m
 ·subst hnm
  have e0 : ((n : Int) != (n : Int)) = false := by simp
  go_enter Tryz.func23, Tryz.ntmps23
  go_wp2
  go_loopw [13] (fun ii wr => ∃ i : Nat, i ≤ n ∧ ii = .int .i64 (i : Int) ∧ Hid (∀ j, j < i → L[j]? = L'[j]?) ∧ Below w.heap.size w wr) (fun ii _ => n - (intOf ii).toNat)
  case atStart => exact ⟨0, Nat.zero_le _, rfl, hid (fun j hj => by omega), Below.refl _ _⟩
  case round =>
   obtain ⟨i, hi, rfl, hsm, hb⟩ := hrel
   by_cases hlt : i < n
   ·have hii : (i : Int) < (n : Int) := by omega
    obtain ⟨p, hp⟩ : ∃ p, Hid (L[i]? = some p) := ⟨_, List.getElem?_eq_getElem (by rw [hn.out]; exact hlt)⟩
    obtain ⟨q, hq⟩ : ∃ q, Hid (L'[i]? = some q) := ⟨_, List.getElem?_eq_getElem (by rw [hm.out]; exact hlt)⟩
    obtain ⟨-, g, o, rfl, hg, cg⟩ := hA'.out i p hp.out
    obtain ⟨-, h, o', rfl, hh, ch⟩ := hB'.out i q hq.out
    have s1 := (hb.cell (p := ⟨g, o + i, none⟩) hg).trans cg
    have s2 := (hb.cell (p := ⟨h, o' + i, none⟩) hh).trans ch
    have ad1 : (⟨g, o, none⟩ : Addr).add i = ⟨g, o + i, none⟩ := by by_cases h : i = 0 <;> simp [Addr.add, h]
    have ad2 : (⟨h, o', none⟩ : Addr).add i = ⟨h, o' + i, none⟩ := by by_cases h : i = 0 <;> simp [Addr.add, h]
    have ep := text_beq p q
    clear cg ch
    by_cases hpq : p = q
    ·subst hpq
     have ep2 : (p.toList != p.toList) = false := by simp
     clear ep
     go_wp2
     go_quiet (fail)
     go_wp2
     go_roundw
     case rel => exact ⟨i + 1, by omega, by simp, hid (fun j hj => by
      by_cases e : j = i
      ·subst e; rw [hp.out, hq.out]
      ·exact hsm.out j (by omega)), below_drewN hb _⟩
     case measure => simp [intOf]; omega
    ·have ep2 : (p.toList != q.toList) = true := by rw [text_beq, decide_eq_false hpq]; rfl
     have ep3 : (p.toList == q.toList) = false := by rw [bne] at ep2; simpa using ep2
     clear ep
     go_wp2
     go_quiet (fail)
     go_wp2
     go_ret
     refine ⟨false, rfl, ⟨fun h => (by cases h), fun h => ?_⟩, below_drewN hb _⟩
     subst h
     rw [hp.out] at hq
     have := hq.out
     injection this with this
     exact absurd this hpq
   ·obtain rfl : i = n := by omega
    go_wp2
    go_ret
    refine ⟨true, rfl, ⟨fun _ => ?_, fun _ => rfl⟩, hb⟩
    apply List.ext_getElem?
    intro j
    by_cases hj : j < i
    ·exact hsm.out j hj
    ·rw [List.getElem?_eq_none (by rw [hn.out]; omega), List.getElem?_eq_none (by rw [hm.out]; omega)]
 ·have e0 : ((n : Int) != (m : Int)) = true := by simp; omega
  go_enter Tryz.func23, Tryz.ntmps23
  go_wp2
  go_ret
  refine ⟨false, rfl, ⟨fun h => (by cases h), fun h => ?_⟩, Below.refl _ _⟩
  subst h
  exact absurd (hn.out.symm.trans hm.out) hnm
set_option maxRecDepth 10000 in
set_option maxHeartbeats 4000000 in
/-- slices.EqualFunc, with a function of which it is known what it answers of each pair. -/
theorem equalF_of (g : Nat) (hen : ∀ args w, (callFunc g args).run Tryz.prog w = .ok (.enter g args) w) (vs vs' : List Vt) (Bf : Nat → Bool)
  (hcall : Hid (∀ (i : Nat) (u u' : Vt), vs[i]? = some u → vs'[i]? = some u' → ∀ (va vb : Value) (w : World), ValAt w u va → ValAt w u' vb → Calls Tryz.prog g #[va, vb] w fun e w' => e = .returned (.bool (Bf i)) ∧ Below w.heap.size w w'))
  (vo vo' : Option Addr) (M M' vc vc' : Nat) (hM : Hid (vs.length = M)) (hM' : Hid (vs'.length = M')) (hMc : M ≤ capT) (hMc' : M' ≤ capT) (X X' : Nat → Array Value) (w : World)
  (hr : Hid (RowAt w vo M X)) (hv : Hid (∀ (i : Nat) (u : Vt), vs[i]? = some u → ValAt w u (.agg (X i)))) (hr' : Hid (RowAt w vo' M' X')) (hv' : Hid (∀ (i : Nat) (u : Vt), vs'[i]? = some u → ValAt w u (.agg (X' i))))
  (B : Bool) (hB : Hid (B = true ↔ (M = M' ∧ ∀ i, i < M → Bf i = true))) :
  Calls Tryz.prog 24 #[.slice vo M vc, .slice vo' M' vc', .func (.func g) #[] #[]] w fun e w' => e = .returned (.bool B) ∧ Below w.heap.size w w' := by
 have hMi : (M : Int) ≤ 9223372036854775807 := by unfold capT at hMc; omega
 have hMi' : (M' : Int) ≤ 9223372036854775807 := by unfold capT at hMc'; omega
 clear hMc hMc'
 by_cases hmm : M = M'
 ·subst hmm
  have e0 : ((M : Int) != (M : Int)) = false := by simp
  go_enter Tryz.func24, Tryz.ntmps24
  go_wp2
  go_loopw [17] (fun ii wr => ∃ i : Nat, i ≤ M ∧ ii = .int .i64 (i : Int) ∧ Hid (∀ j, j < i → Bf j = true) ∧ Hid (Below w.heap.size w wr)) (fun ii _ => M - (intOf ii).toNat)
  case atStart => exact ⟨0, Nat.zero_le _, rfl, hid (fun j hj => by omega), hid (Below.refl _ _)⟩
  case round =>
   obtain ⟨i, hi, rfl, hI, hb⟩ := hrel
   by_cases hlt : i < M
   ·have hli : (i : Int) < (M : Int) := by omega
    obtain ⟨u1, hu1⟩ : ∃ u, Hid (vs[i]? = some u) := ⟨_, List.getElem?_eq_getElem (by rw [hM.out]; exact hlt)⟩
    obtain ⟨u2, hu2⟩ : ∃ u, Hid (vs'[i]? = some u) := ⟨_, List.getElem?_eq_getElem (by rw [hM'.out]; exact hlt)⟩
    obtain ⟨p, o, rfl, hg, hrg, hl1⟩ := row_range (hr.out.kept hb.out) (i := i) hlt
    obtain ⟨p', o', rfl, hg', hrg', hl2⟩ := row_range (hr'.out.kept hb.out) (i := i) hlt
    obtain ⟨L1, hL1⟩ : ∃ L, Hid ((X i).toList = L) := ⟨_, rfl⟩
    obtain ⟨L2, hL2⟩ : ∃ L, Hid ((X' i).toList = L) := ⟨_, rfl⟩
    rw [hL1.out] at hrg hl1
    rw [hL2.out] at hrg' hl2
    have z1 : (Tryz.prog.info? 25).map (·.size) = some L1.length := by rw [hl1]; exact sizeVl
    have z2 : (Tryz.prog.info? 25).map (·.size) = some L2.length := by rw [hl2]; exact sizeVl
    have v1 : Hid (ValAt wr u1 (.agg L1.toArray)) := by
     have := (hv.out i u1 hu1.out).kept hb.out
     rw [← hL1.out, Array.toArray_toList]
     exact this
    have v2 : Hid (ValAt wr u2 (.agg L2.toArray)) := by
     have := (hv'.out i u2 hu2.out).kept hb.out
     rw [← hL2.out, Array.toArray_toList]
     exact this
    obtain ⟨q, hq⟩ : ∃ q, Hid (Bf i = q) := ⟨_, rfl⟩
    have hcl : Hid (∀ wq : World, Below wr.heap.size wr wq → Calls Tryz.prog g #[.agg L1.toArray, .agg L2.toArray] wq fun e w' => e = .returned (.bool q) ∧ Below wq.heap.size wq w') := fun wq hwq => by
     have h := hcall.out i u1 u2 hu1.out hu2.out _ _ wq (v1.out.kept hwq) (v2.out.kept hwq)
     rw [hq.out] at h
     exact h
    obtain ⟨k1, b1, r1, t1, ko1, N1, kc1, vo1, M1, vc1, rfl⟩ := v1.out.six
    obtain ⟨k2, b2, r2, t2, ko2, N2, kc2, vo2, M2, vc2, rfl⟩ := v2.out.six
    have Bx : Hid (Below wr.heap.size wr (wr.alloc (.cells #[.int .i64 k1, .bool b1, .string r1, .string t1, .slice ko1 N1 kc1, .slice vo1 M1 vc1] 25))) := (Below.refl _ wr).alloc (Nat.le_refl _) _
    have By : Hid (Below wr.heap.size wr ((wr.alloc (.cells #[.int .i64 k1, .bool b1, .string r1, .string t1, .slice ko1 N1 kc1, .slice vo1 M1 vc1] 25)).alloc (.cells #[.int .i64 k2, .bool b2, .string r2, .string t2, .slice ko2 N2 kc2, .slice vo2 M2 vc2] 25))) := Bx.out.alloc Bx.out.size _
    have hrgk := hid hrg
    have hrgk' := hid (range_kept hrg' Bx.out)
    clear hrg hrg' hl1 hl2
    go_wp2_with (first | refine wpList_load_want 25 _ p (o + i * 6) [.int .i64 k1, .bool b1, .string r1, .string t1, .slice ko1 N1 kc1, .slice vo1 M1 vc1] _ hrgk.out Tryz.underlying25 z1 rfl rfl rfl (by rfl) ?_ | refine wpList_load_want 25 _ p' (o' + i * 6) [.int .i64 k2, .bool b2, .string r2, .string t2, .slice ko2 N2 kc2, .slice vo2 M2 vc2] _ hrgk'.out Tryz.underlying25 z2 rfl rfl rfl (by rfl) ?_ | fail)
    refine Calls.mono (hcl.out _ By.out) ?_
    rintro e w5 ⟨rfl, hbb⟩
    have Jb := hid (belowD hb.out (belowD By.out hbb))
    clear hbb hcl hrgk hrgk' Bx By hb
    cases q with
    | true =>
     go_wp2
     go_roundw
     case rel => exact ⟨i + 1, by omega, by simp, hid (fun j hj => by
      by_cases e : j = i
      ·rw [e]; exact hq.out
      ·exact hI.out j (by omega)), Jb⟩
     case measure => simp [intOf]; omega
    | false =>
     have hfin : Hid (B = false) := by
      show _ = _
      cases B with
      | false => rfl
      | true => exact absurd ((hB.out.1 rfl).2 i hlt) (by rw [hq.out]; simp)
     go_wp2
     go_ret
     exact ⟨by rw [hfin.out]; rfl, Jb.out⟩
   ·have hge : (M : Int) ≤ (i : Int) := by omega
    have hfin : Hid (B = true) := hB.out.2 ⟨(by first | trivial | rfl), fun j hj => hI.out j (by omega)⟩
    go_wp2
    go_ret
    exact ⟨by rw [hfin.out]; rfl, hb.out⟩
 ·have e0 : ((M : Int) != (M' : Int)) = true := by simp; omega
  have hfin : Hid (B = false) := by
   show _ = _
   cases B with
   | false => rfl
   | true => exact absurd (hB.out.1 rfl).1 hmm
  go_enter Tryz.func24, Tryz.ntmps24
  go_wp2
  go_ret
  exact ⟨by rw [hfin.out]; rfl, Below.refl _ _⟩
theorem enterSame : ∀ args w, (callFunc 13 args).run Tryz.prog w = .ok (.enter 13 args) w := fun args w => by kernel_rfl
theorem decS (t u : Vt) : ∃ B : Bool, B = true ↔ t = u := by
 by_cases h : t = u
 ·exact ⟨true, fun _ => h, fun _ => rfl⟩
 ·exact ⟨false, no_iff h⟩
noncomputable def eqV (t u : Vt) : Bool := (decS t u).choose
theorem eqV_iff (t u : Vt) : eqV t u = true ↔ t = u := (decS t u).choose_spec
set_option maxRecDepth 10000 in
set_option maxHeartbeats 8000000 in
theorem sameP_ex : ∀ (n : Nat) (t u : Vt), SizeOf.sizeOf t ≤ n → ∀ (va vb : Value) (w : World), ValAt w t va → ValAt w u vb →
  Calls Tryz.prog 13 #[va, vb] w fun e w' => e = .returned (.bool (eqV t u)) ∧ Below w.heap.size w w' := by
 intro n
 induction n with
 | zero =>
  intro t u hs
  cases t
  simp at hs
 | succ n ih =>
  intro t u hs va vb w ha hb
  cases ha with
  | mk k b r t ks vs ko kc vo vc X hw hz hk hr hv =>
  cases hb with
  | mk k' b' r' t' ks' vs' ko' kc' vo' vc' X' hw' hz' hk' hr' hv' =>
  obtain ⟨Z, hZ⟩ : ∃ Z, Hid (eqV (.mk k b r t ks vs) (.mk k' b' r' t' ks' vs') = Z) := ⟨_, rfl⟩
  have hZi : Hid (Z = true ↔ Vt.mk k b r t ks vs = .mk k' b' r' t' ks' vs') := by
   show _ ↔ _
   rw [← hZ.out]
   exact eqV_iff _ _
  rw [hZ.out]
  have hZf : Hid (Vt.mk k b r t ks vs ≠ .mk k' b' r' t' ks' vs' → Z = false) := fun h => by
   cases Z with
   | false => rfl
   | true => exact absurd (hZi.out.1 rfl) h
  have hz1 := hid hz
  have hz2 := hid hz'
  obtain ⟨N, hN⟩ : ∃ N, Hid (ks.length = N) := ⟨_, rfl⟩
  obtain ⟨N', hN'⟩ : ∃ N, Hid (ks'.length = N) := ⟨_, rfl⟩
  obtain ⟨M, hM⟩ : ∃ M, Hid (vs.length = M) := ⟨_, rfl⟩
  obtain ⟨M', hM'⟩ : ∃ M, Hid (vs'.length = M) := ⟨_, rfl⟩
  have hsK : Hid (∀ u : World, Below w.heap.size w u → Calls Tryz.prog 23 #[.slice ko N kc, .slice ko' N' kc'] u fun e w' => ∃ B : Bool, e = .returned (.bool B) ∧ (B = true ↔ ks = ks') ∧ Below u.heap.size u w') := fun u g1 => by
   rw [← hN.out, ← hN'.out]
   exact equalK_calls ks ks' hz1.out.2.2.1 hz2.out.2.2.1 ko ko' kc kc' u (hk.kept g1) (hk'.kept g1)
  have hsV : Hid (∀ u : World, Below w.heap.size w u → ∀ B : Bool, (B = true ↔ vs = vs') → Calls Tryz.prog 24 #[.slice vo M vc, .slice vo' M' vc', .func (.func 13) #[] #[]] u fun e w' => e = .returned (.bool B) ∧ Below u.heap.size u w') := fun u g1 B hB => by
   refine equalF_of 13 enterSame vs vs' (fun i => match vs[i]?, vs'[i]? with | some a, some c => eqV a c | _, _ => true) (hid (fun i a c h1 h2 va vb w2 g2 g3 => ?_)) vo vo' M M' vc vc' hM hM' (by rw [← hM.out]; exact hz1.out.2.2.2) (by rw [← hM'.out]; exact hz2.out.2.2.2) X X' u (hid (by have := hr.kept g1; rw [hM.out] at this; exact this)) (hid (fun i a h => (hv i a h).kept g1)) (hid (by have := hr'.kept g1; rw [hM'.out] at this; exact this)) (hid (fun i a h => (hv' i a h).kept g1)) B (hid ?_)
   ·rw [h1, h2]
    exact ih a c (by have := kid_size (k := k) (b := b) (r := r) (t := t) (ks := ks) h1; omega) va vb w2 g2 g3
   ·rw [hB]
    constructor
    ·rintro rfl
     refine ⟨hM.out.symm.trans hM'.out, fun i hi => ?_⟩
     rw [List.getElem?_eq_getElem (by rw [hM.out]; exact hi)]
     exact (eqV_iff _ _).2 rfl
    ·rintro ⟨h1, h2⟩
     apply List.ext_getElem?
     intro i
     by_cases hi : i < M
     ·have := h2 i hi
      rw [List.getElem?_eq_getElem (by rw [hM.out]; exact hi), List.getElem?_eq_getElem (by rw [hM'.out]; omega)] at this ⊢
      exact congrArg some ((eqV_iff _ _).1 this)
     ·rw [List.getElem?_eq_none (by rw [hM.out]; omega), List.getElem?_eq_none (by rw [hM'.out]; omega)]
  rw [hN.out, hN'.out, hM.out, hM'.out]
  clear ih hs hk hk' hr hr' hv hv' hz hz' hw hw' hZ hN hN' hM hM' hz1 hz2
  obtain ⟨W1, hW1⟩ : ∃ W, w.alloc (.cells #[.int .i64 k, .bool b, .string r, .string t, .slice ko N kc, .slice vo M vc] 25) = W := ⟨_, rfl⟩
  obtain ⟨W2, hW2⟩ : ∃ W, W1.alloc (.cells #[.int .i64 k', .bool b', .string r', .string t', .slice ko' N' kc', .slice vo' M' vc'] 25) = W := ⟨_, rfl⟩
  have A1 : Hid (At W2 w.heap.size #[.int .i64 k, .bool b, .string r, .string t, .slice ko N kc, .slice vo M vc] 25) := by
   rw [← hW2, ← hW1]
   exact (At.new w _ _).alloc _
  have A2 : Hid (At W2 (w.heap.size + 1) #[.int .i64 k', .bool b', .string r', .string t', .slice ko' N' kc', .slice vo' M' vc'] 25) := by
   have h := At.new W1 #[.int .i64 k', .bool b', .string r', .string t', .slice ko' N' kc', .slice vo' M' vc'] 25
   rw [hW2, ← hW1, World.size_alloc] at h
   exact h
  have hsz1 : W1.heap.size = w.heap.size + 1 := by rw [← hW1, World.size_alloc]
  have B2 : Hid (Below w.heap.size w W2) := by
   rw [← hW2, ← hW1]
   exact ((Below.refl _ w).alloc (Nat.le_refl _) _).alloc (by rw [World.size_alloc]; omega) _
  obtain ⟨a1, ha1⟩ : ∃ a, w.heap.size = a := ⟨_, rfl⟩
  obtain ⟨a2, ha2⟩ : ∃ a, a1 + 1 = a := ⟨_, rfl⟩
  rw [ha1] at A1 hsz1
  rw [ha1, ha2] at A2
  rw [ha2] at hsz1
  have c0 := A1.out.cell 0
  have c1 := A1.out.cell 1
  have c2 := A1.out.cell 2
  have c3 := A1.out.cell 3
  have c4 := A1.out.cell 4
  have c5 := A1.out.cell 5
  have d0 := A2.out.cell 0
  have d1 := A2.out.cell 1
  have d2 := A2.out.cell 2
  have d3 := A2.out.cell 3
  have d4 := A2.out.cell 4
  have d5 := A2.out.cell 5
  simp only [List.getElem?_toArray, List.getElem?_cons_zero, List.getElem?_cons_succ] at c0 c1 c2 c3 c4 c5 d0 d1 d2 d3 d4 d5
  clear ha2
  by_cases hne : k = k' ∧ b = b' ∧ r = r' ∧ t = t'
  ·obtain ⟨rfl, rfl, rfl, rfl⟩ := hne
   have f1 : (k == k) = true := by simp
   have f2 : (b == b) = true := by simp
   have f3 : (r.toList == r.toList) = true := by simp
   have f4 : (t.toList == t.toList) = true := by simp
   go_enter Tryz.func13, Tryz.ntmps13
   go_wp2_with fail
   refine Calls.mono (hsK.out _ B2.out) ?_
   rintro e w3 ⟨BK, rfl, hBK, hb3⟩
   have A1b := hid (A1.out.keptAll hb3)
   have A2b := hid (A2.out.keptAll hb3)
   have B3 := hid (belowD B2.out hb3)
   have hBK' := hid hBK
   clear hW1 hW2 hsz1 hb3 hBK A1 A2 hsK B2 c0 c1 c2 c3 c4 c5 d0 d1 d2 d3 d4 d5
   cases BK with
   | false =>
    have hfin := hid (hZf.out (fun h => by have := hBK'.out.2 (Vt.mk.inj h).2.2.2.2.1; cases this))
    clear hZf hZi hsV
    go_wp2
    go_ret
    exact ⟨by rw [hfin.out]; rfl, B3.out⟩
   | true =>
    have hks := hBK'.out.1 rfl
    subst hks
    have c5 := A1b.out.cell 5
    have d5 := A2b.out.cell 5
    simp only [List.getElem?_toArray, List.getElem?_cons_zero, List.getElem?_cons_succ] at c5 d5
    have hVc := hid (hsV.out w3 B3.out Z (hZi.out.trans ⟨fun h => (Vt.mk.inj h).2.2.2.2.2, fun h => by rw [h]⟩))
    clear hZf hZi hsV f1 f2 f3 f4
    go_wp2_with fail
    refine Calls.mono hVc.out ?_
    rintro e w4 ⟨rfl, hb4⟩
    have B4 := hid (belowD B3.out hb4)
    clear hb4 hVc A1b A2b c5 d5
    go_wp2
    go_ret
    exact ⟨rfl, B4.out⟩
  ·have hfin := hid (hZf.out (fun h => hne (by obtain ⟨a1, a2, a3, a4, _⟩ := Vt.mk.inj h; exact ⟨a1, a2, a3, a4⟩)))
   clear hZf hZi hsV hsK
   by_cases e1 : k = k'
   ·have f1 : (k == k') = true := by simp [e1]
    by_cases e2 : b = b'
    ·have f2 : (b == b') = true := by simp [e2]
     by_cases e3 : r = r'
     ·have f3 : (r.toList == r'.toList) = true := by simp [e3]
      have e4 : ¬ t = t' := fun h => hne ⟨e1, e2, e3, h⟩
      have f : (t.toList != t'.toList) = true := by rw [text_beq, decide_eq_false e4]; rfl
      have f4 : (t.toList == t'.toList) = false := by rw [bne] at f; simpa using f
      clear f e1 e2 e3 e4 hne
      go_enter Tryz.func13, Tryz.ntmps13
      go_wp2
      go_ret
      exact ⟨by rw [hfin.out]; rfl, B2.out⟩
     ·have f : (r.toList != r'.toList) = true := by rw [text_beq, decide_eq_false e3]; rfl
      have f3 : (r.toList == r'.toList) = false := by rw [bne] at f; simpa using f
      clear f e1 e2 e3 hne
      go_enter Tryz.func13, Tryz.ntmps13
      go_wp2
      go_ret
      exact ⟨by rw [hfin.out]; rfl, B2.out⟩
    ·have f2 : (b == b') = false := by cases b <;> cases b' <;> simp_all
     clear e1 e2 hne
     go_enter Tryz.func13, Tryz.ntmps13
     go_wp2
     go_ret
     exact ⟨by rw [hfin.out]; rfl, B2.out⟩
   ·have f1 : (k == k') = false := by simp; exact e1
    clear e1 hne
    go_enter Tryz.func13, Tryz.ntmps13
    go_wp2
    go_ret
    exact ⟨by rw [hfin.out]; rfl, B2.out⟩
theorem sameP_calls (t u : Vt) (B : Bool) (hB : Hid (B = true ↔ t = u)) (va vb : Value) (w : World) (ha : ValAt w t va) (hb : ValAt w u vb) :
  Calls Tryz.prog 13 #[va, vb] w fun e w' => e = .returned (.bool B) ∧ Below w.heap.size w w' := by
 have : eqV t u = B := by
  rw [Bool.eq_iff_iff]
  exact (eqV_iff t u).trans hB.out.symm
 rw [← this]
 exact sameP_ex _ t u (Nat.le_refl _) va vb w ha hb
end Go.Proofs.YtkejlejhnnjdkaaGreatDoor
