/-
 slices.Equal of texts, slices.EqualFunc of values, tree.Same (by gen_tpd.py).
-/
import Derived.Test.YtjlcliicdclooaaDoorTpB
namespace Go.Proofs.YtjlcliicdclooaaDoor
open Go.RowKit Go.Shelf
theorem belowD {w W w1 : World} (h : Below w.heap.size w W) (hb : Below W.heap.size W w1) : Below w.heap.size w w1 := h.trans (hb.mono h.size)
set_option maxRecDepth 10000 in
set_option maxHeartbeats 4000000 in
/-- slices.EqualFunc, with a function of which it is known what it answers of each pair. -/
theorem equalF_of (g : Nat) (hen : ∀ args w, (callFunc g args).run Tryd.prog w = .ok (.enter g args) w) (vs vs' : List Vt) (Bf : Nat → Bool)
  (hcall : Hid (∀ (i : Nat) (u u' : Vt), vs[i]? = some u → vs'[i]? = some u' → ∀ (va vb : Value) (w : World), ValAt w u va → ValAt w u' vb → Calls Tryd.prog g #[va, vb] w fun e w' => e = .returned (.bool (Bf i)) ∧ Below w.heap.size w w'))
  (vo vo' : Option Addr) (M M' vc vc' : Nat) (hM : Hid (vs.length = M)) (hM' : Hid (vs'.length = M')) (hMc : M ≤ capT) (hMc' : M' ≤ capT) (X X' : Nat → Array Value) (w : World)
  (hr : Hid (RowAt w vo M X)) (hv : Hid (∀ (i : Nat) (u : Vt), vs[i]? = some u → ValAt w u (.agg (X i)))) (hr' : Hid (RowAt w vo' M' X')) (hv' : Hid (∀ (i : Nat) (u : Vt), vs'[i]? = some u → ValAt w u (.agg (X' i))))
  (B : Bool) (hB : Hid (B = true ↔ (M = M' ∧ ∀ i, i < M → Bf i = true))) :
  Calls Tryd.prog 46 #[.slice vo M vc, .slice vo' M' vc', .func (.func g) #[] #[]] w fun e w' => e = .returned (.bool B) ∧ Below w.heap.size w w' := by
 have hMi : (M : Int) ≤ 9223372036854775807 := by unfold capT at hMc; omega
 have hMi' : (M' : Int) ≤ 9223372036854775807 := by unfold capT at hMc'; omega
 clear hMc hMc'
 by_cases hmm : M = M'
 ·subst hmm
  have e0 : ((M : Int) != (M : Int)) = false := by simp
  go_enter Tryd.func46, Tryd.ntmps46
  go_wp2
  go_loopw [17] (fun ii wr => ∃ i : Nat, i ≤ M ∧ ii = .int .i64 (i : Int) ∧ Hid (∀ j, j < i → Bf j = true) ∧ Hid (Below w.heap.size w wr)) (fun ii _ => M - (intOf ii).toNat)
  case atStart => exact ⟨0, Nat.zero_le _, rfl, hid (fun j hj => by omega), hid (Below.refl _ _)⟩
  case round =>
   obtain ⟨i, hi, rfl, hI, hb⟩ := hrel
   by_cases hlt : i < M
   ·have hli : (i : Int) < (M : Int) := by omega
    obtain ⟨u1, hu1⟩ : ∃ u, Hid (vs[i]? = some u) := ⟨_, List.getElem?_eq_getElem (by rw [hM.out]; exact hlt)⟩
    obtain ⟨u2, hu2⟩ : ∃ u, Hid (vs'[i]? = some u) := ⟨_, List.getElem?_eq_getElem (by rw [hM'.out]; exact hlt)⟩
    obtain ⟨p, o, rfl, hg, hrg, hl1⟩ := row_range (hr.out.kept hb.out) (i := i) hlt
    obtain ⟨p', o', rfl, hg', hrg', hl2⟩ := row_range (hr'.out.kept hb.out) (i := i) hlt
    obtain ⟨L1, hL1⟩ : ∃ L, Hid ((X i).toList = L) := ⟨_, rfl⟩
    obtain ⟨L2, hL2⟩ : ∃ L, Hid ((X' i).toList = L) := ⟨_, rfl⟩
    rw [hL1.out] at hrg hl1
    rw [hL2.out] at hrg' hl2
    have z1 : (Tryd.prog.info? 35).map (·.size) = some L1.length := by rw [hl1]; exact sizeVl
    have z2 : (Tryd.prog.info? 35).map (·.size) = some L2.length := by rw [hl2]; exact sizeVl
    have v1 : Hid (ValAt wr u1 (.agg L1.toArray)) := by
     have := (hv.out i u1 hu1.out).kept hb.out
     rw [← hL1.out, Array.toArray_toList]
     exact this
    have v2 : Hid (ValAt wr u2 (.agg L2.toArray)) := by
     have := (hv'.out i u2 hu2.out).kept hb.out
     rw [← hL2.out, Array.toArray_toList]
     exact this
    obtain ⟨q, hq⟩ : ∃ q, Hid (Bf i = q) := ⟨_, rfl⟩
    have hcl : Hid (∀ wq : World, Below wr.heap.size wr wq → Calls Tryd.prog g #[.agg L1.toArray, .agg L2.toArray] wq fun e w' => e = .returned (.bool q) ∧ Below wq.heap.size wq w') := fun wq hwq => by
     have h := hcall.out i u1 u2 hu1.out hu2.out _ _ wq (v1.out.kept hwq) (v2.out.kept hwq)
     rw [hq.out] at h
     exact h
    obtain ⟨k1, b1, r1, t1, ko1, N1, kc1, vo1, M1, vc1, rfl⟩ := v1.out.six
    obtain ⟨k2, b2, r2, t2, ko2, N2, kc2, vo2, M2, vc2, rfl⟩ := v2.out.six
    have Bx : Hid (Below wr.heap.size wr (wr.alloc (.cells #[.int .i64 k1, .bool b1, .string r1, .string t1, .slice ko1 N1 kc1, .slice vo1 M1 vc1] 35))) := (Below.refl _ wr).alloc (Nat.le_refl _) _
    have By : Hid (Below wr.heap.size wr ((wr.alloc (.cells #[.int .i64 k1, .bool b1, .string r1, .string t1, .slice ko1 N1 kc1, .slice vo1 M1 vc1] 35)).alloc (.cells #[.int .i64 k2, .bool b2, .string r2, .string t2, .slice ko2 N2 kc2, .slice vo2 M2 vc2] 35))) := Bx.out.alloc Bx.out.size _
    have hrgk := hid hrg
    have hrgk' := hid (range_kept hrg' Bx.out)
    clear hrg hrg' hl1 hl2
    go_wp2_with (first | refine wpList_load_want 35 _ p (o + i * 6) [.int .i64 k1, .bool b1, .string r1, .string t1, .slice ko1 N1 kc1, .slice vo1 M1 vc1] _ hrgk.out Tryd.underlying35 z1 rfl rfl rfl (by rfl) ?_ | refine wpList_load_want 35 _ p' (o' + i * 6) [.int .i64 k2, .bool b2, .string r2, .string t2, .slice ko2 N2 kc2, .slice vo2 M2 vc2] _ hrgk'.out Tryd.underlying35 z2 rfl rfl rfl (by rfl) ?_ | fail)
    refine Calls.mono (hcl.out _ By.out) ?_
    rintro e w5 ⟨rfl, hbb⟩
    have Jb := hid (belowD hb.out (belowD By.out hbb))
    clear hbb hcl hrgk hrgk' Bx By hb
    cases q with
    | true =>
     go_wp2
     go_roundw
     case rel => exact ⟨i + 1, by omega, by simp, hid (fun j hj => by
      by_cases e : j = i
      ·rw [e]; exact hq.out
      ·exact hI.out j (by omega)), Jb⟩
     case measure => simp [intOf]; omega
    | false =>
     have hfin : Hid (B = false) := by
      show _ = _
      cases B with
      | false => rfl
      | true => exact absurd ((hB.out.1 rfl).2 i hlt) (by rw [hq.out]; simp)
     go_wp2
     go_ret
     exact ⟨by rw [hfin.out]; rfl, Jb.out⟩
   ·have hge : (M : Int) ≤ (i : Int) := by omega
    have hfin : Hid (B = true) := hB.out.2 ⟨(by first | trivial | rfl), fun j hj => hI.out j (by omega)⟩
    go_wp2
    go_ret
    exact ⟨by rw [hfin.out]; rfl, hb.out⟩
 ·have e0 : ((M : Int) != (M' : Int)) = true := by simp; omega
  have hfin : Hid (B = false) := by
   show _ = _
   cases B with
   | false => rfl
   | true => exact absurd (hB.out.1 rfl).1 hmm
  go_enter Tryd.func46, Tryd.ntmps46
  go_wp2
  go_ret
  exact ⟨by rw [hfin.out]; rfl, Below.refl _ _⟩
end Go.Proofs.YtjlcliicdclooaaDoor
