/-
 tree.Depth and tree.Count.
-/
import Derived.Test.YtgpagaielnemmaaDoorPack1
namespace Go.Proofs.YtgpagaielnemmaaDoor
open Go.RowKit Go.Shelf
theorem ValAt.six {w : World} {u : Vt} {L : List Value} (h : ValAt w u (.agg L.toArray)) : ∃ k b r t ko N kc vo M vc, L = [.int .i64 k, .bool b, .string r, .string t, .slice ko N kc, .slice vo M vc] := by
 obtain ⟨ko, kc, vo, vc, h⟩ := h.cells
 exact ⟨_, _, _, _, _, _, _, _, _, _, by simpa using congrArg Array.toList h⟩
set_option maxRecDepth 10000 in
set_option maxHeartbeats 4000000 in
theorem cntP_ex : ∀ (n : Nat) (t : Vt), SizeOf.sizeOf t ≤ n → cntV t ≤ 4611686018427387904 → ∀ (va : Value) (w : World), ValAt w t va →
  Calls Tryd.prog 12 #[va] w fun e w' => e = .returned (.int .i64 ((cntV t : Nat) : Int)) ∧ Below w.heap.size w w' := by
 intro n
 induction n with
 | zero =>
  intro t hs
  cases t
  simp at hs
 | succ n ih =>
  intro t hs hc va w ha
  cases ha with
  | mk k b r t ks vs ko kc vo vc X hw hz hk hr hv =>
  have ih' := hid ih
  have hs' := hid hs
  have hr1 := hid hr
  have hv1 := hid hv
  have hz1 := hid hz
  have hc' := hid hc
  obtain ⟨T, hT⟩ : ∃ T, Hid (cntV (.mk k b r t ks vs) = T) := ⟨_, rfl⟩
  have hTc : Hid (T = cntL vs + 1) := by show _ = _; rw [← hT.out]; simp [cntV]
  rw [hT.out]
  obtain ⟨N, hN⟩ : ∃ N, Hid (ks.length = N) := ⟨_, rfl⟩
  obtain ⟨M, hM⟩ : ∃ M, Hid (vs.length = M) := ⟨_, rfl⟩
  rw [hN.out, hM.out]
  have hMi : (M : Int) ≤ 9223372036854775807 := by have := hz1.out.2.2.2; rw [hM.out] at this; unfold capT at this; omega
  clear ih hs hk hr hv hz hw hc
  have A1 : Hid (At (w.alloc (.cells #[.int .i64 k, .bool b, .string r, .string t, .slice ko N kc, .slice vo M vc] 25)) w.heap.size #[.int .i64 k, .bool b, .string r, .string t, .slice ko N kc, .slice vo M vc] 25) := At.new w _ _
  have B1 : Hid (Below w.heap.size w (w.alloc (.cells #[.int .i64 k, .bool b, .string r, .string t, .slice ko N kc, .slice vo M vc] 25))) := (Below.refl _ w).alloc (Nat.le_refl _) _
  go_enter Tryd.func12, Tryd.ntmps12
  go_wp2
  go_loopw [3, 9] (fun nn ii wr => ∃ (i c : Nat), i ≤ M ∧ ii = .int .i64 (i : Int) ∧ nn = .int .i64 (c : Int) ∧ Hid (c = cntL (vs.take i) + 1) ∧ Hid (Below w.heap.size w wr)) (fun _ ii _ => M - (intOf ii).toNat)
  case atStart => exact ⟨0, 1, Nat.zero_le _, rfl, rfl, hid (by simp [cntL]), B1⟩
  case round =>
   obtain ⟨i, c, hi, rfl, rfl, hcc, hb⟩ := hrel
   by_cases hlt : i < M
   ·have hli : (i : Int) < (M : Int) := by omega
    obtain ⟨u1, hu1⟩ : ∃ u, Hid (vs[i]? = some u) := ⟨_, List.getElem?_eq_getElem (by rw [hM.out]; exact hlt)⟩
    obtain ⟨g, o, rfl, hg, hrg, hl1⟩ := row_range (hr1.out.kept hb.out) (i := i) (by rw [hM.out]; exact hlt)
    obtain ⟨L1, hL1⟩ : ∃ L, Hid ((X i).toList = L) := ⟨_, rfl⟩
    rw [hL1.out] at hrg hl1
    have z1 : (Tryd.prog.info? 25).map (·.size) = some L1.length := by rw [hl1]; exact sizeVl
    have v1 : Hid (ValAt wr u1 (.agg L1.toArray)) := by
     have := (hv1.out i u1 hu1.out).kept hb.out
     rw [← hL1.out, Array.toArray_toList]
     exact this
    obtain ⟨q, hq⟩ : ∃ q, Hid (cntV u1 = q) := ⟨_, rfl⟩
    have hcq : Hid (c + q ≤ 4611686018427387904) := by
     have h1 := cntL_next hu1.out
     have h2 := cntL_take vs (i + 1)
     have h3 := hTc.out
     have h4 := hc'.out
     rw [hT.out] at h4
     rw [hq.out] at h1
     have h5 := hcc.out
     show _ ≤ _
     omega
    have hcqi : (c : Int) + (q : Int) ≤ 4611686018427387904 := by have := hcq.out; omega
    have hcall : Hid (∀ wq : World, Below wr.heap.size wr wq → Calls Tryd.prog 12 #[.agg L1.toArray] wq fun e w' => e = .returned (.int .i64 (q : Int)) ∧ Below wq.heap.size wq w') := fun wq hwq => by
     have hsz := kid_size (k := k) (b := b) (r := r) (t := t) (ks := ks) hu1.out
     have h := ih'.out u1 (by have := hs'.out; omega) (by rw [hq.out]; have := hcq.out; omega) _ wq (v1.out.kept hwq)
     rw [hq.out] at h
     exact h
    obtain ⟨k1, b1, r1, t1, ko1, N1, kc1, vo1, M1, vc1, rfl⟩ := v1.out.six
    have hrgk := hid hrg
    have Bx : Hid (Below wr.heap.size wr (wr.alloc (.cells #[.int .i64 k1, .bool b1, .string r1, .string t1, .slice ko1 N1 kc1, .slice vo1 M1 vc1] 25))) := (Below.refl _ wr).alloc (Nat.le_refl _) _
    clear hrg hl1
    go_wp2_with (first | refine wpList_load_want 25 _ g (o + i * 6) [.int .i64 k1, .bool b1, .string r1, .string t1, .slice ko1 N1 kc1, .slice vo1 M1 vc1] _ hrgk.out Tryd.underlying25 z1 rfl rfl rfl (by rfl) ?_ | fail)
    refine Calls.mono (hcall.out _ Bx.out) ?_
    rintro e w5 ⟨rfl, hbb⟩
    have Jb := hid (hb.out.trans ((Bx.out.trans (hbb.mono Bx.out.size)).mono hb.out.size))
    clear hbb hcall hrgk Bx
    go_wp2
    go_roundw
    case rel => exact ⟨i + 1, c + q, by omega, by simp, by simp, hid (by have h1 := cntL_next hu1.out; rw [hq.out] at h1; have := hcc.out; omega), Jb⟩
    case measure => simp [intOf]; omega
   ·obtain rfl : i = M := by omega
    have hfin : Hid (c = T) := by
     show _ = _
     rw [hcc.out, hTc.out, List.take_of_length_le (by rw [hM.out]; exact Nat.le_refl _)]
    rw [hfin.out]
    go_wp2
    go_ret
    exact ⟨rfl, hb.out⟩
end Go.Proofs.YtgpagaielnemmaaDoor
