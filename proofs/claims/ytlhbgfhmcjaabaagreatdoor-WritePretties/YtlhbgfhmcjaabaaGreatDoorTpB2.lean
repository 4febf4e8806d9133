/-
 tree.Depth.
-/
import Derived.Test.YtlhbgfhmcjaabaaGreatDoorTpB
namespace Go.Proofs.YtlhbgfhmcjaabaaGreatDoor
open Go.RowKit Go.Shelf
set_option maxRecDepth 10000 in
set_option maxHeartbeats 4000000 in
theorem depP_ex : ∀ (n : Nat) (t : Vt), SizeOf.sizeOf t ≤ n → depV t ≤ 4611686018427387904 → ∀ (va : Value) (w : World), ValAt w t va →
  Calls Tryz.prog 30 #[va] w fun e w' => e = .returned (.int .i64 ((depV t : Nat) : Int)) ∧ Below w.heap.size w w' := by
 intro n
 induction n with
 | zero =>
  intro t hs
  cases t
  simp at hs
 | succ n ih =>
  intro t hs hc va w ha
  cases ha with
  | mk k b r t ks vs ko kc vo vc X hw hz hk hr hv =>
  have ih' := hid ih
  have hs' := hid hs
  have hr1 := hid hr
  have hv1 := hid hv
  have hz1 := hid hz
  have hc' := hid hc
  obtain ⟨T, hT⟩ : ∃ T, Hid (depV (.mk k b r t ks vs) = T) := ⟨_, rfl⟩
  obtain ⟨N, hN⟩ : ∃ N, Hid (ks.length = N) := ⟨_, rfl⟩
  obtain ⟨M, hM⟩ : ∃ M, Hid (vs.length = M) := ⟨_, rfl⟩
  rw [hT.out, hN.out, hM.out]
  have hMi : (M : Int) ≤ 9223372036854775807 := by have := hz1.out.2.2.2; rw [hM.out] at this; unfold capT at this; omega
  clear ih hs hk hr hv hz hw hc
  have A1 : Hid (At (w.alloc (.cells #[.int .i64 k, .bool b, .string r, .string t, .slice ko N kc, .slice vo M vc] 25)) w.heap.size #[.int .i64 k, .bool b, .string r, .string t, .slice ko N kc, .slice vo M vc] 25) := At.new w _ _
  have B1 : Hid (Below w.heap.size w (w.alloc (.cells #[.int .i64 k, .bool b, .string r, .string t, .slice ko N kc, .slice vo M vc] 25))) := (Below.refl _ w).alloc (Nat.le_refl _) _
  have c0 := A1.out.cell 0
  simp only [List.getElem?_toArray, List.getElem?_cons_zero] at c0
  by_cases h5 : k = 5
  ·have n5 : (k != 5) = false := by simp [h5]
   have hTc : Hid (T = depL vs + 1) := by show _ = _; rw [← hT.out]; simp [depV, h5]
   clear h5
   go_enter Tryz.func30, Tryz.ntmps30
   go_wp2
   clear c0
   go_loopw [3, 17] (fun nn ii wr => ∃ (i c : Nat), i ≤ M ∧ ii = .int .i64 (i : Int) ∧ nn = .int .i64 (c : Int) ∧ Hid (c = depL (vs.take i)) ∧ Hid (Below w.heap.size w wr)) (fun _ ii _ => M - (intOf ii).toNat)
   case atStart => exact ⟨0, 0, Nat.zero_le _, rfl, rfl, hid (by simp [depL]), B1⟩
   case round =>
    obtain ⟨i, c, hi, rfl, rfl, hcc, hb⟩ := hrel
    by_cases hlt : i < M
    ·have hli : (i : Int) < (M : Int) := by omega
     obtain ⟨u1, hu1⟩ : ∃ u, Hid (vs[i]? = some u) := ⟨_, List.getElem?_eq_getElem (by rw [hM.out]; exact hlt)⟩
     obtain ⟨g, o, rfl, hg, hrg, hl1⟩ := row_range (hr1.out.kept hb.out) (i := i) (by rw [hM.out]; exact hlt)
     obtain ⟨L1, hL1⟩ : ∃ L, Hid ((X i).toList = L) := ⟨_, rfl⟩
     rw [hL1.out] at hrg hl1
     have z1 : (Tryz.prog.info? 25).map (·.size) = some L1.length := by rw [hl1]; exact sizeVl
     have v1 : Hid (ValAt wr u1 (.agg L1.toArray)) := by
      have := (hv1.out i u1 hu1.out).kept hb.out
      rw [← hL1.out, Array.toArray_toList]
      exact this
     obtain ⟨q, hq⟩ : ∃ q, Hid (depV u1 = q) := ⟨_, rfl⟩
     have hnx := hid (depL_next hu1.out)
     rw [hq.out, ← hcc.out] at hnx
     have hqm : Hid (q ≤ 4611686018427387904) := by
      have h2 := depL_take vs (i + 1)
      have h3 := hTc.out
      have h4 := hc'.out
      rw [hT.out] at h4
      have h5 := hnx.out
      show _ ≤ _
      omega
     have hqi : (q : Int) ≤ 4611686018427387904 := by have := hqm.out; omega
     have hcall : Hid (∀ wq : World, Below wr.heap.size wr wq → Calls Tryz.prog 30 #[.agg L1.toArray] wq fun e w' => e = .returned (.int .i64 (q : Int)) ∧ Below wq.heap.size wq w') := fun wq hwq => by
      have hsz := kid_size (k := k) (b := b) (r := r) (t := t) (ks := ks) hu1.out
      have h := ih'.out u1 (by have := hs'.out; omega) (by rw [hq.out]; exact hqm.out) _ wq (v1.out.kept hwq)
      rw [hq.out] at h
      exact h
     obtain ⟨k1, b1, r1, t1, ko1, N1, kc1, vo1, M1, vc1, rfl⟩ := v1.out.six
     have hrgk := hid hrg
     have Bx : Hid (Below wr.heap.size wr (wr.alloc (.cells #[.int .i64 k1, .bool b1, .string r1, .string t1, .slice ko1 N1 kc1, .slice vo1 M1 vc1] 25))) := (Below.refl _ wr).alloc (Nat.le_refl _) _
     clear hrg hl1
     go_wp2_with (first | refine wpList_load_want 25 _ g (o + i * 6) [.int .i64 k1, .bool b1, .string r1, .string t1, .slice ko1 N1 kc1, .slice vo1 M1 vc1] _ hrgk.out Tryz.underlying25 z1 rfl rfl rfl (by rfl) ?_ | fail)
     refine Calls.mono (hcall.out _ Bx.out) ?_
     rintro e w5 ⟨rfl, hbb⟩
     have Jb := hid (hb.out.trans ((Bx.out.trans (hbb.mono Bx.out.size)).mono hb.out.size))
     clear hbb hcall hrgk Bx
     by_cases hcq : c < q
     ·have hcqi : (c : Int) < (q : Int) := by omega
      go_wp2
      go_roundw
      case rel => exact ⟨i + 1, q, by omega, by simp, (by first | rfl | (congr 1; omega)), hid (by have := hnx.out; omega), Jb⟩
      case measure => simp [intOf]; omega
     ·have hcqi : decide ((c : Int) < (q : Int)) = false := by simp; omega
      have hcqn : decide (c < q) = false := by simp; omega
      go_wp2
      go_roundw
      case rel => exact ⟨i + 1, c, by omega, by simp, (by first | rfl | (congr 1; omega)), hid (by have := hnx.out; omega), Jb⟩
      case measure => simp [intOf]; omega
    ·obtain rfl : i = M := by omega
     have hfin : Hid (T = c + 1) := by
      show _ = _
      rw [hTc.out, hcc.out, List.take_of_length_le (by rw [hM.out]; exact Nat.le_refl _)]
     have hci : (c : Int) ≤ 4611686018427387904 := by have := hfin.out; have h4 := hc'.out; rw [hT.out] at h4; omega
     go_wp2
     go_ret
     refine ⟨?_, hb.out⟩
     rw [hfin.out]
     simp
  ·have n5 : (k != 5) = true := by simp; exact h5
   by_cases h6 : k = 6
   ·have n6 : (k != 6) = false := by simp [h6]
    have hTc : Hid (T = depL vs + 1) := by show _ = _; rw [← hT.out]; simp [depV, h6]
    clear h5 h6
    go_enter Tryz.func30, Tryz.ntmps30
    go_wp2
    clear c0
    go_loopw [3, 17] (fun nn ii wr => ∃ (i c : Nat), i ≤ M ∧ ii = .int .i64 (i : Int) ∧ nn = .int .i64 (c : Int) ∧ Hid (c = depL (vs.take i)) ∧ Hid (Below w.heap.size w wr)) (fun _ ii _ => M - (intOf ii).toNat)
    case atStart => exact ⟨0, 0, Nat.zero_le _, rfl, rfl, hid (by simp [depL]), B1⟩
    case round =>
     obtain ⟨i, c, hi, rfl, rfl, hcc, hb⟩ := hrel
     by_cases hlt : i < M
     ·have hli : (i : Int) < (M : Int) := by omega
      obtain ⟨u1, hu1⟩ : ∃ u, Hid (vs[i]? = some u) := ⟨_, List.getElem?_eq_getElem (by rw [hM.out]; exact hlt)⟩
      obtain ⟨g, o, rfl, hg, hrg, hl1⟩ := row_range (hr1.out.kept hb.out) (i := i) (by rw [hM.out]; exact hlt)
      obtain ⟨L1, hL1⟩ : ∃ L, Hid ((X i).toList = L) := ⟨_, rfl⟩
      rw [hL1.out] at hrg hl1
      have z1 : (Tryz.prog.info? 25).map (·.size) = some L1.length := by rw [hl1]; exact sizeVl
      have v1 : Hid (ValAt wr u1 (.agg L1.toArray)) := by
       have := (hv1.out i u1 hu1.out).kept hb.out
       rw [← hL1.out, Array.toArray_toList]
       exact this
      obtain ⟨q, hq⟩ : ∃ q, Hid (depV u1 = q) := ⟨_, rfl⟩
      have hnx := hid (depL_next hu1.out)
      rw [hq.out, ← hcc.out] at hnx
      have hqm : Hid (q ≤ 4611686018427387904) := by
       have h2 := depL_take vs (i + 1)
       have h3 := hTc.out
       have h4 := hc'.out
       rw [hT.out] at h4
       have h5 := hnx.out
       show _ ≤ _
       omega
      have hqi : (q : Int) ≤ 4611686018427387904 := by have := hqm.out; omega
      have hcall : Hid (∀ wq : World, Below wr.heap.size wr wq → Calls Tryz.prog 30 #[.agg L1.toArray] wq fun e w' => e = .returned (.int .i64 (q : Int)) ∧ Below wq.heap.size wq w') := fun wq hwq => by
       have hsz := kid_size (k := k) (b := b) (r := r) (t := t) (ks := ks) hu1.out
       have h := ih'.out u1 (by have := hs'.out; omega) (by rw [hq.out]; exact hqm.out) _ wq (v1.out.kept hwq)
       rw [hq.out] at h
       exact h
      obtain ⟨k1, b1, r1, t1, ko1, N1, kc1, vo1, M1, vc1, rfl⟩ := v1.out.six
      have hrgk := hid hrg
      have Bx : Hid (Below wr.heap.size wr (wr.alloc (.cells #[.int .i64 k1, .bool b1, .string r1, .string t1, .slice ko1 N1 kc1, .slice vo1 M1 vc1] 25))) := (Below.refl _ wr).alloc (Nat.le_refl _) _
      clear hrg hl1
      go_wp2_with (first | refine wpList_load_want 25 _ g (o + i * 6) [.int .i64 k1, .bool b1, .string r1, .string t1, .slice ko1 N1 kc1, .slice vo1 M1 vc1] _ hrgk.out Tryz.underlying25 z1 rfl rfl rfl (by rfl) ?_ | fail)
      refine Calls.mono (hcall.out _ Bx.out) ?_
      rintro e w5 ⟨rfl, hbb⟩
      have Jb := hid (hb.out.trans ((Bx.out.trans (hbb.mono Bx.out.size)).mono hb.out.size))
      clear hbb hcall hrgk Bx
      by_cases hcq : c < q
      ·have hcqi : (c : Int) < (q : Int) := by omega
       go_wp2
       go_roundw
       case rel => exact ⟨i + 1, q, by omega, by simp, (by first | rfl | (congr 1; omega)), hid (by have := hnx.out; omega), Jb⟩
       case measure => simp [intOf]; omega
      ·have hcqi : decide ((c : Int) < (q : Int)) = false := by simp; omega
       have hcqn : decide (c < q) = false := by simp; omega
       go_wp2
       go_roundw
       case rel => exact ⟨i + 1, c, by omega, by simp, (by first | rfl | (congr 1; omega)), hid (by have := hnx.out; omega), Jb⟩
       case measure => simp [intOf]; omega
     ·obtain rfl : i = M := by omega
      have hfin : Hid (T = c + 1) := by
       show _ = _
       rw [hTc.out, hcc.out, List.take_of_length_le (by rw [hM.out]; exact Nat.le_refl _)]
      have hci : (c : Int) ≤ 4611686018427387904 := by have := hfin.out; have h4 := hc'.out; rw [hT.out] at h4; omega
      go_wp2
      go_ret
      refine ⟨?_, hb.out⟩
      rw [hfin.out]
      simp
   ·have n6 : (k != 6) = true := by simp; exact h6
    have hT0 : T = 0 := by rw [← hT.out]; simp [depV, h5, h6]
    subst hT0
    go_enter Tryz.func30, Tryz.ntmps30
    go_wp2
    go_ret
    exact ⟨rfl, B1.out⟩
end Go.Proofs.YtlhbgfhmcjaabaaGreatDoor
