/-
 quarryref00.leftOfValue and BeyondValue: what is left of a budget behind a value and all its parts.
-/
import Derived.Test.YtlmjiocdhobopaaGreatDoorTrF
import Derived.Deep.Cut
namespace Go.Proofs.YtlmjiocdhobopaaGreatDoor
open Go.RowKit Go.Shelf
/-- What is left behind some names. -/
def leftK (d : Int) : List ByteArray → Int → Int
 | [], l => l
 | k :: ks, l => if l < 0 then l else leftK d ks (l - toldN (k.size : Int) d 0)
mutual
/-- What is left behind a value, and behind the Kids of one. -/
def leftV : Vt → Int → Int → Int → Int
 | .mk _ _ r t ks vs, d, y, l => if 65536 < d then -1 else leftL vs ks d y (leftK d ks (l - toldN ((r.size : Int) + (t.size : Int)) d y))
def leftL : List Vt → List ByteArray → Int → Int → Int → Int
 | [], _, _, _, l => l
 | v :: vs, ks, d, y, l => if l < 0 then l else leftL vs ks.tail d y (leftV v (d + 1) (y + 21 + 2 * ((ks.headD ByteArray.empty).size : Int)) l)
end
theorem toldN_ge {x d y : Int} (hx : 0 ≤ x) (hd : 0 ≤ d) (hy : 0 ≤ y) : 0 ≤ toldN x d y := by
 have := hd
 unfold toldN; split <;> omega
theorem toldN_le {x d y : Int} (hx : 0 ≤ x) (hd : d ≤ 65536) (hy : 0 ≤ y) : toldN x d y ≤ 16 + 6 * x + 1048576 + y := by
 have := hd
 unfold toldN; split <;> omega
theorem leftK_neg {d l : Int} (ks : List ByteArray) (h : l < 0) : leftK d ks l = l := by
 cases ks with
 | nil => rfl
 | cons k ks => simp [leftK, h]
theorem leftK_le {d : Int} (hd : 0 ≤ d) : ∀ (ks : List ByteArray) (l : Int), leftK d ks l ≤ l
 | [], l => Int.le_refl _
 | k :: ks, l => by
  unfold leftK
  split
  ·exact Int.le_refl _
  ·have := leftK_le hd ks (l - toldN (k.size : Int) d 0)
   have := toldN_ge (x := (k.size : Int)) (d := d) (y := 0) (by omega) hd (by omega)
   omega
theorem leftK_key {d : Int} (hd : 0 ≤ d) : ∀ (ks : List ByteArray) (l : Int), 0 ≤ leftK d ks l → ∀ (i : Nat) (k : ByteArray), ks[i]? = some k → (k.size : Int) < l
 | [], l, _, i, k, h => by simp at h
 | x :: ks, l, h0, i, k, h => by
  unfold leftK at h0
  split at h0
  ·omega
  ·have hle := leftK_le hd ks (l - toldN (x.size : Int) d 0)
   have ht := toldN_text (x := (x.size : Int)) (d := d) (y := 0) (by omega) hd (by omega)
   cases i with
   | zero =>
    simp at h
    subst h
    omega
   | succ i =>
    have := leftK_key hd ks _ h0 i k (by simpa using h)
    have := toldN_ge (x := (x.size : Int)) (d := d) (y := 0) (by omega) hd (by omega)
    omega
mutual
theorem leftV_le : ∀ (t : Vt) (d y l : Int), 0 ≤ d → 0 ≤ y → 0 ≤ l → leftV t d y l ≤ l
 | .mk k b r t ks vs, d, y, l, hd, hy, hl => by
  unfold leftV
  split
  ·omega
  ·have h1 := leftL_le vs ks d y (leftK d ks (l - toldN ((r.size : Int) + (t.size : Int)) d y)) hd hy
   have h2 := leftK_le hd ks (l - toldN ((r.size : Int) + (t.size : Int)) d y)
   have := toldN_ge (x := (r.size : Int) + (t.size : Int)) (d := d) (y := y) (by omega) hd hy
   omega
theorem leftL_le : ∀ (vs : List Vt) (ks : List ByteArray) (d y l : Int), 0 ≤ d → 0 ≤ y → leftL vs ks d y l ≤ l
 | [], ks, d, y, l, _, _ => by unfold leftL; exact Int.le_refl _
 | v :: vs, ks, d, y, l, hd, hy => by
  unfold leftL
  split
  ·exact Int.le_refl _
  ·have h1 := leftL_le vs ks.tail d y (leftV v (d + 1) (y + 21 + 2 * ((ks.headD ByteArray.empty).size : Int)) l) hd hy
   have h2 := leftV_le v (d + 1) (y + 21 + 2 * ((ks.headD ByteArray.empty).size : Int)) l (by omega) (by omega) (by omega)
   omega
end
theorem leftL_neg {d y l : Int} (vs : List Vt) (ks : List ByteArray) (h : l < 0) : leftL vs ks d y l = l := by
 cases vs with
 | nil => unfold leftL; rfl
 | cons v vs => unfold leftL; rw [if_pos h]
theorem drop_some {α : Type} {L : List α} {i : Nat} {x : α} (h : L[i]? = some x) : L.drop i = x :: L.drop (i + 1) := by
 obtain ⟨h1, h2⟩ := List.getElem?_eq_some_iff.mp h
 rw [List.drop_eq_getElem_cons h1, h2]
set_option maxRecDepth 10000 in
set_option maxHeartbeats 4000000 in
theorem left_ex : ∀ (n : Nat) (t : Vt), SizeOf.sizeOf t ≤ n → ∀ (d y l : Int), 1 ≤ d → d ≤ 65537 → 0 ≤ y → y ≤ d * 4294967313 → 0 ≤ l → l ≤ 2147483647 → ∀ (va : Value) (w : World), ValAt w t va →
  Calls Tryz.prog 20 #[va, .int .i64 d, .int .i64 y, .int .i64 l] w fun e w' => e = .returned (.int .i64 (leftV t d y l)) ∧ Below w.heap.size w w' := by
 intro n
 induction n with
 | zero =>
  intro t hs
  cases t
  simp at hs
 | succ n ih =>
  intro t hs d y l hd1 hd2 hy1 hy2 hl1 hl2 va w ha
  cases ha with
  | mk k b r t ks vs ko kc vo vc X hw hz hk hr hv =>
  have ih' := hid ih
  have hs' := hid hs
  have hr1 := hid hr
  have hv1 := hid hv
  have hk1 := hid hk
  have hz1 := hid hz
  obtain ⟨T, hT⟩ : ∃ T, Hid (leftV (.mk k b r t ks vs) d y l = T) := ⟨_, rfl⟩
  rw [hT.out]
  obtain ⟨N, hN⟩ : ∃ N, Hid (ks.length = N) := ⟨_, rfl⟩
  obtain ⟨M, hM⟩ : ∃ M, Hid (vs.length = M) := ⟨_, rfl⟩
  rw [hN.out, hM.out]
  have hMi : (M : Int) ≤ 9223372036854775807 := by have := hz1.out.2.2.2; rw [hM.out] at this; unfold capT at this; omega
  have hNi : (N : Int) ≤ 9223372036854775807 := by have := hz1.out.2.2.1; rw [hN.out] at this; unfold capT at this; omega
  have hrs : (r.size : Int) ≤ 140737488351232 := by have := hz1.out.1; unfold capT at this; omega
  have hts : (t.size : Int) ≤ 140737488351232 := by have := hz1.out.2.1; unfold capT at this; omega
  clear ih hs hk hr hv hz hw
  have A1 : Hid (At (w.alloc (.cells #[.int .i64 k, .bool b, .string r, .string t, .slice ko N kc, .slice vo M vc] 25)) w.heap.size #[.int .i64 k, .bool b, .string r, .string t, .slice ko N kc, .slice vo M vc] 25) := At.new _ _ _
  have B1 : Hid (Below w.heap.size w (w.alloc (.cells #[.int .i64 k, .bool b, .string r, .string t, .slice ko N kc, .slice vo M vc] 25))) := (Below.refl _ w).alloc (Nat.le_refl _) _
  by_cases hdp : 65536 < d
  ·have hTm : T = -1 := by rw [← hT.out]; unfold leftV; rw [if_pos hdp]
   subst hTm
   have e1 : decide (65536 < d) = true := by simp [hdp]
   go_enter Tryz.func20, Tryz.ntmps20
   go_wp2
   go_ret
   exact ⟨rfl, B1.out⟩
  ·have e1 : decide (65536 < d) = false := by simp; omega
   obtain ⟨Q, hQ⟩ : ∃ Q, Hid (toldN ((r.size : Int) + (t.size : Int)) d y = Q) := ⟨_, rfl⟩
   have htl := hid (fun u => told_calls ((r.size : Int) + (t.size : Int)) d y (by omega) (by omega) (by omega) (by omega) hy1 (by omega) u)
   rw [hQ.out] at htl
   have hQ1 : 0 ≤ Q := by rw [← hQ.out]; exact toldN_ge (by omega) (by omega) hy1
   have hQ2 : Q ≤ 4503599627370496 := by rw [← hQ.out]; have := toldN_le (x := (r.size : Int) + (t.size : Int)) (d := d) (y := y) (by omega) (by omega) hy1; omega
   have hT2 : Hid (leftL vs ks d y (leftK d ks (l - Q)) = T) := by
    show _ = _
    rw [← hT.out, ← hQ.out]
    conv => rhs; unfold leftV
    rw [if_neg hdp]
   clear hT hQ
   obtain ⟨L0, hL0⟩ : ∃ L0, l - Q = L0 := ⟨_, rfl⟩
   rw [hL0] at hT2
   have hL1 : L0 ≤ 2147483647 := by omega
   have hL2 : -4503599627370496 ≤ L0 := by omega
   obtain ⟨LK, hLK⟩ : ∃ LK, Hid (leftK d ks L0 = LK) := ⟨_, rfl⟩
   rw [hLK.out] at hT2
   go_enter Tryz.func20, Tryz.ntmps20
   go_upto_region 3 with fail
   generalize w.alloc (.cells #[.int .i64 k, .bool b, .string r, .string t, .slice ko N kc, .slice vo M vc] 25) = W at A1 B1 ⊢
   have c2 : W.cell? ⟨w.heap.size, 2, none⟩ = some (.string r) := A1.out.cell 2
   have c3 : W.cell? ⟨w.heap.size, 3, none⟩ = some (.string t) := A1.out.cell 3
   have c4 : W.cell? ⟨w.heap.size, 4, none⟩ = some (.slice ko N kc) := A1.out.cell 4
   have c5 : W.cell? ⟨w.heap.size, 5, none⟩ = some (.slice vo M vc) := A1.out.cell 5
   go_wp2_with fail
   refine Calls.mono (htl.out _) ?_
   rintro e w1 ⟨rfl, hw1⟩
   rw [hw1]
   clear hw1 w1 htl
   have hk2 := hid (hk1.out.kept (w' := W) (B1.out))
   have hL0h := hid hL0
   clear hL0
   go_wp2_with fail
   go_loop [3, 9] (fun ll ii => ∃ (i : Nat) (x : Int), i ≤ N ∧ ii = .int .i64 (i : Int) ∧ ll = .int .i64 x ∧ x ≤ 2147483647 ∧ -4503599627370496 ≤ x ∧ Hid (leftK d (ks.drop i) x = LK)) (fun _ ii => N - (intOf ii).toNat)
   case atStart => exact ⟨0, L0, Nat.zero_le _, rfl, by rw [hL0h.out], hL1, hL2, hLK⟩
   case round =>
    obtain ⟨i, x, hi, rfl, rfl, hx1, hx2, hI⟩ := hrel
    by_cases hlt : i < N
    ·have hli : (i : Int) < (N : Int) := by omega
     by_cases hx : 0 ≤ x
     ·obtain ⟨sk, hsk⟩ : ∃ sk, Hid (ks[i]? = some sk) := ⟨_, List.getElem?_eq_getElem (by rw [hN.out]; exact hlt)⟩
      obtain ⟨hkz, gk, ok, rfl, hgk, s1⟩ := hk2.out i sk hsk.out
      have ad1 : (⟨gk, ok, none⟩ : Addr).add i = ⟨gk, ok + i, none⟩ := by by_cases h : i = 0 <;> simp [Addr.add, h]
      unfold capT at hkz
      obtain ⟨q, hq⟩ : ∃ q, Hid (toldN (sk.size : Int) d 0 = q) := ⟨_, rfl⟩
      have htl := hid (fun u => told_calls (sk.size : Int) d 0 (by omega) (by omega) (by omega) (by omega) (by omega) (by omega) u)
      rw [hq.out] at htl
      have hq1 : 0 ≤ q := by rw [← hq.out]; exact toldN_ge (by omega) (by omega) (by omega)
      have hq2 : q ≤ 4503599627370496 := by rw [← hq.out]; have := toldN_le (x := (sk.size : Int)) (d := d) (y := 0) (by omega) (by omega) (by omega); omega
      have hnx : Hid (leftK d (ks.drop (i + 1)) (x - q) = LK) := by
       show _ = _
       rw [← hI.out, drop_some hsk.out]
       conv => rhs; unfold leftK
       rw [if_neg (by omega), hq.out]
      clear hI
      go_wp2_with fail
      refine Calls.mono (htl.out _) ?_
      rintro e w1 ⟨rfl, hw1⟩
      rw [hw1]
      clear hw1 w1 htl
      go_wp2
      go_round
      case rel => exact ⟨i + 1, x - q, by omega, by simp, rfl, by omega, by omega, hnx⟩
      case measure => simp [intOf]; omega
     ·have hxn : x < 0 := by omega
      have hfin : LK = x := by rw [← hI.out]; exact leftK_neg _ hxn
      subst hfin
      clear hI hi
      go_wp2_with fail
      go_loopw [3, 10] (fun ll ii wr => ∃ (i : Nat) (x : Int), i ≤ M ∧ ii = .int .i64 (i : Int) ∧ ll = .int .i64 x ∧ x ≤ LK ∧ Hid (leftL (vs.drop i) (ks.drop i) d y x = T) ∧ Hid (At wr w.heap.size #[.int .i64 k, .bool b, .string r, .string t, .slice ko N kc, .slice vo M vc] 25) ∧ Hid (Below w.heap.size w wr)) (fun _ ii _ => M - (intOf ii).toNat)
      case atStart => exact ⟨0, LK, Nat.zero_le _, rfl, rfl, Int.le_refl _, hT2, A1, B1⟩
      case round =>
       obtain ⟨i, x, hi, rfl, rfl, hxl, hI, hA, hb⟩ := hrel
       clear c2 c3 c4 c5
       have c4 := hA.out.cell 4
       have c5 := hA.out.cell 5
       simp only [List.getElem?_toArray, List.getElem?_cons_zero, List.getElem?_cons_succ] at c4 c5
       by_cases hlt : i < M
       ·have hli : (i : Int) < (M : Int) := by omega
        by_cases hx : 0 ≤ x
        ·exfalso
         omega
        ·have hxn : x < 0 := by omega
         have hfin : T = x := by rw [← hI.out]; exact leftL_neg _ _ hxn
         subst hfin
         go_wp2
         go_ret
         exact ⟨rfl, hb.out⟩
       ·have hge : (M : Int) ≤ (i : Int) := by omega
        have hfin : T = x := by
         rw [← hI.out, List.drop_of_length_le (by rw [hM.out]; omega)]
         unfold leftL
         rfl
        subst hfin
        go_wp2
        go_ret
        exact ⟨rfl, hb.out⟩
    ·have hge : (N : Int) ≤ (i : Int) := by omega
     have hfin : LK = x := by
      rw [← hI.out, List.drop_of_length_le (by rw [hN.out]; omega)]
      rfl
     subst hfin
     clear hI
     obtain rfl : N = i := by omega
     go_wp2_with fail
     go_loopw [3, 10] (fun ll ii wr => ∃ (i : Nat) (x : Int), i ≤ M ∧ ii = .int .i64 (i : Int) ∧ ll = .int .i64 x ∧ x ≤ LK ∧ Hid (leftL (vs.drop i) (ks.drop i) d y x = T) ∧ Hid (At wr w.heap.size #[.int .i64 k, .bool b, .string r, .string t, .slice ko N kc, .slice vo M vc] 25) ∧ Hid (Below w.heap.size w wr)) (fun _ ii _ => M - (intOf ii).toNat)
     case atStart => exact ⟨0, LK, Nat.zero_le _, rfl, rfl, Int.le_refl _, hT2, A1, B1⟩
     case round =>
      obtain ⟨i, x, hi, rfl, rfl, hxl, hI, hA, hb⟩ := hrel
      clear c2 c3 c4 c5
      have c4 := hA.out.cell 4
      have c5 := hA.out.cell 5
      simp only [List.getElem?_toArray, List.getElem?_cons_zero, List.getElem?_cons_succ] at c4 c5
      by_cases hlt : i < M
      ·have hli : (i : Int) < (M : Int) := by omega
       by_cases hx : 0 ≤ x
       ·have hLK0 : 0 ≤ LK := by omega
        obtain ⟨u1, hu1⟩ : ∃ u, Hid (vs[i]? = some u) := ⟨_, List.getElem?_eq_getElem (by rw [hM.out]; exact hlt)⟩
        obtain ⟨g, o, rfl, hg, hrg, hl1⟩ := row_range (hr1.out.kept hb.out) (i := i) (by rw [hM.out]; exact hlt)
        obtain ⟨L1, hL1x⟩ : ∃ L, Hid ((X i).toList = L) := ⟨_, rfl⟩
        rw [hL1x.out] at hrg hl1
        have z1 : (Tryz.prog.info? 25).map (·.size) = some L1.length := by rw [hl1]; exact sizeVl
        have v1 : Hid (ValAt wr u1 (.agg L1.toArray)) := by
         have := (hv1.out i u1 hu1.out).kept hb.out
         rw [← hL1x.out, Array.toArray_toList]
         exact this
        have hrgk := hid hrg
        clear hrg hl1
        by_cases hiN : i < N
        ·have hiNI : (i : Int) < (N : Int) := by omega
         obtain ⟨sk, hsk⟩ : ∃ sk, Hid (ks[i]? = some sk) := ⟨_, List.getElem?_eq_getElem (by rw [hN.out]; exact hiN)⟩
         obtain ⟨-, gk, ok, rfl, hgk, cgk⟩ := hk1.out i sk hsk.out
         have s1 := (hb.out.cell (p := ⟨gk, ok + i, none⟩) hgk).trans cgk
         have ad1 : (⟨gk, ok, none⟩ : Addr).add i = ⟨gk, ok + i, none⟩ := by by_cases h : i = 0 <;> simp [Addr.add, h]
         have hks : (sk.size : Int) < L0 := leftK_key (d := d) (by omega) ks L0 (by rw [hLK.out]; exact hLK0) i sk hsk.out
         clear cgk
         obtain ⟨q, hq⟩ : ∃ q, Hid (leftV u1 (d + 1) (y + 21 + 2 * (sk.size : Int)) x = q) := ⟨_, rfl⟩
         have hqx : q ≤ x := by rw [← hq.out]; exact leftV_le _ _ _ _ (by omega) (by omega) hx
         have hcall : Hid (Calls Tryz.prog 20 #[.agg L1.toArray, .int .i64 (d + 1), .int .i64 (y + 21 + 2 * (sk.size : Int)), .int .i64 x] wr fun e w' => e = .returned (.int .i64 q) ∧ Below wr.heap.size wr w') := by
          have hsz := kid_size (k := k) (b := b) (r := r) (t := t) (ks := ks) hu1.out
          have h := ih'.out u1 (by have := hs'.out; omega) (d + 1) (y + 21 + 2 * (sk.size : Int)) x (by omega) (by omega) (by omega) (by omega) hx (by omega) _ wr v1.out
          rw [hq.out] at h
          exact h
         have hnx : Hid (leftL (vs.drop (i + 1)) (ks.drop (i + 1)) d y q = T) := by
          show _ = _
          rw [← hI.out, drop_some hu1.out]
          conv => rhs; unfold leftL
          rw [if_neg (by omega), ← hq.out, List.tail_drop]
          rw [drop_some hsk.out]
          rfl
         go_wp2_with (refine wpList_load_want 25 _ g (o + i * 6) L1 _ hrgk.out Tryz.underlying25 z1 rfl rfl rfl (by rfl) ?_)
         refine Calls.mono hcall.out ?_
         rintro e w5 ⟨rfl, hbb⟩
         have J1 := hid (hA.out.keptAll hbb)
         have Jb := hid (hb.out.trans (hbb.mono hb.out.size))
         clear hbb hcall c5 hrgk
         go_wp2
         go_roundw
         case rel => exact ⟨i + 1, q, by omega, by simp, rfl, by omega, hnx, J1, Jb⟩
         case measure => simp [intOf]; omega
        ·have hiNI : (N : Int) ≤ (i : Int) := by omega
         obtain ⟨q, hq⟩ : ∃ q, Hid (leftV u1 (d + 1) (y + 21) x = q) := ⟨_, rfl⟩
         have hqx : q ≤ x := by rw [← hq.out]; exact leftV_le _ _ _ _ (by omega) (by omega) hx
         have hcall : Hid (Calls Tryz.prog 20 #[.agg L1.toArray, .int .i64 (d + 1), .int .i64 (y + 21), .int .i64 x] wr fun e w' => e = .returned (.int .i64 q) ∧ Below wr.heap.size wr w') := by
          have hsz := kid_size (k := k) (b := b) (r := r) (t := t) (ks := ks) hu1.out
          have h := ih'.out u1 (by have := hs'.out; omega) (d + 1) (y + 21) x (by omega) (by omega) (by omega) (by omega) hx (by omega) _ wr v1.out
          rw [hq.out] at h
          exact h
         have hnx : Hid (leftL (vs.drop (i + 1)) (ks.drop (i + 1)) d y q = T) := by
          show _ = _
          rw [← hI.out, drop_some hu1.out]
          conv => rhs; unfold leftL
          rw [if_neg (by omega), ← hq.out, List.tail_drop]
          have e0 : ks.drop i = [] := List.drop_of_length_le (by rw [hN.out]; omega)
          rw [e0]
          simp
         go_wp2_with (refine wpList_load_want 25 _ g (o + i * 6) L1 _ hrgk.out Tryz.underlying25 z1 rfl rfl rfl (by rfl) ?_)
         refine Calls.mono hcall.out ?_
         rintro e w5 ⟨rfl, hbb⟩
         have J1 := hid (hA.out.keptAll hbb)
         have Jb := hid (hb.out.trans (hbb.mono hb.out.size))
         clear hbb hcall c5 hrgk
         go_wp2
         go_roundw
         case rel => exact ⟨i + 1, q, by omega, by simp, rfl, by omega, hnx, J1, Jb⟩
         case measure => simp [intOf]; omega
       ·have hxn : x < 0 := by omega
        have hfin : T = x := by rw [← hI.out]; exact leftL_neg _ _ hxn
        subst hfin
        go_wp2
        go_ret
        exact ⟨rfl, hb.out⟩
      ·have hge : (M : Int) ≤ (i : Int) := by omega
       have hfin : T = x := by
        rw [← hI.out, List.drop_of_length_le (by rw [hM.out]; omega)]
        unfold leftL
        rfl
       subst hfin
       go_wp2
       go_ret
       exact ⟨rfl, hb.out⟩
theorem left_calls (t : Vt) (d y l : Int) (h1 : 1 ≤ d) (h2 : d ≤ 65537) (h3 : 0 ≤ y) (h4 : y ≤ d * 4294967313) (h5 : 0 ≤ l) (h6 : l ≤ 2147483647) (va : Value) (w : World) (ha : ValAt w t va) :
  Calls Tryz.prog 20 #[va, .int .i64 d, .int .i64 y, .int .i64 l] w fun e w' => e = .returned (.int .i64 (leftV t d y l)) ∧ Below w.heap.size w w' :=
 left_ex (SizeOf.sizeOf t) t (Nat.le_refl _) d y l h1 h2 h3 h4 h5 h6 va w ha
/-- Is it beyond the bound? -/
def byd (t : Vt) : Bool := decide (leftV t 1 0 2147483647 < 0)
set_option maxRecDepth 10000 in
set_option maxHeartbeats 1000000 in
theorem beyond_calls (t : Vt) (B : Bool) (hB : Hid (byd t = B)) (va : Value) (w : World) (ha : ValAt w t va) :
  Calls Tryz.prog 8 #[va] w fun e w' => e = .returned (.bool B) ∧ Below w.heap.size w w' := by
 have hc := hid (fun u (hu : ValAt u t va) => left_calls t 1 0 2147483647 (by decide) (by decide) (by decide) (by decide) (by decide) (by decide) va u hu)
 have hB' : B = decide (leftV t 1 0 2147483647 < 0) := hB.out.symm
 generalize leftV t 1 0 2147483647 = x at hc hB'
 subst hB'
 clear hB
 have ha' := hid ha
 cases ha with
 | mk k b r t ks vs ko kc vo vc X hw hz hk hr hv =>
 clear hw hz hk hr hv
 go_enter Tryz.func8, Tryz.ntmps8
 go_wp2_with fail
 obtain ⟨W, hW⟩ : ∃ W, w.alloc (.cells #[.int .i64 k, .bool b, .string r, .string t, .slice ko ks.length kc, .slice vo vs.length vc] 25) = W := ⟨_, rfl⟩
 have b0 : Below w.heap.size w W := by rw [← hW]; exact (Below.refl _ _).alloc (Nat.le_refl _) _
 rw [hW]
 refine Calls.mono (hc.out W (ha'.out.kept b0)) ?_
 rintro e w1 ⟨rfl, hb⟩
 have hb' := hid (b0.trans (hb.mono b0.size))
 clear hb hc b0 hW ha'
 go_wp2
 go_ret
 exact ⟨rfl, hb'.out⟩
end Go.Proofs.YtlmjiocdhobopaaGreatDoor
