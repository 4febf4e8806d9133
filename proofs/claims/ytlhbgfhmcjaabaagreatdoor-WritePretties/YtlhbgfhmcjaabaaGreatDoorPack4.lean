/-
  Texts of mine that others lean on, one behind the other.
-/
import Derived.Test.YtlhbgfhmcjaabaaGreatDoorPack3
import Derived.Deep.Cut
import Derived.Below
import Derived.Test.YtlhbgfhmcjaabaaGreatDoorPack1
import Derived.Lib.AppendStr
import Derived.Lib.BufferRead
import Derived.Laws.IdiomStrings
import Derived.WalkKit
/-
 quarryref00.told: the most that an answer writes of one part.
-/
namespace Go.Proofs.YtlhbgfhmcjaabaaGreatDoor
open Go.RowKit Go.Shelf
/-- The most that is written of a part with x bytes of text at depth d, to which a way of y bytes leads. -/
def toldN (x d y : Int) : Int := if 1025 < d then 1 + x else 16 + 6 * x + 16 * d + y
theorem toldN_deep {x d y : Int} (h : 1025 < d) : toldN x d y = 1 + x := by simp [toldN, h]
theorem toldN_flat {x d y : Int} (h : ¬ 1025 < d) : toldN x d y = 16 + 6 * x + 16 * d + y := by simp [toldN, h]
/-- A part whose cost is within what is left has texts that are. -/
theorem toldN_text {x d y : Int} (hx : 0 ≤ x) (hd : 0 ≤ d) (hy : 0 ≤ y) : x < toldN x d y := by unfold toldN; split <;> omega
set_option maxRecDepth 10000 in
set_option maxHeartbeats 1000000 in
theorem told_calls (x d y : Int) (hx : 0 ≤ x) (hx' : x ≤ 281474976702464) (hd : 0 ≤ d) (hd' : d ≤ 65536) (hy : 0 ≤ y) (hy' : y ≤ 281479271677952) (w : World) :
  Calls Tryz.prog 38 #[.int .i64 x, .int .i64 d, .int .i64 y] w fun e w' => e = .returned (.int .i64 (toldN x d y)) ∧ w' = w := by
 by_cases h : 1025 < d
 ·rw [toldN_deep h]
  go_enter Tryz.func38, Tryz.ntmps38
  go_wp2
  go_ret
  exact ⟨rfl, rfl⟩
 ·rw [toldN_flat h]
  go_enter Tryz.func38, Tryz.ntmps38
  go_wp2
  go_ret
  exact ⟨rfl, rfl⟩
end Go.Proofs.YtlhbgfhmcjaabaaGreatDoor

/-
 quarryref00.leftOfValue and BeyondValue: what is left of a budget behind a value and all its parts.
-/
namespace Go.Proofs.YtlhbgfhmcjaabaaGreatDoor
open Go.RowKit Go.Shelf
/-- What is left behind some names. -/
def leftK (d : Int) : List ByteArray → Int → Int
 | [], l => l
 | k :: ks, l => if l < 0 then l else leftK d ks (l - toldN (k.size : Int) d 0)
mutual
/-- What is left behind a value, and behind the Kids of one. -/
def leftV : Vt → Int → Int → Int → Int
 | .mk _ _ r t ks vs, d, y, l => if 65536 < d then -1 else leftL vs ks d y (leftK d ks (l - toldN ((r.size : Int) + (t.size : Int)) d y))
def leftL : List Vt → List ByteArray → Int → Int → Int → Int
 | [], _, _, _, l => l
 | v :: vs, ks, d, y, l => if l < 0 then l else leftL vs ks.tail d y (leftV v (d + 1) (y + 21 + 2 * ((ks.headD ByteArray.empty).size : Int)) l)
end
theorem toldN_ge {x d y : Int} (hx : 0 ≤ x) (hd : 0 ≤ d) (hy : 0 ≤ y) : 0 ≤ toldN x d y := by
 have := hd
 unfold toldN; split <;> omega
theorem toldN_le {x d y : Int} (hx : 0 ≤ x) (hd : d ≤ 65536) (hy : 0 ≤ y) : toldN x d y ≤ 16 + 6 * x + 1048576 + y := by
 have := hd
 unfold toldN; split <;> omega
theorem leftK_neg {d l : Int} (ks : List ByteArray) (h : l < 0) : leftK d ks l = l := by
 cases ks with
 | nil => rfl
 | cons k ks => simp [leftK, h]
theorem leftK_le {d : Int} (hd : 0 ≤ d) : ∀ (ks : List ByteArray) (l : Int), leftK d ks l ≤ l
 | [], l => Int.le_refl _
 | k :: ks, l => by
  unfold leftK
  split
  ·exact Int.le_refl _
  ·have := leftK_le hd ks (l - toldN (k.size : Int) d 0)
   have := toldN_ge (x := (k.size : Int)) (d := d) (y := 0) (by omega) hd (by omega)
   omega
theorem leftK_key {d : Int} (hd : 0 ≤ d) : ∀ (ks : List ByteArray) (l : Int), 0 ≤ leftK d ks l → ∀ (i : Nat) (k : ByteArray), ks[i]? = some k → (k.size : Int) < l
 | [], l, _, i, k, h => by simp at h
 | x :: ks, l, h0, i, k, h => by
  unfold leftK at h0
  split at h0
  ·omega
  ·have hle := leftK_le hd ks (l - toldN (x.size : Int) d 0)
   have ht := toldN_text (x := (x.size : Int)) (d := d) (y := 0) (by omega) hd (by omega)
   cases i with
   | zero =>
    simp at h
    subst h
    omega
   | succ i =>
    have := leftK_key hd ks _ h0 i k (by simpa using h)
    have := toldN_ge (x := (x.size : Int)) (d := d) (y := 0) (by omega) hd (by omega)
    omega
mutual
theorem leftV_le : ∀ (t : Vt) (d y l : Int), 0 ≤ d → 0 ≤ y → 0 ≤ l → leftV t d y l ≤ l
 | .mk k b r t ks vs, d, y, l, hd, hy, hl => by
  unfold leftV
  split
  ·omega
  ·have h1 := leftL_le vs ks d y (leftK d ks (l - toldN ((r.size : Int) + (t.size : Int)) d y)) hd hy
   have h2 := leftK_le hd ks (l - toldN ((r.size : Int) + (t.size : Int)) d y)
   have := toldN_ge (x := (r.size : Int) + (t.size : Int)) (d := d) (y := y) (by omega) hd hy
   omega
theorem leftL_le : ∀ (vs : List Vt) (ks : List ByteArray) (d y l : Int), 0 ≤ d → 0 ≤ y → leftL vs ks d y l ≤ l
 | [], ks, d, y, l, _, _ => by unfold leftL; exact Int.le_refl _
 | v :: vs, ks, d, y, l, hd, hy => by
  unfold leftL
  split
  ·exact Int.le_refl _
  ·have h1 := leftL_le vs ks.tail d y (leftV v (d + 1) (y + 21 + 2 * ((ks.headD ByteArray.empty).size : Int)) l) hd hy
   have h2 := leftV_le v (d + 1) (y + 21 + 2 * ((ks.headD ByteArray.empty).size : Int)) l (by omega) (by omega) (by omega)
   omega
end
theorem leftL_neg {d y l : Int} (vs : List Vt) (ks : List ByteArray) (h : l < 0) : leftL vs ks d y l = l := by
 cases vs with
 | nil => unfold leftL; rfl
 | cons v vs => unfold leftL; rw [if_pos h]
theorem drop_some {α : Type} {L : List α} {i : Nat} {x : α} (h : L[i]? = some x) : L.drop i = x :: L.drop (i + 1) := by
 obtain ⟨h1, h2⟩ := List.getElem?_eq_some_iff.mp h
 rw [List.drop_eq_getElem_cons h1, h2]
set_option maxRecDepth 10000 in
set_option maxHeartbeats 4000000 in
theorem left_ex : ∀ (n : Nat) (t : Vt), SizeOf.sizeOf t ≤ n → ∀ (d y l : Int), 1 ≤ d → d ≤ 65537 → 0 ≤ y → y ≤ d * 4294967313 → 0 ≤ l → l ≤ 2147483647 → ∀ (va : Value) (w : World), ValAt w t va →
  Calls Tryz.prog 23 #[va, .int .i64 d, .int .i64 y, .int .i64 l] w fun e w' => e = .returned (.int .i64 (leftV t d y l)) ∧ Below w.heap.size w w' := by
 intro n
 induction n with
 | zero =>
  intro t hs
  cases t
  simp at hs
 | succ n ih =>
  intro t hs d y l hd1 hd2 hy1 hy2 hl1 hl2 va w ha
  cases ha with
  | mk k b r t ks vs ko kc vo vc X hw hz hk hr hv =>
  have ih' := hid ih
  have hs' := hid hs
  have hr1 := hid hr
  have hv1 := hid hv
  have hk1 := hid hk
  have hz1 := hid hz
  obtain ⟨T, hT⟩ : ∃ T, Hid (leftV (.mk k b r t ks vs) d y l = T) := ⟨_, rfl⟩
  rw [hT.out]
  obtain ⟨N, hN⟩ : ∃ N, Hid (ks.length = N) := ⟨_, rfl⟩
  obtain ⟨M, hM⟩ : ∃ M, Hid (vs.length = M) := ⟨_, rfl⟩
  rw [hN.out, hM.out]
  have hMi : (M : Int) ≤ 9223372036854775807 := by have := hz1.out.2.2.2; rw [hM.out] at this; unfold capT at this; omega
  have hNi : (N : Int) ≤ 9223372036854775807 := by have := hz1.out.2.2.1; rw [hN.out] at this; unfold capT at this; omega
  have hrs : (r.size : Int) ≤ 140737488351232 := by have := hz1.out.1; unfold capT at this; omega
  have hts : (t.size : Int) ≤ 140737488351232 := by have := hz1.out.2.1; unfold capT at this; omega
  clear ih hs hk hr hv hz hw
  have A1 : Hid (At (w.alloc (.cells #[.int .i64 k, .bool b, .string r, .string t, .slice ko N kc, .slice vo M vc] 25)) w.heap.size #[.int .i64 k, .bool b, .string r, .string t, .slice ko N kc, .slice vo M vc] 25) := At.new _ _ _
  have B1 : Hid (Below w.heap.size w (w.alloc (.cells #[.int .i64 k, .bool b, .string r, .string t, .slice ko N kc, .slice vo M vc] 25))) := (Below.refl _ w).alloc (Nat.le_refl _) _
  by_cases hdp : 65536 < d
  ·have hTm : T = -1 := by rw [← hT.out]; unfold leftV; rw [if_pos hdp]
   subst hTm
   have e1 : decide (65536 < d) = true := by simp [hdp]
   go_enter Tryz.func23, Tryz.ntmps23
   go_wp2
   go_ret
   exact ⟨rfl, B1.out⟩
  ·have e1 : decide (65536 < d) = false := by simp; omega
   obtain ⟨Q, hQ⟩ : ∃ Q, Hid (toldN ((r.size : Int) + (t.size : Int)) d y = Q) := ⟨_, rfl⟩
   have htl := hid (fun u => told_calls ((r.size : Int) + (t.size : Int)) d y (by omega) (by omega) (by omega) (by omega) hy1 (by omega) u)
   rw [hQ.out] at htl
   have hQ1 : 0 ≤ Q := by rw [← hQ.out]; exact toldN_ge (by omega) (by omega) hy1
   have hQ2 : Q ≤ 4503599627370496 := by rw [← hQ.out]; have := toldN_le (x := (r.size : Int) + (t.size : Int)) (d := d) (y := y) (by omega) (by omega) hy1; omega
   have hT2 : Hid (leftL vs ks d y (leftK d ks (l - Q)) = T) := by
    show _ = _
    rw [← hT.out, ← hQ.out]
    conv => rhs; unfold leftV
    rw [if_neg hdp]
   clear hT hQ
   obtain ⟨L0, hL0⟩ : ∃ L0, l - Q = L0 := ⟨_, rfl⟩
   rw [hL0] at hT2
   have hL1 : L0 ≤ 2147483647 := by omega
   have hL2 : -4503599627370496 ≤ L0 := by omega
   obtain ⟨LK, hLK⟩ : ∃ LK, Hid (leftK d ks L0 = LK) := ⟨_, rfl⟩
   rw [hLK.out] at hT2
   go_enter Tryz.func23, Tryz.ntmps23
   go_upto_region 3 with fail
   generalize w.alloc (.cells #[.int .i64 k, .bool b, .string r, .string t, .slice ko N kc, .slice vo M vc] 25) = W at A1 B1 ⊢
   have c2 : W.cell? ⟨w.heap.size, 2, none⟩ = some (.string r) := A1.out.cell 2
   have c3 : W.cell? ⟨w.heap.size, 3, none⟩ = some (.string t) := A1.out.cell 3
   have c4 : W.cell? ⟨w.heap.size, 4, none⟩ = some (.slice ko N kc) := A1.out.cell 4
   have c5 : W.cell? ⟨w.heap.size, 5, none⟩ = some (.slice vo M vc) := A1.out.cell 5
   go_wp2_with fail
   refine Calls.mono (htl.out _) ?_
   rintro e w1 ⟨rfl, hw1⟩
   rw [hw1]
   clear hw1 w1 htl
   have hk2 := hid (hk1.out.kept (w' := W) (B1.out))
   have hL0h := hid hL0
   clear hL0
   go_wp2_with fail
   go_loop [3, 9] (fun ll ii => ∃ (i : Nat) (x : Int), i ≤ N ∧ ii = .int .i64 (i : Int) ∧ ll = .int .i64 x ∧ x ≤ 2147483647 ∧ -4503599627370496 ≤ x ∧ Hid (leftK d (ks.drop i) x = LK)) (fun _ ii => N - (intOf ii).toNat)
   case atStart => exact ⟨0, L0, Nat.zero_le _, rfl, by rw [hL0h.out], hL1, hL2, hLK⟩
   case round =>
    obtain ⟨i, x, hi, rfl, rfl, hx1, hx2, hI⟩ := hrel
    by_cases hlt : i < N
    ·have hli : (i : Int) < (N : Int) := by omega
     by_cases hx : 0 ≤ x
     ·obtain ⟨sk, hsk⟩ : ∃ sk, Hid (ks[i]? = some sk) := ⟨_, List.getElem?_eq_getElem (by rw [hN.out]; exact hlt)⟩
      obtain ⟨hkz, gk, ok, rfl, hgk, s1⟩ := hk2.out i sk hsk.out
      have ad1 : (⟨gk, ok, none⟩ : Addr).add i = ⟨gk, ok + i, none⟩ := by by_cases h : i = 0 <;> simp [Addr.add, h]
      unfold capT at hkz
      obtain ⟨q, hq⟩ : ∃ q, Hid (toldN (sk.size : Int) d 0 = q) := ⟨_, rfl⟩
      have htl := hid (fun u => told_calls (sk.size : Int) d 0 (by omega) (by omega) (by omega) (by omega) (by omega) (by omega) u)
      rw [hq.out] at htl
      have hq1 : 0 ≤ q := by rw [← hq.out]; exact toldN_ge (by omega) (by omega) (by omega)
      have hq2 : q ≤ 4503599627370496 := by rw [← hq.out]; have := toldN_le (x := (sk.size : Int)) (d := d) (y := 0) (by omega) (by omega) (by omega); omega
      have hnx : Hid (leftK d (ks.drop (i + 1)) (x - q) = LK) := by
       show _ = _
       rw [← hI.out, drop_some hsk.out]
       conv => rhs; unfold leftK
       rw [if_neg (by omega), hq.out]
      clear hI
      go_wp2_with fail
      refine Calls.mono (htl.out _) ?_
      rintro e w1 ⟨rfl, hw1⟩
      rw [hw1]
      clear hw1 w1 htl
      go_wp2
      go_round
      case rel => exact ⟨i + 1, x - q, by omega, by simp, rfl, by omega, by omega, hnx⟩
      case measure => simp [intOf]; omega
     ·have hxn : x < 0 := by omega
      have hfin : LK = x := by rw [← hI.out]; exact leftK_neg _ hxn
      subst hfin
      clear hI hi
      go_wp2_with fail
      go_loopw [3, 10] (fun ll ii wr => ∃ (i : Nat) (x : Int), i ≤ M ∧ ii = .int .i64 (i : Int) ∧ ll = .int .i64 x ∧ x ≤ LK ∧ Hid (leftL (vs.drop i) (ks.drop i) d y x = T) ∧ Hid (At wr w.heap.size #[.int .i64 k, .bool b, .string r, .string t, .slice ko N kc, .slice vo M vc] 25) ∧ Hid (Below w.heap.size w wr)) (fun _ ii _ => M - (intOf ii).toNat)
      case atStart => exact ⟨0, LK, Nat.zero_le _, rfl, rfl, Int.le_refl _, hT2, A1, B1⟩
      case round =>
       obtain ⟨i, x, hi, rfl, rfl, hxl, hI, hA, hb⟩ := hrel
       clear c2 c3 c4 c5
       have c4 := hA.out.cell 4
       have c5 := hA.out.cell 5
       simp only [List.getElem?_toArray, List.getElem?_cons_zero, List.getElem?_cons_succ] at c4 c5
       by_cases hlt : i < M
       ·have hli : (i : Int) < (M : Int) := by omega
        by_cases hx : 0 ≤ x
        ·exfalso
         omega
        ·have hxn : x < 0 := by omega
         have hfin : T = x := by rw [← hI.out]; exact leftL_neg _ _ hxn
         subst hfin
         go_wp2
         go_ret
         exact ⟨rfl, hb.out⟩
       ·have hge : (M : Int) ≤ (i : Int) := by omega
        have hfin : T = x := by
         rw [← hI.out, List.drop_of_length_le (by rw [hM.out]; omega)]
         unfold leftL
         rfl
        subst hfin
        go_wp2
        go_ret
        exact ⟨rfl, hb.out⟩
    ·have hge : (N : Int) ≤ (i : Int) := by omega
     have hfin : LK = x := by
      rw [← hI.out, List.drop_of_length_le (by rw [hN.out]; omega)]
      rfl
     subst hfin
     clear hI
     obtain rfl : N = i := by omega
     go_wp2_with fail
     go_loopw [3, 10] (fun ll ii wr => ∃ (i : Nat) (x : Int), i ≤ M ∧ ii = .int .i64 (i : Int) ∧ ll = .int .i64 x ∧ x ≤ LK ∧ Hid (leftL (vs.drop i) (ks.drop i) d y x = T) ∧ Hid (At wr w.heap.size #[.int .i64 k, .bool b, .string r, .string t, .slice ko N kc, .slice vo M vc] 25) ∧ Hid (Below w.heap.size w wr)) (fun _ ii _ => M - (intOf ii).toNat)
     case atStart => exact ⟨0, LK, Nat.zero_le _, rfl, rfl, Int.le_refl _, hT2, A1, B1⟩
     case round =>
      obtain ⟨i, x, hi, rfl, rfl, hxl, hI, hA, hb⟩ := hrel
      clear c2 c3 c4 c5
      have c4 := hA.out.cell 4
      have c5 := hA.out.cell 5
      simp only [List.getElem?_toArray, List.getElem?_cons_zero, List.getElem?_cons_succ] at c4 c5
      by_cases hlt : i < M
      ·have hli : (i : Int) < (M : Int) := by omega
       by_cases hx : 0 ≤ x
       ·have hLK0 : 0 ≤ LK := by omega
        obtain ⟨u1, hu1⟩ : ∃ u, Hid (vs[i]? = some u) := ⟨_, List.getElem?_eq_getElem (by rw [hM.out]; exact hlt)⟩
        obtain ⟨g, o, rfl, hg, hrg, hl1⟩ := row_range (hr1.out.kept hb.out) (i := i) (by rw [hM.out]; exact hlt)
        obtain ⟨L1, hL1x⟩ : ∃ L, Hid ((X i).toList = L) := ⟨_, rfl⟩
        rw [hL1x.out] at hrg hl1
        have z1 : (Tryz.prog.info? 25).map (·.size) = some L1.length := by rw [hl1]; exact sizeVl
        have v1 : Hid (ValAt wr u1 (.agg L1.toArray)) := by
         have := (hv1.out i u1 hu1.out).kept hb.out
         rw [← hL1x.out, Array.toArray_toList]
         exact this
        have hrgk := hid hrg
        clear hrg hl1
        by_cases hiN : i < N
        ·have hiNI : (i : Int) < (N : Int) := by omega
         obtain ⟨sk, hsk⟩ : ∃ sk, Hid (ks[i]? = some sk) := ⟨_, List.getElem?_eq_getElem (by rw [hN.out]; exact hiN)⟩
         obtain ⟨-, gk, ok, rfl, hgk, cgk⟩ := hk1.out i sk hsk.out
         have s1 := (hb.out.cell (p := ⟨gk, ok + i, none⟩) hgk).trans cgk
         have ad1 : (⟨gk, ok, none⟩ : Addr).add i = ⟨gk, ok + i, none⟩ := by by_cases h : i = 0 <;> simp [Addr.add, h]
         have hks : (sk.size : Int) < L0 := leftK_key (d := d) (by omega) ks L0 (by rw [hLK.out]; exact hLK0) i sk hsk.out
         clear cgk
         obtain ⟨q, hq⟩ : ∃ q, Hid (leftV u1 (d + 1) (y + 21 + 2 * (sk.size : Int)) x = q) := ⟨_, rfl⟩
         have hqx : q ≤ x := by rw [← hq.out]; exact leftV_le _ _ _ _ (by omega) (by omega) hx
         have hcall : Hid (Calls Tryz.prog 23 #[.agg L1.toArray, .int .i64 (d + 1), .int .i64 (y + 21 + 2 * (sk.size : Int)), .int .i64 x] wr fun e w' => e = .returned (.int .i64 q) ∧ Below wr.heap.size wr w') := by
          have hsz := kid_size (k := k) (b := b) (r := r) (t := t) (ks := ks) hu1.out
          have h := ih'.out u1 (by have := hs'.out; omega) (d + 1) (y + 21 + 2 * (sk.size : Int)) x (by omega) (by omega) (by omega) (by omega) hx (by omega) _ wr v1.out
          rw [hq.out] at h
          exact h
         have hnx : Hid (leftL (vs.drop (i + 1)) (ks.drop (i + 1)) d y q = T) := by
          show _ = _
          rw [← hI.out, drop_some hu1.out]
          conv => rhs; unfold leftL
          rw [if_neg (by omega), ← hq.out, List.tail_drop]
          rw [drop_some hsk.out]
          rfl
         go_wp2_with (refine wpList_load_want 25 _ g (o + i * 6) L1 _ hrgk.out Tryz.underlying25 z1 rfl rfl rfl (by rfl) ?_)
         refine Calls.mono hcall.out ?_
         rintro e w5 ⟨rfl, hbb⟩
         have J1 := hid (hA.out.keptAll hbb)
         have Jb := hid (hb.out.trans (hbb.mono hb.out.size))
         clear hbb hcall c5 hrgk
         go_wp2
         go_roundw
         case rel => exact ⟨i + 1, q, by omega, by simp, rfl, by omega, hnx, J1, Jb⟩
         case measure => simp [intOf]; omega
        ·have hiNI : (N : Int) ≤ (i : Int) := by omega
         obtain ⟨q, hq⟩ : ∃ q, Hid (leftV u1 (d + 1) (y + 21) x = q) := ⟨_, rfl⟩
         have hqx : q ≤ x := by rw [← hq.out]; exact leftV_le _ _ _ _ (by omega) (by omega) hx
         have hcall : Hid (Calls Tryz.prog 23 #[.agg L1.toArray, .int .i64 (d + 1), .int .i64 (y + 21), .int .i64 x] wr fun e w' => e = .returned (.int .i64 q) ∧ Below wr.heap.size wr w') := by
          have hsz := kid_size (k := k) (b := b) (r := r) (t := t) (ks := ks) hu1.out
          have h := ih'.out u1 (by have := hs'.out; omega) (d + 1) (y + 21) x (by omega) (by omega) (by omega) (by omega) hx (by omega) _ wr v1.out
          rw [hq.out] at h
          exact h
         have hnx : Hid (leftL (vs.drop (i + 1)) (ks.drop (i + 1)) d y q = T) := by
          show _ = _
          rw [← hI.out, drop_some hu1.out]
          conv => rhs; unfold leftL
          rw [if_neg (by omega), ← hq.out, List.tail_drop]
          have e0 : ks.drop i = [] := List.drop_of_length_le (by rw [hN.out]; omega)
          rw [e0]
          simp
         go_wp2_with (refine wpList_load_want 25 _ g (o + i * 6) L1 _ hrgk.out Tryz.underlying25 z1 rfl rfl rfl (by rfl) ?_)
         refine Calls.mono hcall.out ?_
         rintro e w5 ⟨rfl, hbb⟩
         have J1 := hid (hA.out.keptAll hbb)
         have Jb := hid (hb.out.trans (hbb.mono hb.out.size))
         clear hbb hcall c5 hrgk
         go_wp2
         go_roundw
         case rel => exact ⟨i + 1, q, by omega, by simp, rfl, by omega, hnx, J1, Jb⟩
         case measure => simp [intOf]; omega
       ·have hxn : x < 0 := by omega
        have hfin : T = x := by rw [← hI.out]; exact leftL_neg _ _ hxn
        subst hfin
        go_wp2
        go_ret
        exact ⟨rfl, hb.out⟩
      ·have hge : (M : Int) ≤ (i : Int) := by omega
       have hfin : T = x := by
        rw [← hI.out, List.drop_of_length_le (by rw [hM.out]; omega)]
        unfold leftL
        rfl
       subst hfin
       go_wp2
       go_ret
       exact ⟨rfl, hb.out⟩
theorem left_calls (t : Vt) (d y l : Int) (h1 : 1 ≤ d) (h2 : d ≤ 65537) (h3 : 0 ≤ y) (h4 : y ≤ d * 4294967313) (h5 : 0 ≤ l) (h6 : l ≤ 2147483647) (va : Value) (w : World) (ha : ValAt w t va) :
  Calls Tryz.prog 23 #[va, .int .i64 d, .int .i64 y, .int .i64 l] w fun e w' => e = .returned (.int .i64 (leftV t d y l)) ∧ Below w.heap.size w w' :=
 left_ex (SizeOf.sizeOf t) t (Nat.le_refl _) d y l h1 h2 h3 h4 h5 h6 va w ha
/-- Is it beyond the bound? -/
def byd (t : Vt) : Bool := decide (leftV t 1 0 2147483647 < 0)
set_option maxRecDepth 10000 in
set_option maxHeartbeats 1000000 in
theorem beyond_calls (t : Vt) (B : Bool) (hB : Hid (byd t = B)) (va : Value) (w : World) (ha : ValAt w t va) :
  Calls Tryz.prog 8 #[va] w fun e w' => e = .returned (.bool B) ∧ Below w.heap.size w w' := by
 have hc := hid (fun u (hu : ValAt u t va) => left_calls t 1 0 2147483647 (by decide) (by decide) (by decide) (by decide) (by decide) (by decide) va u hu)
 have hB' : B = decide (leftV t 1 0 2147483647 < 0) := hB.out.symm
 generalize leftV t 1 0 2147483647 = x at hc hB'
 subst hB'
 clear hB
 have ha' := hid ha
 cases ha with
 | mk k b r t ks vs ko kc vo vc X hw hz hk hr hv =>
 clear hw hz hk hr hv
 go_enter Tryz.func8, Tryz.ntmps8
 go_wp2_with fail
 obtain ⟨W, hW⟩ : ∃ W, w.alloc (.cells #[.int .i64 k, .bool b, .string r, .string t, .slice ko ks.length kc, .slice vo vs.length vc] 25) = W := ⟨_, rfl⟩
 have b0 : Below w.heap.size w W := by rw [← hW]; exact (Below.refl _ _).alloc (Nat.le_refl _) _
 rw [hW]
 refine Calls.mono (hc.out W (ha'.out.kept b0)) ?_
 rintro e w1 ⟨rfl, hb⟩
 have hb' := hid (b0.trans (hb.mono b0.size))
 clear hb hc b0 hW ha'
 go_wp2
 go_ret
 exact ⟨rfl, hb'.out⟩
end Go.Proofs.YtlhbgfhmcjaabaaGreatDoor

/-
 A text as numbers, and numbers as a text.
-/
namespace Go.Proofs.YtlhbgfhmcjaabaaGreatDoor
/-- The bytes of a text. -/
def byts (s : ByteArray) : List Nat := s.data.toList.map UInt8.toNat
theorem byts_length (s : ByteArray) : (byts s).length = s.size := by
 unfold byts
 rw [List.length_map, Array.length_toList]
 rfl
theorem byts_append (a b : ByteArray) : byts (a ++ b) = byts a ++ byts b := by
 unfold byts
 rw [ByteArray.data_append, Array.toList_append, List.map_append]
/-- The byte number i of a text. -/
def byt (s : ByteArray) (i : Nat) : Nat := (s.data.toList.getD i 0).toNat
theorem byts_get (s : ByteArray) (i : Nat) (h : i < s.size) : (byts s)[i]? = some (byt s i) := by
 have h' : i < s.data.toList.length := by rw [Array.length_toList]; exact h
 unfold byts byt
 rw [List.getElem?_map, List.getD_eq_getElem?_getD, List.getElem?_eq_getElem h']
 rfl
theorem byts_take (s : ByteArray) (i : Nat) (h : i < s.size) : (byts s).take (i + 1) = (byts s).take i ++ [byt s i] := by
 rw [List.take_add_one, byts_get s i h]
 rfl
theorem byts_drop (s : ByteArray) (i : Nat) (h : i < s.size) : (byts s).drop i = byt s i :: (byts s).drop (i + 1) := by
 have h1 := byts_get s i h
 have hl : i < (byts s).length := by rw [byts_length]; exact h
 rw [List.getElem?_eq_getElem hl] at h1
 rw [List.drop_eq_getElem_cons hl]
 rw [Option.some.inj h1]
theorem byts_whole (s : ByteArray) : (byts s).take s.size = byts s := List.take_of_length_le (by rw [byts_length]; exact Nat.le_refl _)
theorem byts_extract (s : ByteArray) (a b : Nat) : byts (s.extract a b) = ((byts s).drop a).take (b - a) := by
 unfold byts
 have e : (s.extract a b).data.toList = (s.data.toList.drop a).take (b - a) := by
  rw [ByteArray.data_extract, Array.toList_extract]
 rw [e, List.map_take, List.map_drop]
/-- The text of these bytes. -/
def mkS (l : List Nat) : ByteArray := ⟨(l.map UInt8.ofNat).toArray⟩
theorem mkS_size (l : List Nat) : (mkS l).size = l.length := by show (l.map UInt8.ofNat).toArray.size = _; simp
theorem byts_mkS {l : List Nat} (h : ∀ x ∈ l, x < 256) : byts (mkS l) = l := by
 unfold byts mkS
 simp only [List.map_map]
 conv => rhs; rw [← List.map_id l]
 apply List.map_congr_left
 intro x hx
 have := h x hx
 simp [UInt8.toNat_ofNat']
 omega
theorem mkS_byts (s : ByteArray) : mkS (byts s) = s := by
 apply ByteArray.ext
 apply Array.toList_inj.1
 show ((byts s).map UInt8.ofNat) = s.data.toList
 unfold byts
 rw [List.map_map]
 conv => rhs; rw [← List.map_id s.data.toList]
 apply List.map_congr_left
 intro x _
 simp
theorem byts_inj {a b : ByteArray} (h : byts a = byts b) : a = b := by rw [← mkS_byts a, ← mkS_byts b, h]
end Go.Proofs.YtlhbgfhmcjaabaaGreatDoor

/-
 Utf8Math, Utf8Forms, Utf8State, Utf8Rows, Utf8Read, one behind the other.
-/
/- Which bytes may follow which, in numbers: the state behind some bytes, what a text tells, and the forms of characters. -/
namespace Go.Proofs.YtlhbgfhmcjaabaaGreatDoor
/-- How many bytes the form that has begun still lacks, and from where to where the next one may be. -/
structure Q5 where
 left : Nat
 lo : Nat
 hi : Nat
/-- The state: how many bytes came ahead of the first wrong one, whether one came, and the form. -/
structure St5 where
 good : Nat
 wrong : Bool
 q : Q5
def secLo (x : Nat) : Nat := if x = 224 then 160 else if x = 240 then 144 else 128
def secHi (x : Nat) : Nat := if x = 237 then 159 else if x = 244 then 143 else 191
def begQ (q : Q5) (x : Nat) : Option Q5 :=
 if 244 < x then none else if 240 ≤ x then some ⟨3, secLo x, secHi x⟩ else if 224 ≤ x then some ⟨2, secLo x, secHi x⟩ else if 194 ≤ x then some ⟨1, secLo x, secHi x⟩ else if 128 ≤ x then none else some q
def stp (q : Q5) (x : Nat) : Option Q5 := if q.left = 0 then begQ q x else if x < q.lo ∨ q.hi < x then none else some ⟨q.left - 1, 128, 191⟩
def tk (s : St5) (x : Nat) : St5 := if s.wrong then s else match stp s.q x with
 | some q => ⟨s.good + 1, false, q⟩
 | none => ⟨s.good, true, s.q⟩
def s5 : St5 := ⟨0, false, ⟨0, 0, 0⟩⟩
def runS (s : St5) (l : List Nat) : St5 := l.foldl tk s
def badI (s : St5) : Int := if s.wrong = true ∨ 0 < s.q.left then (s.good : Int) else -1
/-- What Bad says of a text. -/
def badOf (z : ByteArray) : Int := badI (runS s5 (byts z))
theorem runS_cons (s : St5) (x : Nat) (l : List Nat) : runS s (x :: l) = runS (tk s x) l := rfl
theorem runS_append (s : St5) (a b : List Nat) : runS s (a ++ b) = runS (runS s a) b := List.foldl_append ..
theorem runS_snoc (s : St5) (a : List Nat) (x : Nat) : runS s (a ++ [x]) = tk (runS s a) x := by rw [runS_append]; rfl
theorem tk_wrong {s : St5} (h : s.wrong = true) (x : Nat) : tk s x = s := by simp [tk, h]
theorem runS_wrong {s : St5} (h : s.wrong = true) (l : List Nat) : runS s l = s := by
 induction l with
 | nil => rfl
 | cons x l ih => rw [runS_cons, tk_wrong h, ih]
theorem tk_some {s : St5} (h : s.wrong = false) {x : Nat} {q : Q5} (hq : stp s.q x = some q) : tk s x = ⟨s.good + 1, false, q⟩ := by simp [tk, h, hq]
theorem tk_none {s : St5} (h : s.wrong = false) {x : Nat} (hq : stp s.q x = none) : tk s x = ⟨s.good, true, s.q⟩ := by simp [tk, h, hq]
/-- What a beginning of a form is, with the state behind it and the number that its bytes hold so far. -/
def FormAt (b : List Nat) (q : Q5) (r : Nat) : Prop :=
 match b with
 | [] => q.left = 0
 | [x] => (194 ≤ x ∧ x ≤ 223 ∧ q = ⟨1, secLo x, secHi x⟩ ∧ r = x - 192) ∨ (224 ≤ x ∧ x ≤ 239 ∧ q = ⟨2, secLo x, secHi x⟩ ∧ r = x - 224) ∨ (240 ≤ x ∧ x ≤ 244 ∧ q = ⟨3, secLo x, secHi x⟩ ∧ r = x - 240)
 | [x, y] => secLo x ≤ y ∧ y ≤ secHi x ∧ ((224 ≤ x ∧ x ≤ 239 ∧ q = ⟨1, 128, 191⟩ ∧ r = (x - 224) * 64 + (y - 128)) ∨ (240 ≤ x ∧ x ≤ 244 ∧ q = ⟨2, 128, 191⟩ ∧ r = (x - 240) * 64 + (y - 128)))
 | [x, y, z] => secLo x ≤ y ∧ y ≤ secHi x ∧ 128 ≤ z ∧ z ≤ 191 ∧ 240 ≤ x ∧ x ≤ 244 ∧ q = ⟨1, 128, 191⟩ ∧ r = ((x - 240) * 64 + (y - 128)) * 64 + (z - 128)
 | _ => False
/-- The number that the next byte makes. -/
def nextR (b : List Nat) (r x left : Nat) : Nat := if b = [] then x &&& (127 >>> left) else r * 64 + x % 64
def sizeN (c : Nat) : Nat := if (55296 ≤ c ∧ c ≤ 57343) ∨ 1114111 < c then 0 else if c < 128 then 1 else if c < 2048 then 2 else if c < 65536 then 3 else 4
/-- The bytes of a character (of what is none: no bytes). -/
def formL (c : Nat) : List Nat :=
 if sizeN c = 1 then [c] else if sizeN c = 2 then [192 + c / 64, 128 + c % 64] else if sizeN c = 3 then [224 + c / 4096, 128 + c / 64 % 64, 128 + c % 64] else if sizeN c = 4 then [240 + c / 262144, 128 + c / 4096 % 64, 128 + c / 64 % 64, 128 + c % 64] else []
set_option maxRecDepth 100000 in
theorem mask_first {x : Nat} (hx : x < 256) : (x < 128 → x &&& (127 >>> 0) = x) ∧ (194 ≤ x → x ≤ 223 → x &&& (127 >>> 1) = x - 192) ∧ (224 ≤ x → x ≤ 239 → x &&& (127 >>> 2) = x - 224) ∧ (240 ≤ x → x ≤ 244 → x &&& (127 >>> 3) = x - 240) := by
 revert x; decide
theorem secLo_ge (x : Nat) : 128 ≤ secLo x := by unfold secLo; split <;> (try split) <;> omega
theorem sec_facts (x : Nat) : (x = 224 → secLo x = 160) ∧ (x = 240 → secLo x = 144) ∧ (x = 237 → secHi x = 159) ∧ (x = 244 → secHi x = 143) := by
 refine ⟨?_, ?_, ?_, ?_⟩ <;> rintro rfl <;> rfl
theorem secHi_le (x : Nat) : secHi x ≤ 191 := by unfold secHi; split <;> (try split) <;> omega
set_option maxRecDepth 10000 in
/-- A byte more, that fits: either the form is whole, or it is a longer beginning. -/
theorem form_step {b : List Nat} {q q' : Q5} {r x : Nat} (h : FormAt b q r) (hx : x < 256) (hs : stp q x = some q') :
  (q'.left = 0 ∧ b ++ [x] = formL (nextR b r x q'.left) ∧ sizeN (nextR b r x q'.left) = b.length + 1) ∨ (0 < q'.left ∧ FormAt (b ++ [x]) q' (nextR b r x q'.left)) := by
 obtain ⟨m0, m1, m2, m3⟩ := mask_first hx
 match b, h with
 | [], h =>
  have h : q.left = 0 := h
  simp only [stp, h, if_true, begQ] at hs
  simp only [nextR, if_true, List.nil_append]
  split at hs
  ·cases hs
  ·split at hs
   ·cases hs
    right; refine ⟨by simp, .inr (.inr ⟨by omega, by omega, rfl, ?_⟩)⟩
    exact m3 (by omega) (by omega)
   ·split at hs
    ·cases hs
     right; refine ⟨by simp, .inr (.inl ⟨by omega, by omega, rfl, ?_⟩)⟩
     exact m2 (by omega) (by omega)
    ·split at hs
     ·cases hs
      right; refine ⟨by simp, .inl ⟨by omega, by omega, rfl, ?_⟩⟩
      exact m1 (by omega) (by omega)
     ·split at hs
      ·cases hs
      ·cases hs
       left
       rw [h, m0 (by omega)]
       have e : sizeN x = 1 := by unfold sizeN; rw [if_neg (by omega), if_pos (by omega)]
       exact ⟨rfl, by unfold formL; rw [if_pos e], e⟩
 | [y], h =>
  have hl := secLo_ge y
  have hh := secHi_le y
  rcases h with ⟨h1, h2, rfl, rfl⟩ | ⟨h1, h2, rfl, rfl⟩ | ⟨h1, h2, rfl, rfl⟩
  ·simp only [stp] at hs
   rw [if_neg (by decide)] at hs
   split at hs
   ·cases hs
   ·cases hs
    left
    simp only [nextR]
    rw [if_neg (by simp)]
    have e : sizeN ((y - 192) * 64 + x % 64) = 2 := by unfold sizeN; rw [if_neg (by omega), if_neg (by omega), if_pos (by omega)]
    refine ⟨by simp, ?_, e⟩
    unfold formL
    rw [if_neg (by omega), if_pos e]
    simp
    omega
  ·simp only [stp] at hs
   rw [if_neg (by decide)] at hs
   split at hs
   ·cases hs
   ·cases hs
    right
    simp only [nextR]
    rw [if_neg (by simp)]
    refine ⟨by simp, ?_⟩
    show secLo y ≤ x ∧ _
    exact ⟨by omega, by omega, .inl ⟨h1, h2, rfl, by omega⟩⟩
  ·simp only [stp] at hs
   rw [if_neg (by decide)] at hs
   split at hs
   ·cases hs
   ·cases hs
    right
    simp only [nextR]
    rw [if_neg (by simp)]
    refine ⟨by simp, ?_⟩
    show secLo y ≤ x ∧ _
    exact ⟨by omega, by omega, .inr ⟨h1, h2, rfl, by omega⟩⟩
 | [y, z], h =>
  obtain ⟨k1, k2, h⟩ := h
  have hl := secLo_ge y
  have hh := secHi_le y
  rcases h with ⟨h1, h2, rfl, rfl⟩ | ⟨h1, h2, rfl, rfl⟩
  ·simp only [stp] at hs
   rw [if_neg (by decide)] at hs
   split at hs
   ·cases hs
   ·cases hs
    left
    simp only [nextR]
    rw [if_neg (by simp)]
    have e : sizeN (((y - 224) * 64 + (z - 128)) * 64 + x % 64) = 3 := by
     obtain ⟨f1, f2, f3, f4⟩ := sec_facts y
     unfold sizeN
     rw [if_neg (by omega), if_neg (by omega), if_neg (by omega), if_pos (by omega)]
    refine ⟨by simp, ?_, e⟩
    unfold formL
    rw [if_neg (by omega), if_neg (by omega), if_pos e]
    simp
    omega
  ·simp only [stp] at hs
   rw [if_neg (by decide)] at hs
   split at hs
   ·cases hs
   ·cases hs
    right
    simp only [nextR]
    rw [if_neg (by simp)]
    refine ⟨by simp, ?_⟩
    show secLo y ≤ z ∧ _
    exact ⟨k1, k2, by omega, by omega, h1, h2, rfl, by omega⟩
 | [y, z, t], h =>
  obtain ⟨k1, k2, t1, t2, h1, h2, rfl, rfl⟩ := h
  have hl := secLo_ge y
  have hh := secHi_le y
  simp only [stp] at hs
  rw [if_neg (by decide)] at hs
  split at hs
  ·cases hs
  ·cases hs
   left
   simp only [nextR]
   rw [if_neg (by simp)]
   have e : sizeN ((((y - 240) * 64 + (z - 128)) * 64 + (t - 128)) * 64 + x % 64) = 4 := by
    obtain ⟨f1, f2, f3, f4⟩ := sec_facts y
    unfold sizeN
    rw [if_neg (by omega), if_neg (by omega), if_neg (by omega), if_neg (by omega)]
   refine ⟨by simp, ?_, e⟩
   unfold formL
   rw [if_neg (by omega), if_neg (by omega), if_neg (by omega), if_pos e]
   simp
   omega
theorem begQ_left {q q' : Q5} {x : Nat} (h : q.left = 0) (hb : begQ q x = some q') : q'.left ≤ 3 := by
 unfold begQ at hb
 split at hb
 ·cases hb
 ·split at hb
  ·cases hb; simp
  ·split at hb
   ·cases hb; simp
   ·split at hb
    ·cases hb; simp
    ·split at hb
     ·cases hb
     ·cases hb; omega
theorem stp_left {q q' : Q5} {x : Nat} (h : q.left ≤ 3) (hb : stp q x = some q') : q'.left ≤ 3 := by
 unfold stp at hb
 split at hb
 ·exact begQ_left (by assumption) hb
 ·split at hb
  ·cases hb
  ·cases hb; show q.left - 1 ≤ 3; omega
theorem tk_left {s : St5} {x : Nat} (h : s.q.left ≤ 3) : (tk s x).q.left ≤ 3 := by
 cases hw : s.wrong with
 | true => rw [tk_wrong hw]; exact h
 | false =>
  cases hs : stp s.q x with
  | none => rw [tk_none hw hs]; exact h
  | some q => rw [tk_some hw hs]; exact stp_left h hs
theorem runS_left {s : St5} (h : s.q.left ≤ 3) (l : List Nat) : (runS s l).q.left ≤ 3 := by
 induction l generalizing s with
 | nil => exact h
 | cons x l ih => exact ih (tk_left h)
theorem tk_good (s : St5) (x : Nat) : (tk s x).good ≤ s.good + 1 := by
 cases hw : s.wrong with
 | true => rw [tk_wrong hw]; omega
 | false =>
  cases hs : stp s.q x with
  | none => rw [tk_none hw hs]; show s.good ≤ _; omega
  | some q => rw [tk_some hw hs]; exact Nat.le_refl _
theorem runS_good (s : St5) (l : List Nat) : (runS s l).good ≤ s.good + l.length := by
 induction l generalizing s with
 | nil => exact Nat.le_refl _
 | cons x l ih => have h1 := ih (tk s x); have h2 := tk_good s x; show (runS (tk s x) l).good ≤ _; simp only [List.length_cons]; omega
theorem byt_at (s : ByteArray) (i : Nat) (h : i < s.size) : s[i].toNat = byt s i := by
 have h' : i < s.data.toList.length := by rw [Array.length_toList]; exact h
 unfold byt
 rw [List.getD_eq_getElem?_getD, List.getElem?_eq_getElem h']
 rfl
theorem byt_lt (s : ByteArray) (i : Nat) : byt s i < 256 := UInt8.toNat_lt _
/-- What a text tells from a place on, where r is what the form that began at p holds so far, and the next byte is the number i. -/
def tel (q : Q5) (p r i : Nat) : List Nat → List (Nat × Nat)
 | [] => []
 | x :: l => match stp q x with
  | none => []
  | some q' =>
   if q'.left = 0 then (p, if i = p then x &&& (127 >>> q'.left) else r * 64 + x % 64) :: tel q' (i + 1) (if i = p then x &&& (127 >>> q'.left) else r * 64 + x % 64) (i + 1) l
   else tel q' p (if i = p then x &&& (127 >>> q'.left) else r * 64 + x % 64) (i + 1) l
end Go.Proofs.YtlhbgfhmcjaabaaGreatDoor
/- A character's form, byte by byte. -/
namespace Go.Proofs.YtlhbgfhmcjaabaaGreatDoor
theorem sec_more (x : Nat) : (x ≠ 224 → x ≠ 240 → secLo x = 128) ∧ (x ≠ 237 → x ≠ 244 → secHi x = 191) := by
 constructor
 ·intro a b; unfold secLo; rw [if_neg a, if_neg b]
 ·intro a b; unfold secHi; rw [if_neg a, if_neg b]
end Go.Proofs.YtlhbgfhmcjaabaaGreatDoor
/- What the methods of utf8's state do with it. -/
namespace Go.Proofs.YtlhbgfhmcjaabaaGreatDoor
open Go.RowKit
/-- All but block b is as it was. -/
def Only (b : Nat) (w w' : World) : Prop := Below b w w' ∧ w'.heap.size = w.heap.size ∧ ∀ c, c ≠ b → w'.heap[c]? = w.heap[c]?
theorem Only.refl (b : Nat) (w : World) : Only b w w := ⟨Below.refl _ _, rfl, fun _ _ => rfl⟩
theorem Only.trans {b : Nat} {w w1 w2 : World} (h : Only b w w1) (k : Only b w1 w2) : Only b w w2 := ⟨h.1.trans k.1, k.2.1.trans h.2.1, fun c hc => (k.2.2 c hc).trans (h.2.2 c hc)⟩
theorem Only.set {b : Nat} {w w' : World} (h : Only b w w') (i : Nat) (v : Value) : Only b w (w'.setCell ⟨b, i, none⟩ v) :=
 ⟨h.1.setCell (p := ⟨b, i, none⟩) (Nat.le_refl _) _, by simp [h.2.1], fun c hc => (Below.heap_setCell w' ⟨b, i, none⟩ v c hc).trans (h.2.2 c hc)⟩
theorem Only.drew {b : Nat} {w w' : World} (h : Only b w w') : Only b w w'.drew := ⟨h.1.drew, h.2.1, h.2.2⟩
theorem Only.below {b k : Nat} {w w' : World} (h : Only b w w') (hk : k ≤ b) : Below k w w' := h.1.mono hk
theorem Only.at {b c : Nat} {w w' : World} (h : Only b w w') {cs : Array Value} {t : TypeId} (ha : At w c cs t) (hc : c ≠ b) : At w' c cs t := (h.2.2 c hc).trans ha
/-- The cells of a state. -/
def stC (s : St5) : Array Value := #[.int .i64 (s.good : Int), .bool s.wrong, .int .i64 (s.q.left : Int), .int .u8 (s.q.lo : Int), .int .u8 (s.q.hi : Int)]
set_option maxRecDepth 10000 in
theorem second_calls (x : Nat) (w : World) : Calls Tryz.prog 145 #[.int .u8 (x : Int)] w fun e w' => e = .returned (.tuple #[.int .u8 (secLo x : Int), .int .u8 (secHi x : Int)]) ∧ w' = w := by
 by_cases h1 : x = 224
 ·subst h1
  go_enter Tryz.func145, Tryz.ntmps145
  go_wp2
  exact bodyPost_ret (v := .tuple #[.int .u8 160, .int .u8 191]) (by simp [results, Tryz.results145, go_sem]; try decide) rfl ⟨rfl, rfl⟩
 by_cases h2 : x = 237
 ·subst h2
  go_enter Tryz.func145, Tryz.ntmps145
  go_wp2
  exact bodyPost_ret (v := .tuple #[.int .u8 128, .int .u8 159]) (by simp [results, Tryz.results145, go_sem]; try decide) rfl ⟨rfl, rfl⟩
 by_cases h3 : x = 240
 ·subst h3
  go_enter Tryz.func145, Tryz.ntmps145
  go_wp2
  exact bodyPost_ret (v := .tuple #[.int .u8 144, .int .u8 191]) (by simp [results, Tryz.results145, go_sem]; try decide) rfl ⟨rfl, rfl⟩
 by_cases h4 : x = 244
 ·subst h4
  go_enter Tryz.func145, Tryz.ntmps145
  go_wp2
  exact bodyPost_ret (v := .tuple #[.int .u8 128, .int .u8 143]) (by simp [results, Tryz.results145, go_sem]; try decide) rfl ⟨rfl, rfl⟩
 have e1 : secLo x = 128 := by unfold secLo; rw [if_neg h1, if_neg h3]
 have e2 : secHi x = 191 := by unfold secHi; rw [if_neg h2, if_neg h4]
 rw [e1, e2]
 have i1 : ¬ ((x : Int) = 224) := by omega
 have i2 : ¬ ((x : Int) = 237) := by omega
 have i3 : ¬ ((x : Int) = 240) := by omega
 have i4 : ¬ ((x : Int) = 244) := by omega
 clear e1 e2
 go_enter Tryz.func145, Tryz.ntmps145
 go_wp2
 exact bodyPost_ret (v := .tuple #[.int .u8 128, .int .u8 191]) (by simp [results, Tryz.results145, go_sem]; try decide) rfl ⟨rfl, rfl⟩
set_option maxRecDepth 10000 in
set_option maxHeartbeats 1000000 in
theorem begin_calls (b : Nat) (t : TypeId) (s : St5) (x : Nat) (w : World) (hA : At w b (stC s) t) (hl : s.q.left = 0) :
  Calls Tryz.prog 135 #[.pointer (some ⟨b, 0, none⟩), .int .u8 (x : Int)] w fun e w' => e = .returned (.bool (begQ s.q x).isSome) ∧ Only b w w' ∧ At w' b (stC ⟨s.good, s.wrong, (begQ s.q x).getD s.q⟩) t := by
 have hA' := hid hA
 have c2 : w.cell? ⟨b, 2, none⟩ = some (.int .i64 0) := by rw [hA.cell]; simp [stC, hl]
 have c3 : w.cell? ⟨b, 3, none⟩ = some (.int .u8 (s.q.lo : Int)) := by rw [hA.cell]; simp [stC]
 have c4 : w.cell? ⟨b, 4, none⟩ = some (.int .u8 (s.q.hi : Int)) := by rw [hA.cell]; simp [stC]
 have f2 := hA.frozen 2
 have f3 := hA.frozen 3
 have f4 := hA.frozen 4
 clear hA
 by_cases h1 : 244 < x
 ·have e : begQ s.q x = none := by unfold begQ; rw [if_pos h1]
  have i1 : (244 : Int) < (x : Int) := by omega
  rw [e]
  clear e
  go_enter Tryz.func135, Tryz.ntmps135
  go_wp2
  go_ret
  exact ⟨rfl, Only.refl _ _, hA'.out⟩
 have i1 : ¬ (244 : Int) < (x : Int) := by omega
 by_cases h2 : 240 ≤ x
 ·have e : begQ s.q x = some ⟨3, secLo x, secHi x⟩ := by unfold begQ; rw [if_neg h1, if_pos h2]
  have i2 : (240 : Int) ≤ (x : Int) := by omega
  rw [e]
  clear e
  go_enter Tryz.func135, Tryz.ntmps135
  go_wp2_with (first | (refine (second_calls x _).mono ?_; rintro e w1 ⟨rfl, hw1⟩; rw [hw1]; clear hw1))
  go_ret
  exact ⟨rfl, ((((((Only.refl _ _).set _ _).set _ _).set _ _).set _ _).set _ _), by simpa [stC] using (((((hA'.out.set 2 (.int .i64 1)).set 2 (.int .i64 2)).set 2 (.int .i64 3)).set 3 (.int .u8 (secLo x : Int))).set 4 (.int .u8 (secHi x : Int)))⟩
 have i2 : ¬ (240 : Int) ≤ (x : Int) := by omega
 by_cases h3 : 224 ≤ x
 ·have e : begQ s.q x = some ⟨2, secLo x, secHi x⟩ := by unfold begQ; rw [if_neg h1, if_neg h2, if_pos h3]
  have i3 : (224 : Int) ≤ (x : Int) := by omega
  rw [e]
  clear e
  go_enter Tryz.func135, Tryz.ntmps135
  go_wp2_with (first | (refine (second_calls x _).mono ?_; rintro e w1 ⟨rfl, hw1⟩; rw [hw1]; clear hw1))
  go_ret
  exact ⟨rfl, (((((Only.refl _ _).set _ _).set _ _).set _ _).set _ _), by simpa [stC] using ((((hA'.out.set 2 (.int .i64 1)).set 2 (.int .i64 2)).set 3 (.int .u8 (secLo x : Int))).set 4 (.int .u8 (secHi x : Int)))⟩
 have i3 : ¬ (224 : Int) ≤ (x : Int) := by omega
 by_cases h4 : 194 ≤ x
 ·have e : begQ s.q x = some ⟨1, secLo x, secHi x⟩ := by unfold begQ; rw [if_neg h1, if_neg h2, if_neg h3, if_pos h4]
  have i4 : (194 : Int) ≤ (x : Int) := by omega
  rw [e]
  clear e
  go_enter Tryz.func135, Tryz.ntmps135
  go_wp2_with (first | (refine (second_calls x _).mono ?_; rintro e w1 ⟨rfl, hw1⟩; rw [hw1]; clear hw1))
  go_ret
  exact ⟨rfl, ((((Only.refl _ _).set _ _).set _ _).set _ _), by simpa [stC] using (((hA'.out.set 2 (.int .i64 1)).set 3 (.int .u8 (secLo x : Int))).set 4 (.int .u8 (secHi x : Int)))⟩
 have i4 : ¬ (194 : Int) ≤ (x : Int) := by omega
 by_cases h5 : 128 ≤ x
 ·have e : begQ s.q x = none := by unfold begQ; rw [if_neg h1, if_neg h2, if_neg h3, if_neg h4, if_pos h5]
  have i5 : (128 : Int) ≤ (x : Int) := by omega
  rw [e]
  clear e
  go_enter Tryz.func135, Tryz.ntmps135
  go_wp2
  go_ret
  exact ⟨rfl, Only.refl _ _, hA'.out⟩
 have i5 : ¬ (128 : Int) ≤ (x : Int) := by omega
 have e : begQ s.q x = some s.q := by unfold begQ; rw [if_neg h1, if_neg h2, if_neg h3, if_neg h4, if_neg h5]
 rw [e]
 clear e
 go_enter Tryz.func135, Tryz.ntmps135
 go_wp2
 go_ret
 exact ⟨rfl, Only.refl _ _, hA'.out⟩
/-- The state behind a byte that comes, as far as it fits. -/
def fitQ (s : St5) (x : Nat) : St5 := ⟨s.good, s.wrong, (stp s.q x).getD s.q⟩
set_option maxRecDepth 10000 in
set_option maxHeartbeats 1000000 in
theorem fits_calls (b : Nat) (t : TypeId) (s : St5) (x : Nat) (w : World) (hA : At w b (stC s) t) (hL : s.q.left ≤ 3) :
  Calls Tryz.prog 121 #[.pointer (some ⟨b, 0, none⟩), .int .u8 (x : Int)] w fun e w' => e = .returned (.bool (stp s.q x).isSome) ∧ Only b w w' ∧ At w' b (stC (fitQ s x)) t := by
 have hA' := hid hA
 have f2 := hA.frozen 2
 have f3 := hA.frozen 3
 have f4 := hA.frozen 4
 by_cases h0 : s.q.left = 0
 ·have c2 : w.cell? ⟨b, 2, none⟩ = some (.int .i64 0) := by rw [hA.cell]; simp [stC, h0]
  have hb := hid (begin_calls b t s x w hA h0)
  have e : stp s.q x = begQ s.q x := by unfold stp; rw [if_pos h0]
  unfold fitQ
  rw [e]
  clear e hA h0
  go_enter Tryz.func121, Tryz.ntmps121
  go_wp2_with fail
  refine Calls.mono hb.out ?_
  rintro e w1 ⟨rfl, h1, h2⟩
  have h1' := hid h1
  have h2' := hid h2
  clear h1 h2 hb
  go_wp2
  go_ret
  exact ⟨rfl, h1'.out, h2'.out⟩
 ·have c2 : w.cell? ⟨b, 2, none⟩ = some (.int .i64 (s.q.left : Int)) := by rw [hA.cell]; simp [stC]
  have c3 : w.cell? ⟨b, 3, none⟩ = some (.int .u8 (s.q.lo : Int)) := by rw [hA.cell]; simp [stC]
  have c4 : w.cell? ⟨b, 4, none⟩ = some (.int .u8 (s.q.hi : Int)) := by rw [hA.cell]; simp [stC]
  have i0 : ¬ ((s.q.left : Int) = 0) := by omega
  have iL : (s.q.left : Int) ≤ 3 := by omega
  have i1 : (1 : Int) ≤ (s.q.left : Int) := by omega
  clear hA
  by_cases h1 : x < s.q.lo
  ·have e : stp s.q x = none := by unfold stp; rw [if_neg h0, if_pos (.inl h1)]
   have i2 : (x : Int) < (s.q.lo : Int) := by omega
   unfold fitQ
   rw [e]
   clear e h0 hL
   go_enter Tryz.func121, Tryz.ntmps121
   go_wp2
   go_ret
   exact ⟨rfl, Only.refl _ _, hA'.out⟩
  by_cases h2 : s.q.hi < x
  ·have e : stp s.q x = none := by unfold stp; rw [if_neg h0, if_pos (.inr h2)]
   have i2 : ¬ (x : Int) < (s.q.lo : Int) := by omega
   have i3 : (s.q.hi : Int) < (x : Int) := by omega
   unfold fitQ
   rw [e]
   clear e h0 hL h1
   go_enter Tryz.func121, Tryz.ntmps121
   go_wp2
   go_ret
   exact ⟨rfl, Only.refl _ _, hA'.out⟩
  ·have e : stp s.q x = some ⟨s.q.left - 1, 128, 191⟩ := by unfold stp; rw [if_neg h0, if_neg (fun h => by omega)]
   have i2 : ¬ (x : Int) < (s.q.lo : Int) := by omega
   have i3 : ¬ (s.q.hi : Int) < (x : Int) := by omega
   have i4 := hid (show (s.q.left : Int) - 1 = ((s.q.left - 1 : Nat) : Int) by omega)
   unfold fitQ
   rw [e]
   clear e h0 hL h1 h2
   go_enter Tryz.func121, Tryz.ntmps121
   go_wp2
   go_ret
   refine ⟨rfl, (((Only.refl _ _).set _ _).set _ _).set _ _, ?_⟩
   have h := ((hA'.out.set 2 (.int .i64 ((s.q.left : Int) - 1))).set 3 (.int .u8 128)).set 4 (.int .u8 191)
   rw [i4.out] at h ⊢
   simpa [stC] using h
set_option maxRecDepth 10000 in
set_option maxHeartbeats 1000000 in
theorem take_calls (b : Nat) (t : TypeId) (s : St5) (x : Nat) (w : World) (hA : At w b (stC s) t) (hL : s.q.left ≤ 3) (hg : s.good < 9223372036854775807) :
  Calls Tryz.prog 105 #[.pointer (some ⟨b, 0, none⟩), .int .u8 (x : Int)] w fun e w' => e = .returned (.bool (!(tk s x).wrong)) ∧ Only b w w' ∧ At w' b (stC (tk s x)) t := by
 have hA' := hid hA
 have f0 := hA.frozen 0
 have f1 := hA.frozen 1
 cases hw : s.wrong with
 | true =>
  have c1 : w.cell? ⟨b, 1, none⟩ = some (.bool true) := by rw [hA.cell]; simp [stC, hw]
  rw [tk_wrong hw, hw]
  clear hA hL hg
  go_enter Tryz.func105, Tryz.ntmps105
  go_wp2
  go_ret
  refine ⟨rfl, (Only.refl _ _).set _ _, ?_⟩
  simpa [stC, hw] using hA'.out.set 1 (.bool true)
 | false =>
  have c1 : w.cell? ⟨b, 1, none⟩ = some (.bool false) := by rw [hA.cell]; simp [stC, hw]
  have hf := hid (fits_calls b t s x w hA hL)
  have hw' := hid hw
  clear hA hL hw
  go_enter Tryz.func105, Tryz.ntmps105
  go_wp2_with fail
  refine Calls.mono hf.out ?_
  rintro e w1 ⟨rfl, h1, h2⟩
  have h1' := hid h1
  have h2' := hid h2
  have d0 : w1.cell? ⟨b, 0, none⟩ = some (.int .i64 (s.good : Int)) := by rw [h2.cell]; simp [stC, fitQ]
  have d1 : w1.cell? ⟨b, 1, none⟩ = some (.bool false) := by rw [h2.cell]; simp [stC, fitQ, hw'.out]
  have g0 := h2.frozen 0
  have g1 := h2.frozen 1
  have hgi : (s.good : Int) < 9223372036854775807 := by omega
  clear h1 h2 hf
  cases hs : stp s.q x with
  | none =>
   have e2 := hid (tk_none hw'.out hs)
   have hs' := hid hs
   clear hs
   simp only [Option.isSome_none]
   go_wp2
   go_ret
   rw [e2.out]
   refine ⟨rfl, h1'.out.set _ _, ?_⟩
   have h := h2'.out.set 1 (.bool true)
   simpa [stC, fitQ, hs'.out] using h
  | some q =>
   have e2 := hid (tk_some hw'.out hs)
   have hs' := hid hs
   clear hs
   simp only [Option.isSome_some]
   go_wp2
   go_ret
   rw [e2.out]
   refine ⟨rfl, h1'.out.set _ _, ?_⟩
   have h := h2'.out.set 0 (.int .i64 ((s.good : Int) + 1))
   simpa [stC, fitQ, hs'.out, hw'.out] using h
end Go.Proofs.YtlhbgfhmcjaabaaGreatDoor
/- Rows of bytes, and what string(..) makes of them. -/
namespace Go.Proofs.YtlhbgfhmcjaabaaGreatDoor
open Go.RowKit
theorem strCells_byts (s : ByteArray) : Lib.strCells s = (byts s).map fun (x : Nat) => Value.int .u8 (x : Int) := by
 unfold Lib.strCells byts
 rw [List.map_map]
 rfl
theorem strCells_mkS {l : List Nat} (h : ∀ x ∈ l, x < 256) : Lib.strCells (mkS l) = l.map fun (x : Nat) => Value.int .u8 (x : Int) := by rw [strCells_byts, byts_mkS h]
theorem strCells_append (a b : ByteArray) : Lib.strCells (a ++ b) = Lib.strCells a ++ Lib.strCells b := by rw [strCells_byts, strCells_byts, strCells_byts, byts_append, List.map_append]
/-- The text of a row of bytes. -/
theorem conv_row {w : World} {B : Nat} {v : Value} {S : ByteArray} (h : w.ownsRow B 5 1 v S.size (Lib.strCells S)) : (convert 47 9 v).run Tryz.prog w = .ok (.string S) w := by
 rcases h.2 with ⟨rfl, h0⟩ | ⟨g, cap, cur, rfl, hb, hgb, h3⟩
 ·have e : S = ByteArray.empty := by
   apply byts_inj
   have h1 := byts_length S
   rw [h0] at h1
   rw [List.eq_nil_of_length_eq_zero h1]
   rfl
  rw [e]
  exact Lib.run_convert_nil_bytes w 47 9 5 0 Tryz.underlying47 Tryz.underlying5 Tryz.underlying9
 ·have hl : S.size = S.data.toList.length := by rw [Array.length_toList]; rfl
  have hr := run_convert_bytes_back (P := Tryz.prog) w 47 9 5 ⟨g, 0, none⟩ cap S.data.toList Tryz.underlying47 Tryz.underlying5 Tryz.underlying9 (fun j hj => by
   exact h.cells (g := g) rfl j _ (by
    unfold Lib.strCells
    rw [List.getElem?_map, List.getElem?_eq_getElem hj]
    rfl))
  rw [← hl] at hr
  rw [hr]
theorem infoU8 : (Tryz.prog.info? 5).map (fun i => (i.zero, i.size, i.bytes)) = some (some (.int .u8 0), 1, 1) := by kernel_rfl
end Go.Proofs.YtlhbgfhmcjaabaaGreatDoor
/- What utf8.Bad, and a Scan's New, Feed and End answer. -/
namespace Go.Proofs.YtlhbgfhmcjaabaaGreatDoor
open Go.RowKit
set_option maxRecDepth 10000 in
set_option maxHeartbeats 1000000 in
theorem read_calls (b : Nat) (t : TypeId) (s : St5) (z : ByteArray) (w : World) (hA : At w b (stC s) t) (hL : s.q.left ≤ 3) (hg : s.good + z.size < 9223372036854775807) :
  Calls Tryz.prog 94 #[.pointer (some ⟨b, 0, none⟩), .string z] w fun e w' => e = .returned (.bool (!(runS s (byts z)).wrong)) ∧ Only b w w' ∧ At w' b (stC (runS s (byts z))) t := by
 have hA' := hid hA
 have hzz : z.size < 9223372036854775807 := by omega
 clear hA
 go_enter Tryz.func94, Tryz.ntmps94
 go_wp2
 go_loopw [8] (fun ii wr => ∃ i : Nat, i ≤ z.size ∧ ii = .int .i64 (i : Int) ∧ Only b w wr ∧ At wr b (stC (runS s ((byts z).take i))) t) (fun ii _ => z.size - (intOf ii).toNat)
 case atStart => exact ⟨0, Nat.zero_le _, rfl, Only.refl _ _, hA'.out⟩
 case round =>
  obtain ⟨i, hi, rfl, hO, hB⟩ := hrel
  have hO' := hid hO
  have hB' := hid hB
  clear hO
  by_cases hlt : i < z.size
  ·have hti := hid (take_calls b t (runS s ((byts z).take i)) (byt z i) wr hB (runS_left hL _) (by have := runS_good s ((byts z).take i); rw [List.length_take] at this; omega))
   rw [← runS_snoc, ← byts_take z i hlt] at hti
   have hlti : (i : Int) < (z.size : Int) := by omega
   clear hB
   go_wp2_with fail
   rw [byt_at]
   refine Calls.mono hti.out ?_
   rintro e w1 ⟨rfl, h1, h2⟩
   have h1' := hid (hO'.out.trans h1)
   have h2' := hid h2
   clear h1 h2 hti
   cases hw : (runS s ((byts z).take (i + 1))).wrong with
   | true =>
    have hw' := hid hw
    clear hw
    simp only [Bool.not_true]
    go_wp2
    go_ret
    have e1 : runS s (byts z) = runS s ((byts z).take (i + 1)) := by
     conv => lhs; rw [← List.take_append_drop (i + 1) (byts z), runS_append]
     exact runS_wrong hw'.out _
    rw [e1, hw'.out]
    exact ⟨rfl, h1'.out, h2'.out⟩
   | false =>
    clear hw
    simp only [Bool.not_false]
    go_wp2
    go_roundw
    case rel => exact ⟨i + 1, hlt, by simp, h1'.out, h2'.out⟩
    case measure => simp [intOf]; omega
  ·obtain rfl : i = z.size := by omega
   rw [byts_whole] at hB hB'
   have c1 : wr.cell? ⟨b, 1, none⟩ = some (.bool (runS s (byts z)).wrong) := by rw [hB.cell]; simp [stC]
   clear hB hlt
   go_wp2
   go_ret
   exact ⟨rfl, hO'.out, hB'.out⟩
set_option maxRecDepth 10000 in
theorem bad_calls (b : Nat) (t : TypeId) (s : St5) (w : World) (hA : At w b (stC s) t) :
  Calls Tryz.prog 95 #[.pointer (some ⟨b, 0, none⟩)] w fun e w' => e = .returned (.int .i64 (badI s)) ∧ w' = w := by
 have c0 : w.cell? ⟨b, 0, none⟩ = some (.int .i64 (s.good : Int)) := by rw [hA.cell]; simp [stC]
 have c2 : w.cell? ⟨b, 2, none⟩ = some (.int .i64 (s.q.left : Int)) := by rw [hA.cell]; simp [stC]
 unfold badI
 cases hw : s.wrong with
 | true =>
  have c1 : w.cell? ⟨b, 1, none⟩ = some (.bool true) := by rw [hA.cell]; simp [stC, hw]
  rw [if_pos (.inl rfl)]
  clear hA hw
  go_enter Tryz.func95, Tryz.ntmps95
  go_wp2
  go_ret
  exact ⟨rfl, rfl⟩
 | false =>
  have c1 : w.cell? ⟨b, 1, none⟩ = some (.bool false) := by rw [hA.cell]; simp [stC, hw]
  by_cases h : 0 < s.q.left
  ·rw [if_pos (.inr h)]
   have hi : (0 : Int) < (s.q.left : Int) := by omega
   clear hA hw
   go_enter Tryz.func95, Tryz.ntmps95
   go_wp2
   go_ret
   exact ⟨rfl, rfl⟩
  ·rw [if_neg (fun k => by rcases k with k | k; cases k; exact h k)]
   have hi : ¬ (0 : Int) < (s.q.left : Int) := by omega
   clear hA hw
   go_enter Tryz.func95, Tryz.ntmps95
   go_wp2
   go_ret
   exact ⟨rfl, rfl⟩
set_option maxRecDepth 10000 in
theorem badF_calls (z : ByteArray) (hz : z.size < 9223372036854775807) (w : World) :
  Calls Tryz.prog 73 #[.string z] w fun e w' => e = .returned (.int .i64 (badOf z)) ∧ Below w.heap.size w w' := by
 have hA0 : At (w.alloc (.cells (stC s5) 123)) w.heap.size (stC s5) 123 := At.new _ _ _
 have hb0 : Below w.heap.size w (w.alloc (.cells (stC s5) 123)) := (Below.refl _ _).alloc (Nat.le_refl _) _
 have hr := hid (read_calls w.heap.size 123 s5 z _ hA0 (by decide) (by show 0 + z.size < _; omega))
 have hb0' := hid hb0
 clear hA0 hb0 hz
 go_enter Tryz.func73, Tryz.ntmps73
 go_wp2_with fail
 refine Calls.mono hr.out ?_
 rintro e w1 ⟨rfl, h1, h2⟩
 have hb := hid (bad_calls w.heap.size 123 _ w1 h2)
 have h1' := hid (hb0'.out.trans (h1.below (Nat.le_refl _)))
 clear hr h1 h2
 go_wp2_with fail
 refine Calls.mono hb.out ?_
 rintro e w2 ⟨rfl, rfl⟩
 clear hb
 go_wp2
 go_ret
 exact ⟨rfl, h1'.out⟩
end Go.Proofs.YtlhbgfhmcjaabaaGreatDoor

/-
 Utf8RefMath, Utf8Walk, one behind the other.
-/
/- What the reference reckons of the first bytes of a form: the least and the greatest number that they can begin; that goes together with the state. -/
namespace Go.Proofs.YtlhbgfhmcjaabaaGreatDoor
def sizeB (x : Nat) : Nat := if x < 128 then 1 else if x < 192 then 0 else if x < 224 then 2 else if x < 240 then 3 else if x < 248 then 4 else 0
def leadB (x : Nat) : Nat := if x < 128 then x else if x < 224 then x - 192 else if x < 240 then x - 224 else x - 240
def accB (l : Nat) (t : List Nat) : Nat := t.foldl (fun a y => a * 64 + (y - 128)) l
def okC (t : List Nat) : Prop := ∀ y ∈ t, 128 ≤ y ∧ y < 192
theorem accB_snoc (l : Nat) (t : List Nat) (y : Nat) : accB l (t ++ [y]) = accB l t * 64 + (y - 128) := by unfold accB; rw [List.foldl_append]; rfl
theorem okC_snoc {t : List Nat} {y : Nat} (h : okC t) (h1 : 128 ≤ y) (h2 : y < 192) : okC (t ++ [y]) := by
 intro z hz
 rcases List.mem_append.1 hz with hz | hz
 ·exact h z hz
 ·simp at hz; subst hz; exact ⟨h1, h2⟩
set_option maxRecDepth 10000 in
theorem accB_lt (t : List Nat) : ∀ l, okC t → accB l t < (l + 1) * 64 ^ t.length := by
 induction t with
 | nil => intro l _; rw [List.length_nil, Nat.pow_zero]; show l < _; omega
 | cons y t ih =>
  intro l h
  have h1 := h y (by simp)
  have h2 := ih (l * 64 + (y - 128)) (fun z hz => h z (by simp [hz]))
  show accB (l * 64 + (y - 128)) t < _
  refine Nat.lt_of_lt_of_le h2 ?_
  rw [List.length_cons, Nat.pow_succ, show (l + 1) * (64 ^ t.length * 64) = ((l + 1) * 64) * 64 ^ t.length by rw [Nat.mul_comm (64 ^ t.length) 64, Nat.mul_assoc]]
  exact Nat.mul_le_mul_right _ (by omega)
theorem leadB_le {x : Nat} (hx : x < 256) : leadB x ≤ 127 := by unfold leadB; split <;> (try split) <;> (try split) <;> omega
theorem accB_small {x : Nat} (hx : x < 256) {t : List Nat} (h : okC t) (hl : t.length ≤ 3) : accB (leadB x) t < 33554432 := by
 have h1 := accB_lt t (leadB x) h
 have h2 := leadB_le hx
 have h3 : 64 ^ t.length ≤ 64 ^ 3 := Nat.pow_le_pow_right (by decide) hl
 have h4 : (leadB x + 1) * 64 ^ t.length ≤ 128 * 64 ^ 3 := Nat.mul_le_mul (by omega) h3
 have h5 : 128 * 64 ^ 3 = 33554432 := by decide
 omega
/-- The bytes x, then t can be a beginning, as far as their shape goes. -/
def SpanOk (x : Nat) (t : List Nat) : Prop := okC t ∧ t.length < sizeB x
/-- The least and the greatest number that begins so. -/
def loB (x : Nat) (t : List Nat) : Nat := accB (leadB x) t * 64 ^ (sizeB x - (t.length + 1))
def hiB5u (x : Nat) (t : List Nat) : Nat := (accB (leadB x) t + 1) * 64 ^ (sizeB x - (t.length + 1)) - 1
/-- Some character begins so. -/
def SomeB (x : Nat) (t : List Nat) : Prop := SpanOk x t ∧ ∃ c, loB x t ≤ c ∧ c ≤ hiB5u x t ∧ sizeN c = sizeB x
theorem sizeB_cases (x : Nat) (hx : x < 256) : (x < 128 ∧ sizeB x = 1 ∧ leadB x = x) ∨ (128 ≤ x ∧ x < 192 ∧ sizeB x = 0) ∨ (192 ≤ x ∧ x < 224 ∧ sizeB x = 2 ∧ leadB x = x - 192) ∨ (224 ≤ x ∧ x < 240 ∧ sizeB x = 3 ∧ leadB x = x - 224) ∨ (240 ≤ x ∧ x < 248 ∧ sizeB x = 4 ∧ leadB x = x - 240) ∨ (248 ≤ x ∧ sizeB x = 0) := by
 unfold sizeB leadB
 by_cases h1 : x < 128
 ·rw [if_pos h1, if_pos h1]; omega
 rw [if_neg h1, if_neg h1]
 by_cases h2 : x < 192
 ·rw [if_pos h2]; omega
 rw [if_neg h2]
 by_cases h3 : x < 224
 ·rw [if_pos h3, if_pos h3]; omega
 rw [if_neg h3, if_neg h3]
 by_cases h4 : x < 240
 ·rw [if_pos h4, if_pos h4]; omega
 rw [if_neg h4, if_neg h4]
 by_cases h5 : x < 248
 ·rw [if_pos h5]; omega
 rw [if_neg h5]; omega
/-- sizeN, told by bounds. -/
theorem sizeN_iff (c : Nat) : (sizeN c = 1 ↔ c < 128) ∧ (sizeN c = 2 ↔ 128 ≤ c ∧ c < 2048) ∧ (sizeN c = 3 ↔ 2048 ≤ c ∧ c < 65536 ∧ ¬ (55296 ≤ c ∧ c ≤ 57343)) ∧ (sizeN c = 4 ↔ 65536 ≤ c ∧ c ≤ 1114111) := by
 unfold sizeN
 split
 ·omega
 ·split
  ·omega
  ·split
   ·omega
   ·split <;> omega
theorem pow64u : (64 : Nat) ^ 0 = 1 ∧ (64 : Nat) ^ 1 = 64 ∧ (64 : Nat) ^ 2 = 4096 ∧ (64 : Nat) ^ 3 = 262144 := by decide
theorem stp_none {q : Q5} {x : Nat} (h : stp q x = none) : (q.left = 0 → (128 ≤ x ∧ x < 194) ∨ 244 < x) ∧ (q.left ≠ 0 → x < q.lo ∨ q.hi < x) := by
 unfold stp at h
 split at h
 ·rename_i h0
  refine ⟨fun _ => ?_, fun k => absurd h0 k⟩
  unfold begQ at h
  split at h
  ·omega
  ·split at h
   ·cases h
   ·split at h
    ·cases h
    ·split at h
     ·cases h
     ·split at h
      ·omega
      ·cases h
 ·rename_i h0
  refine ⟨fun k => absurd k h0, fun _ => ?_⟩
  split at h
  ·assumption
  ·cases h
theorem stp_some {q q' : Q5} {x : Nat} (h : stp q x = some q') : (q.left = 0 → x < 128 ∧ q' = q ∨ 194 ≤ x ∧ x < 224 ∧ q'.left = 1 ∨ 224 ≤ x ∧ x < 240 ∧ q'.left = 2 ∨ 240 ≤ x ∧ x ≤ 244 ∧ q'.left = 3) ∧ (q.left ≠ 0 → q.lo ≤ x ∧ x ≤ q.hi ∧ q'.left = q.left - 1) := by
 unfold stp at h
 split at h
 ·rename_i h0
  refine ⟨fun _ => ?_, fun k => absurd h0 k⟩
  unfold begQ at h
  split at h
  ·cases h
  ·split at h
   ·cases h; right; right; right; exact ⟨by omega, by omega, rfl⟩
   ·split at h
    ·cases h; right; right; left; exact ⟨by omega, by omega, rfl⟩
    ·split at h
     ·cases h; right; left; exact ⟨by omega, by omega, rfl⟩
     ·split at h
      ·cases h
      ·cases h; left; exact ⟨by omega, rfl⟩
 ·rename_i h0
  refine ⟨fun k => absurd k h0, fun _ => ?_⟩
  split at h
  ·cases h
  ·cases h; exact ⟨by omega, by omega, rfl⟩
/-- The list of the bytes behind the first one. -/
theorem begins_none {b : List Nat} {q : Q5} {r x : Nat} (h : FormAt b q r) (hx : x < 256) (hs : stp q x = none) (y : Nat) (t : List Nat) (e : b ++ [x] = y :: t) (hy : y < 256) : ¬ SomeB y t := by
 rintro ⟨⟨h1, h2⟩, c, h3, h4, h5⟩
 obtain ⟨p0, p1, p2, p3⟩ := pow64u
 obtain ⟨n1, n2, n3, n4⟩ := sizeN_iff c
 have hn := stp_none hs
 have hc := sizeB_cases y hy
 match b, h with
 | [], h =>
  obtain ⟨rfl, rfl⟩ : x = y ∧ [] = t := by simpa using e
  have hn := hn.1 h
  unfold loB hiB5u accB at *
  simp only [List.foldl_nil, List.length_nil] at *
  rcases hc with ⟨a, b, d⟩ | ⟨a, b, d⟩ | ⟨a, b, d, f⟩ | ⟨a, b, d, f⟩ | ⟨a, b, d, f⟩ | ⟨a, b⟩
  ·omega
  ·omega
  ·rw [d] at h3 h4 h5; simp only [Nat.reduceAdd, Nat.reduceSub] at h3 h4; rw [f] at h3 h4; omega
  ·omega
  ·rw [d] at h3 h4 h5; simp only [Nat.reduceAdd, Nat.reduceSub] at h3 h4; rw [f] at h3 h4; omega
  ·omega
 | [u], h =>
  obtain ⟨rfl, rfl⟩ : u = y ∧ [x] = t := by simpa using e
  have hx2 := h1 x (by simp)
  have l1 := secLo_ge u
  have l2 := secHi_le u
  have fs := sec_facts u
  have fm := sec_more u
  unfold loB hiB5u accB at *
  simp only [List.foldl_nil, List.foldl_cons, List.length_nil, List.length_cons] at *
  rcases h with ⟨a, b, rfl, _⟩ | ⟨a, b, rfl, _⟩ | ⟨a, b, rfl, _⟩
  ·have hn := hn.2 (by simp)
   have m1 := fm.1 (by omega) (by omega)
   have m2 := fm.2 (by omega) (by omega)
   simp only at hn
   omega
  ·have hn : x < secLo u ∨ secHi u < x := hn.2 (by simp)
   obtain ⟨d, f⟩ : sizeB u = 3 ∧ leadB u = u - 224 := by omega
   rw [d] at h3 h4 h5
   simp only [Nat.reduceAdd, Nat.reduceSub] at h3 h4
   rw [f] at h3 h4
   by_cases k1 : u = 224
   ·have := fs.1 k1; have := fm.2 (by omega) (by omega); omega
   ·have g1 := fm.1 k1 (by omega)
    by_cases k2 : u = 237
    ·have := fs.2.2.1 k2; omega
    ·have := fm.2 k2 (by omega); omega
  ·have hn : x < secLo u ∨ secHi u < x := hn.2 (by simp)
   obtain ⟨d, f⟩ : sizeB u = 4 ∧ leadB u = u - 240 := by omega
   rw [d] at h3 h4 h5
   simp only [Nat.reduceAdd, Nat.reduceSub] at h3 h4
   rw [f] at h3 h4
   by_cases k1 : u = 240
   ·have := fs.2.1 k1; have := fm.2 (by omega) (by omega); omega
   ·have g1 := fm.1 (by omega) k1
    by_cases k2 : u = 244
    ·have := fs.2.2.2 k2; omega
    ·have := fm.2 (by omega) k2; omega
 | [u, v], h =>
  obtain ⟨rfl, rfl⟩ : u = y ∧ [v, x] = t := by simpa using e
  have hx2 := h1 x (by simp)
  obtain ⟨_, _, h⟩ := h
  rcases h with ⟨a, b, rfl, _⟩ | ⟨a, b, rfl, _⟩ <;> (have hn : x < 128 ∨ 191 < x := hn.2 (by simp)) <;> omega
 | [u, v, z], h =>
  obtain ⟨rfl, rfl⟩ : u = y ∧ [v, z, x] = t := by simpa using e
  have hx2 := h1 x (by simp)
  obtain ⟨_, _, _, _, a, b, rfl, _⟩ := h
  have hn : x < 128 ∨ 191 < x := hn.2 (by simp)
  omega
set_option maxRecDepth 10000 in
theorem begins_some {b : List Nat} {q q' : Q5} {r x : Nat} (h : FormAt b q r) (hx : x < 256) (hs : stp q x = some q') (y : Nat) (t : List Nat) (e : b ++ [x] = y :: t) (hy : y < 256) :
  SomeB y t ∧ (t.length + 1 = sizeB y ↔ q'.left = 0) ∧ (q'.left = 0 → loB y t = nextR b r x q'.left ∧ hiB5u y t = nextR b r x q'.left) := by
 obtain ⟨p0, p1, p2, p3⟩ := pow64u
 have hc := sizeB_cases y hy
 obtain ⟨m0, m1, m2, m3⟩ := mask_first hx
 have hn := stp_some hs
 match b, h with
 | [], h =>
  obtain ⟨rfl, rfl⟩ : x = y ∧ [] = t := by simpa using e
  have hn := hn.1 h
  have h : q.left = 0 := h
  unfold SomeB SpanOk loB hiB5u accB nextR
  simp only [List.foldl_nil, List.length_nil, if_true, Nat.zero_add]
  have ho : okC [] := fun y hy => by cases hy
  rcases hn with ⟨a, rfl⟩ | ⟨a, b, d⟩ | ⟨a, b, d⟩ | ⟨a, b, d⟩
  ·obtain ⟨s1, s2⟩ : sizeB x = 1 ∧ leadB x = x := by omega
   rw [s1, s2, h, m0 a]
   simp only [Nat.reduceSub, p0, Nat.mul_one, Nat.add_sub_cancel]
   exact ⟨⟨⟨ho, by omega⟩, x, by omega, by omega, (sizeN_iff x).1.2 a⟩, by simp, fun _ => ⟨trivial, trivial⟩⟩
  ·obtain ⟨s1, s2⟩ : sizeB x = 2 ∧ leadB x = x - 192 := by omega
   rw [s1, s2]
   simp only [Nat.reduceSub, p1]
   exact ⟨⟨⟨ho, by omega⟩, (x - 192) * 64, by omega, by omega, (sizeN_iff _).2.1.2 (by omega)⟩, by omega, by omega⟩
  ·obtain ⟨s1, s2⟩ : sizeB x = 3 ∧ leadB x = x - 224 := by omega
   rw [s1, s2]
   simp only [Nat.reduceSub, p2]
   refine ⟨⟨⟨ho, by omega⟩, max 2048 ((x - 224) * 4096), by omega, by omega, (sizeN_iff _).2.2.1.2 (by omega)⟩, by omega, by omega⟩
  ·obtain ⟨s1, s2⟩ : sizeB x = 4 ∧ leadB x = x - 240 := by omega
   rw [s1, s2]
   simp only [Nat.reduceSub, p3]
   refine ⟨⟨⟨ho, by omega⟩, max 65536 ((x - 240) * 262144), by omega, by omega, (sizeN_iff _).2.2.2.2 (by omega)⟩, by omega, by omega⟩
 | [u], h =>
  obtain ⟨rfl, rfl⟩ : u = y ∧ [x] = t := by simpa using e
  have l1 := secLo_ge u
  have l2 := secHi_le u
  have fs := sec_facts u
  have fm := sec_more u
  unfold SomeB SpanOk loB hiB5u accB nextR
  simp only [List.foldl_nil, List.foldl_cons, List.length_nil, List.length_cons, Nat.zero_add, Nat.reduceAdd]
  rw [if_neg (by simp)]
  rcases h with ⟨a, b, rfl, rfl⟩ | ⟨a, b, rfl, rfl⟩ | ⟨a, b, rfl, rfl⟩
  ·obtain ⟨k1, k2, k3⟩ : secLo u ≤ x ∧ x ≤ secHi u ∧ q'.left = 1 - 1 := hn.2 (by simp)
   have ho : okC [x] := okC_snoc (t := []) (fun y hy => by cases hy) (by omega) (by omega)
   obtain ⟨s1, s2⟩ : sizeB u = 2 ∧ leadB u = u - 192 := by omega
   rw [s1, s2]
   simp only [Nat.reduceSub, p0, Nat.mul_one, Nat.add_sub_cancel]
   refine ⟨⟨⟨ho, by omega⟩, (u - 192) * 64 + (x - 128), by omega, by omega, (sizeN_iff _).2.1.2 (by omega)⟩, ⟨fun _ => by omega, fun _ => trivial⟩, by omega⟩
  ·obtain ⟨k1, k2, k3⟩ : secLo u ≤ x ∧ x ≤ secHi u ∧ q'.left = 2 - 1 := hn.2 (by simp)
   have ho : okC [x] := okC_snoc (t := []) (fun y hy => by cases hy) (by omega) (by omega)
   obtain ⟨s1, s2⟩ : sizeB u = 3 ∧ leadB u = u - 224 := by omega
   rw [s1, s2]
   simp only [Nat.reduceSub, p1]
   refine ⟨⟨⟨ho, by omega⟩, ((u - 224) * 64 + (x - 128)) * 64, by omega, by omega, (sizeN_iff _).2.2.1.2 ?_⟩, by omega, by omega⟩
   omega
  ·obtain ⟨k1, k2, k3⟩ : secLo u ≤ x ∧ x ≤ secHi u ∧ q'.left = 3 - 1 := hn.2 (by simp)
   have ho : okC [x] := okC_snoc (t := []) (fun y hy => by cases hy) (by omega) (by omega)
   obtain ⟨s1, s2⟩ : sizeB u = 4 ∧ leadB u = u - 240 := by omega
   rw [s1, s2]
   simp only [Nat.reduceSub, p2]
   refine ⟨⟨⟨ho, by omega⟩, ((u - 240) * 64 + (x - 128)) * 4096, by omega, by omega, (sizeN_iff _).2.2.2.2 ?_⟩, by omega, by omega⟩
   omega
 | [u, v], h =>
  obtain ⟨rfl, rfl⟩ : u = y ∧ [v, x] = t := by simpa using e
  obtain ⟨k1, k2, h⟩ := h
  have l1 := secLo_ge u
  have l2 := secHi_le u
  have fs := sec_facts u
  unfold SomeB SpanOk loB hiB5u accB nextR
  simp only [List.foldl_nil, List.foldl_cons, List.length_nil, List.length_cons, Nat.zero_add, Nat.reduceAdd]
  rw [if_neg (by simp)]
  rcases h with ⟨a, b, rfl, rfl⟩ | ⟨a, b, rfl, rfl⟩
  ·obtain ⟨k3, k4, k5⟩ : 128 ≤ x ∧ x ≤ 191 ∧ q'.left = 1 - 1 := hn.2 (by simp)
   have ho : okC [v, x] := okC_snoc (t := [v]) (okC_snoc (t := []) (fun y hy => by cases hy) (by omega) (by omega)) (by omega) (by omega)
   obtain ⟨s1, s2⟩ : sizeB u = 3 ∧ leadB u = u - 224 := by omega
   rw [s1, s2]
   simp only [Nat.reduceSub, p0, Nat.mul_one, Nat.add_sub_cancel]
   refine ⟨⟨⟨ho, by omega⟩, ((u - 224) * 64 + (v - 128)) * 64 + (x - 128), by omega, by omega, (sizeN_iff _).2.2.1.2 ?_⟩, ⟨fun _ => by omega, fun _ => trivial⟩, by omega⟩
   omega
  ·obtain ⟨k3, k4, k5⟩ : 128 ≤ x ∧ x ≤ 191 ∧ q'.left = 2 - 1 := hn.2 (by simp)
   have ho : okC [v, x] := okC_snoc (t := [v]) (okC_snoc (t := []) (fun y hy => by cases hy) (by omega) (by omega)) (by omega) (by omega)
   obtain ⟨s1, s2⟩ : sizeB u = 4 ∧ leadB u = u - 240 := by omega
   rw [s1, s2]
   simp only [Nat.reduceSub, p1]
   refine ⟨⟨⟨ho, by omega⟩, (((u - 240) * 64 + (v - 128)) * 64 + (x - 128)) * 64, by omega, by omega, (sizeN_iff _).2.2.2.2 ?_⟩, by omega, by omega⟩
   omega
 | [u, v, z], h =>
  obtain ⟨rfl, rfl⟩ : u = y ∧ [v, z, x] = t := by simpa using e
  obtain ⟨k1, k2, z1, z2, a, b, rfl, rfl⟩ := h
  have l1 := secLo_ge u
  have l2 := secHi_le u
  have fs := sec_facts u
  unfold SomeB SpanOk loB hiB5u accB nextR
  simp only [List.foldl_nil, List.foldl_cons, List.length_nil, List.length_cons, Nat.zero_add, Nat.reduceAdd]
  rw [if_neg (by simp)]
  obtain ⟨k3, k4, k5⟩ : 128 ≤ x ∧ x ≤ 191 ∧ q'.left = 1 - 1 := hn.2 (by simp)
  have ho : okC [v, z, x] := okC_snoc (t := [v, z]) (okC_snoc (t := [v]) (okC_snoc (t := []) (fun y hy => by cases hy) (by omega) (by omega)) (by omega) (by omega)) (by omega) (by omega)
  obtain ⟨s1, s2⟩ : sizeB u = 4 ∧ leadB u = u - 240 := by omega
  rw [s1, s2]
  simp only [Nat.reduceSub, p0, Nat.mul_one, Nat.add_sub_cancel]
  refine ⟨⟨⟨ho, by omega⟩, (((u - 240) * 64 + (v - 128)) * 64 + (z - 128)) * 64 + (x - 128), by omega, by omega, (sizeN_iff _).2.2.2.2 ?_⟩, ⟨fun _ => by omega, fun _ => trivial⟩, by omega⟩
  omega
end Go.Proofs.YtlhbgfhmcjaabaaGreatDoor
/- How a text is gone through, form by form. -/
namespace Go.Proofs.YtlhbgfhmcjaabaaGreatDoor
/-- What a text tells: where each character begins, and the character. -/
def telOf (s : ByteArray) : List (Nat × Nat) := tel s5.q 0 0 0 (byts s)
/-- The first i bytes are a beginning; behind the last whole form, at p, stand the bytes b; the forms ahead of it are pre. -/
def WalkAt (s : ByteArray) (p i : Nat) (b : List Nat) (q : Q5) (r : Nat) (pre : List (Nat × Nat)) : Prop :=
 p + b.length = i ∧ i ≤ s.size ∧ b = ((byts s).drop p).take b.length ∧ FormAt b q r ∧ runS s5 ((byts s).take i) = ⟨i, false, q⟩ ∧ telOf s = pre ++ tel q p r i ((byts s).drop i) ∧ pre.length ≤ p
theorem form_nil {b : List Nat} {q : Q5} {r : Nat} (h : FormAt b q r) : b = [] ↔ q.left = 0 := by
 match b, h with
 | [], h => exact ⟨fun _ => h, fun _ => rfl⟩
 | [x], h => rcases h with ⟨_, _, rfl, _⟩ | ⟨_, _, rfl, _⟩ | ⟨_, _, rfl, _⟩ <;> simp
 | [x, y], h => obtain ⟨_, _, ⟨_, _, rfl, _⟩ | ⟨_, _, rfl, _⟩⟩ := h <;> simp
 | [x, y, z], h => obtain ⟨_, _, _, _, _, _, rfl, _⟩ := h; simp
theorem form_len {b : List Nat} {q : Q5} {r : Nat} (h : FormAt b q r) : b.length ≤ 3 := by
 match b, h with
 | [], _ => simp
 | [x], _ => simp
 | [x, y], _ => simp
 | [x, y, z], _ => simp
theorem WalkAt.start (s : ByteArray) : WalkAt s 0 0 [] s5.q 0 [] := ⟨rfl, Nat.zero_le _, rfl, rfl, rfl, rfl, Nat.zero_le _⟩
section
variable {s : ByteArray} {p i : Nat} {b : List Nat} {q : Q5} {r : Nat} {pre : List (Nat × Nat)}
theorem WalkAt.bad (h : WalkAt s p i b q r pre) (hi : i < s.size) (hs : stp q (byt s i) = none) : badOf s = i ∧ telOf s = pre := by
 obtain ⟨h1, h2, h3, h4, h5, h6, h7⟩ := h
 constructor
 ·unfold badOf
  have e : byts s = (byts s).take (i + 1) ++ (byts s).drop (i + 1) := (List.take_append_drop _ _).symm
  rw [e, runS_append, byts_take s i hi, runS_snoc, h5, tk_none rfl hs, runS_wrong rfl]
  rfl
 ·rw [h6, byts_drop s i hi, tel, hs]
  exact List.append_nil _
theorem WalkAt.next (h : WalkAt s p i b q r pre) (hi : i < s.size) {q' : Q5} (hs : stp q (byt s i) = some q') :
  (q'.left = 0 → WalkAt s (i + 1) (i + 1) [] q' (nextR b r (byt s i) q'.left) (pre ++ [(p, nextR b r (byt s i) q'.left)])) ∧
   (q'.left ≠ 0 → WalkAt s p (i + 1) (b ++ [byt s i]) q' (nextR b r (byt s i) q'.left) pre) := by
 obtain ⟨h1, h2, h3, h4, h5, h6, h7⟩ := h
 have hrun : runS s5 ((byts s).take (i + 1)) = ⟨i + 1, false, q'⟩ := by rw [byts_take s i hi, runS_snoc, h5, tk_some rfl hs]
 have hr : (if i = p then byt s i &&& (127 >>> q'.left) else r * 64 + byt s i % 64) = nextR b r (byt s i) q'.left := by
  unfold nextR
  by_cases e : b = []
  ·subst e
   rw [if_pos (by simpa using h1.symm), if_pos rfl]
  ·rw [if_neg e, if_neg]
   intro k
   apply e
   apply List.eq_nil_of_length_eq_zero
   omega
 have hb : b ++ [byt s i] = ((byts s).drop p).take (b ++ [byt s i]).length := by
  have hd := byts_drop s i hi
  rw [List.length_append, List.length_cons, List.length_nil, Nat.zero_add, List.take_add_one, ← h3, List.getElem?_drop, h1, byts_get s i hi]
  rfl
 rcases form_step h4 (byt_lt s i) hs with ⟨a, _, _⟩ | ⟨a, c⟩
 ·refine ⟨fun _ => ⟨rfl, hi, by simp, a, hrun, ?_, by simp; omega⟩, fun k => absurd a k⟩
  rw [h6, byts_drop s i hi, tel, hs]
  simp only [if_pos a]
  rw [hr, List.append_assoc]
  rfl
 ·refine ⟨fun k => by omega, fun _ => ⟨by simp; omega, hi, hb, c, hrun, ?_, h7⟩⟩
  rw [h6, byts_drop s i hi, tel, hs]
  simp only [if_neg (show ¬ q'.left = 0 by omega)]
  rw [hr]
theorem WalkAt.done (h : WalkAt s p s.size b q r pre) : telOf s = pre ∧ badOf s = (if q.left = 0 then -1 else (s.size : Int)) := by
 obtain ⟨h1, h2, h3, h4, h5, h6, h7⟩ := h
 constructor
 ·rw [h6, List.drop_of_length_le (by rw [byts_length]; exact Nat.le_refl _), tel]
  exact List.append_nil _
 ·unfold badOf
  rw [byts_whole] at h5
  rw [h5]
  unfold badI
  by_cases e : q.left = 0
  ·rw [if_pos e, if_neg]
   intro k
   rcases k with k | k
   ·cases k
   ·have : 0 < q.left := k
    omega
  ·rw [if_neg e, if_pos (.inr (by show 0 < q.left; omega))]
end
end Go.Proofs.YtlhbgfhmcjaabaaGreatDoor

/-
 What utf8.Size answers: how many bytes a character takes.
-/
namespace Go.Proofs.YtlhbgfhmcjaabaaGreatDoor
open Go.RowKit
def sizeZ (r : Int) : Nat := if r < 0 then 0 else sizeN r.toNat
end Go.Proofs.YtlhbgfhmcjaabaaGreatDoor
