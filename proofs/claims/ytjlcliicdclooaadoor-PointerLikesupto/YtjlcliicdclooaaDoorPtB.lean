/-
 A name as a place: what the program says (a range over a text).
-/
import Derived.Test.YtjlcliicdclooaaDoorPtA
import Derived.Lib.OthersKept
import Derived.Lib.SpaceUEq
namespace Go.Proofs.YtjlcliicdclooaaDoor
open Go.RowKit Go.Shelf
theorem dec_low (s : ByteArray) (i : Nat) (h : i < s.size) (h1 : lk s i < 128) : Utf8.decode s i = (lk s i, 1) := by rw [lk_at s i h] at h1 ⊢; exact decode_ascii s i h h1
theorem dec_high (s : ByteArray) (i : Nat) (h : i < s.size) (h1 : 128 ≤ lk s i) : 128 ≤ (Utf8.decode s i).1 ∧ 1 ≤ (Utf8.decode s i).2 := by rw [lk_at s i h] at h1; exact decode_high s i h h1
theorem dec_pos (s : ByteArray) (i : Nat) (h : i < s.size) : 1 ≤ (Utf8.decode s i).2 := by
 by_cases h1 : lk s i < 128
 ·rw [dec_low s i h h1]; exact Nat.le_refl _
 ·exact (dec_high s i h (by omega)).2
/-- Behind the first byte of a character there are no bytes below 128. -/
theorem lk_get20 (s : ByteArray) (i : Nat) : (s.get! i).toNat = lk s i := by
 unfold lk
 by_cases h : i < s.size
 ·rw [dif_pos h, ← get_at s i h]; rfl
 ·rw [dif_neg h]
  have : s.get! i = 0 := by
   show s.data[i]! = 0
   rw [getElem!_neg s.data i (by simpa using h)]
   rfl
  rw [this]; rfl
theorem dec_conts (s : ByteArray) (i : Nat) (h : i < s.size) : i + (Utf8.decode s i).2 ≤ s.size ∧ ∀ j, i < j → j < i + (Utf8.decode s i).2 → 128 ≤ lk s j := by
 have hc := Lib.decodeN_conts (s.size - i) (s.get! i).toNat (s.get! (i + 1)).toNat (s.get! (i + 2)).toNat (s.get! (i + 3)).toNat
 rw [← Lib.decode_at s i, lk_get20, lk_get20, lk_get20] at hc
 obtain ⟨c1, c2, c3, c4⟩ := hc
 obtain ⟨D, hD⟩ : ∃ D, (Utf8.decode s i).2 = D := ⟨_, rfl⟩
 rw [hD] at c1 c2 c3 c4 ⊢
 refine ⟨?_, fun j hj1 hj2 => ?_⟩
 ·rcases Nat.lt_or_ge D 2 with h2 | h2
  ·omega
  ·have := (c1 h2).2
   rcases Nat.lt_or_ge D 3 with h3 | h3
   ·omega
   ·have := (c2 h3).2
    rcases Nat.lt_or_ge D 4 with h4 | h4
    ·omega
    ·have := (c3 h4).2
     omega
 ·have hj : j = i + 1 ∨ j = i + 2 ∨ j = i + 3 := by omega
  rcases hj with rfl | rfl | rfl
  ·have := (c1 (by omega)).1; omega
  ·have := (c2 (by omega)).1; omega
  ·have := (c3 (by omega)).1; omega
theorem eq_const (s : ByteArray) (l : List UInt8) : (s.toList == l) = decide (s.data.toList = l) := by
 rw [Lib.toList_data]
 cases h : decide (s.data.toList = l)
 ·exact beq_eq_false_iff_ne.2 (of_decide_eq_false h)
 ·exact beq_iff_eq.2 (of_decide_eq_true h)
set_option maxRecDepth 10000 in
set_option maxHeartbeats 2000000 in
theorem plc_calls (s : ByteArray) (hs : s.size ≤ 9223372036854775807) (w : World) : Calls Tryd.prog 38 #[.string s] w fun e w' => e = .returned (.tuple #[.int .i64 (plV s), .bool (plB s)]) ∧ Below w.heap.size w w' := by
 by_cases h1 : s.size < 1
 ·have hb := hid (plB_no (s := s) (fun h => by omega))
  obtain rfl : s = ByteArray.empty := by
   apply ByteArray.ext
   apply Array.eq_empty_of_size_eq_zero
   have : s.data.size = s.size := rfl
   omega
  clear h1
  go_enter Tryd.func38, Tryd.ntmps38
  go_wp2
  go_ret2
  exact ⟨by rw [plV_no hb.out, hb.out]; rfl, Below.refl _ _⟩
 have h0 : 0 < s.size := by omega
 have e0 := lk_at s 0 h0
 have hne : (s.toList == []) = false := by
  have := eq_const s []
  rw [this]
  apply decide_eq_false
  intro h
  have h2 := congrArg List.length h
  rw [Array.length_toList] at h2
  have h3 : s.data.size = 0 := h2
  have h4 : s.data.size = s.size := rfl
  omega
 by_cases h2 : s = (⟨#[48]⟩ : ByteArray)
 ·subst h2
  have hb := hid (show plB (⟨#[48]⟩ : ByteArray) = true by decide)
  have hv := hid (show plV (⟨#[48]⟩ : ByteArray) = 0 by rw [plV_yes hb.out]; decide)
  clear hne e0 h0 h1 hs
  go_enter Tryd.func38, Tryd.ntmps38
  go_wp2
  go_ret2
  exact ⟨by rw [hv.out, hb.out]; rfl, Below.refl _ _⟩
 have hn2 : (s.toList == [48]) = false := by
  have := eq_const s [48]
  rw [this]
  apply decide_eq_false
  intro h
  exact h2 (ByteArray.ext (Array.toList_inj.1 h))
 by_cases h3 : (s[0]'h0).toNat = 48
 ·have hz : 1 < s.size := by
   rcases Nat.lt_or_ge 1 s.size with h | h
   ·exact h
   ·exfalso
    apply h2
    apply ByteArray.ext
    have hs1 : s.data.size = 1 := by have : s.data.size = s.size := rfl; omega
    apply Array.ext
    ·exact hs1
    ·intro i hi1 hi2
     obtain rfl : i = 0 := by simp at hi2; omega
     show (s[0]'h0) = 48
     exact UInt8.toNat_inj.1 h3
  have hb := hid (plB_no (s := s) (fun h => by have := h.2.2 (by rw [e0]; exact h3); omega))
  clear e0 h2
  go_enter Tryd.func38, Tryd.ntmps38
  go_wp2
  go_ret2
  exact ⟨by rw [plV_no hb.out, hb.out]; rfl, Below.refl _ _⟩
 by_cases h4 : 18 < s.size
 ·have hb := hid (plB_no (s := s) (fun h => by omega))
  clear e0 h2
  go_enter Tryd.func38, Tryd.ntmps38
  go_wp2
  go_ret2
  exact ⟨by rw [plV_no hb.out, hb.out]; rfl, Below.refl _ _⟩
 have hs18 : s.size ≤ 18 := by omega
 have h0' := hid (show lk s 0 = 48 → s.size = 1 from fun h => by rw [e0] at h; omega)
 have b1 : (((s[0]'h0).toNat : Int) == 48) = false := beq_eq_false_iff_ne.2 (by omega)
 have b2 : decide ((18 : Int) < (s.size : Int)) = false := decide_eq_false (by omega)
 clear e0 h2
 go_enter Tryd.func38, Tryd.ntmps38
 go_wp2
 go_loopw [4] (fun nn wr => ∃ q : Nat, q ≤ s.size ∧ nn = .int .i64 ((plN s q : Nat) : Int) ∧ Hid (wr.heap[w.heap.size]? = some (.stringIter s q)) ∧ Hid (∀ j, j < q → 48 ≤ lk s j ∧ lk s j ≤ 57) ∧ Hid (Below w.heap.size w wr)) (fun _ wr => s.size - wr.iterPos w.heap.size)
 case atStart => exact ⟨0, Nat.zero_le _, rfl, hid (World.iter_heap w s 0), hid (fun j hj => by omega), hid ((Below.refl _ w).alloc (Nat.le_refl _) _)⟩
 case round =>
  obtain ⟨q, hqN, rfl, hI, hD, hB⟩ := hrel
  by_cases hq : q < s.size
  ·have hnx := fun ty => Lib.run_next_any_at (P := Tryd.prog) wr w.heap.size s q ty hI.out hq
   have hwd := dec_pos s q hq
   have hI2 := hid (Lib.iterAt_heap wr w.heap.size s q (q + (Utf8.decode s q).2) hI.out)
   have hB2 := hid (Lib.below_iterAt hB.out (k := w.heap.size) (Nat.le_refl _) s (q + (Utf8.decode s q).2))
   by_cases hd : 48 ≤ lk s q ∧ lk s q ≤ 57
   ·obtain ⟨hd1, hd2⟩ := hd
    have hN := plN_17 s q (by omega) (fun j hj => (hD.out j hj).2)
    have hnn : plN s (q + 1) = plN s q * 10 + (lk s q - 48) := rfl
    have hdec := dec_low s q hq (by omega)
    rw [hdec] at hnx hI2 hB2
    obtain ⟨c, hc⟩ : ∃ c, lk s q = c := ⟨_, rfl⟩
    obtain ⟨n, hn⟩ : ∃ n, plN s q = n := ⟨_, rfl⟩
    have hc' := hid hc
    rw [hn] at hN hnn ⊢
    rw [hc] at hnx hd1 hd2 hnn
    have hnn' := hid hnn
    clear hnn hn hc hdec
    go_wp2
    go_roundw
    case rel => exact ⟨q + 1, by omega, by rw [hnn'.out]; congr 1; omega, hI2, hid (fun j hj => by
     by_cases e : j = q
     ·subst e; rw [hc'.out]; exact ⟨hd1, hd2⟩
     ·exact hD.out j (by omega)), hB2⟩
    case measure => simp only [World.iterPos, hI2.out, hI.out]; omega
   ·have hb := hid (plB_bad hq hd)
    obtain ⟨c, hc⟩ : ∃ c, (Utf8.decode s q).1 = c := ⟨_, rfl⟩
    have hcb : c < 48 ∨ (48 ≤ c ∧ 57 < c) := by
     by_cases hl : lk s q < 128
     ·rw [dec_low s q hq hl] at hc; simp at hc; omega
     ·have := (dec_high s q hq (by omega)).1; omega
    rw [hc] at hnx
    clear hd hc
    rcases hcb with h | ⟨h, h'⟩
    ·go_wp2
     go_ret2
     exact ⟨by rw [plV_no hb.out, hb.out]; rfl, hB2.out⟩
    ·go_wp2
     go_ret2
     exact ⟨by rw [plV_no hb.out, hb.out]; rfl, hB2.out⟩
  ·obtain rfl : q = s.size := by omega
   have hnx := fun ty => Lib.run_next_end_at (P := Tryd.prog) wr w.heap.size s s.size ty hI.out (by omega)
   have hb := hid (plB_yes (by omega) hs18 h0'.out hD.out)
   go_wp2
   go_ret2
   exact ⟨by rw [plV_yes hb.out, hb.out]; rfl, hB.out⟩
end Go.Proofs.YtjlcliicdclooaaDoor
