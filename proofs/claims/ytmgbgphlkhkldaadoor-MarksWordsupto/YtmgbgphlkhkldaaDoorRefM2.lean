/-
  What quarryref08.Index and Kind answer; what quarryref00.SameInts answers.
-/
import Derived.Test.YtmgbgphlkhkldaaDoorRefM
namespace Go.Proofs.YtmgbgphlkhkldaaDoor
open Go.RowKit Go.Shelf

theorem kd_row {w : World} {B n : Nat} {v : Value} {s : ByteArray} (h : w.ownsRow B 3 1 v n (ints (kds s n))) : ∃ ao cap, v = .slice ao n cap ∧ KdAt w ao s n := by
  have lt := h.lt
  rcases h.2 with ⟨rfl, e1⟩ | ⟨g, cap, cur, rfl, hb, hgb, h3⟩
  · subst e1
    exact ⟨none, 0, rfl, fun i hi => by omega⟩
  · refine ⟨_, cap, rfl, fun i hi => ⟨g, rfl, (lt g rfl).2, ?_⟩⟩
    have := h.cells (g := g) rfl i (.int .i64 ((kdS s i : Nat) : Int)) (by simp [ints, kds_get hi])
    rwa [show (⟨g, 0, none⟩ : Addr).add i = ⟨g, i, none⟩ by by_cases h : i = 0 <;> simp [Addr.add, h]] at this
theorem idxTo_len (s : ByteArray) (n : Nat) : (idxTo s n).length ≤ n := by
  have := List.length_filter_le (begS s) (List.range n)
  rw [List.length_range] at this
  exact this

set_option maxRecDepth 10000 in
set_option maxHeartbeats 2000000 in
theorem refIndex_calls (s : ByteArray) (hs : s.size ≤ 1048576) (w : World) :
    Calls Tryd.prog 11 #[.string s] w fun e w' => ∃ v, e = .returned v ∧ w'.ownsRow w.heap.size 3 1 v (idxS s).length (ints (idxS s)) ∧ Below w.heap.size w w' := by
  obtain ⟨i0, hi0, hz0, hz1, hz2⟩ := info_parts infoI8
  go_enter Tryd.func11, Tryd.ntmps11
  go_wp2_with fail
  refine Calls.mono (bytes8_calls s hs w) ?_
  rintro e V ⟨v, rfl, hr, hbV⟩
  obtain ⟨ao, cap, rfl, hK⟩ := kd_row hr
  have hK' := hid hK
  have hB := hid hbV
  have hsi : (s.size : Int) ≤ 1048576 := by omega
  clear hr hK hbV
  go_wp2_with fail
  go_loopw [4, 5] (fun v ii wr => ∃ i : Nat, i ≤ s.size ∧ ii = .int .i64 (i : Int) ∧ wr.ownsRow V.heap.size 3 1 v (idxTo s i).length (ints (idxTo s i)) ∧ Below V.heap.size V wr) (fun _ ii _ => s.size - (intOf ii).toNat)
  case atStart => exact ⟨0, Nat.zero_le _, rfl, World.ownsRow_nil _ _ _ _, Below.refl _ _⟩
  case round =>
    obtain ⟨i, hi, rfl, hown0, hb0⟩ := hrel
    have hown := hid hown0
    have hbW := hid hb0
    have hzW := hb0.size
    clear hown0 hb0
    by_cases hlt : i < s.size
    · have hli : (i : Int) < (s.size : Int) := by omega
      obtain ⟨B, hBe⟩ : ∃ B, Hid (begS s i = B) := ⟨_, rfl⟩
      have hil := idxTo_len s i
      go_wp2_with fail
      refine Calls.mono (begins8_calls s hs i hlt B hBe ao cap _ (hK'.out.kept (Nat.le_refl _) hbW.out)) ?_
      rintro e wr' ⟨rfl, hwr⟩
      obtain rfl := hwr.symm
      cases B with
      | false =>
        have hn : Hid (idxTo s (i + 1) = idxTo s i) := idxTo_f hBe.out
        go_wp2
        go_roundw
        case rel => exact ⟨i + 1, by omega, by simp, by rw [hn.out]; exact hown.out, hbW.out⟩
        case measure => simp [intOf]; omega
      | true =>
        have hn : Hid (idxTo s (i + 1) = idxTo s i ++ [i]) := idxTo_t hBe.out
        clear hBe
        obtain ⟨L, hL⟩ : ∃ L, Hid ((idxTo s i).length = L) := ⟨_, rfl⟩
        rw [hL.out] at hown hil
        go_wp2_with (first
          | (at_builtin; refine wpList_append_own _ rfl _ _ 23 rfl V.heap.size 3 i0 (.int .i64 0) 1 8 Tryd.underlying23 hi0 hz0 hz1 hz2 rfl (by decide) _ _ _ rfl (World.ownsRow.alloc hown.out _) ⟨wr.heap.size, 0, none⟩ 1 1 [.int .i64 (i : Int)] rfl rfl (fun j u hj => by match j, hj with | 0, hj => simp at hj; subst hj; simp [Addr.add]) (fun u hu => by simp at hu; subst hu; rfl) (by unfold maxLen; omega) (by omega) (by simp; omega) ?_)
          | go_in)
        intro v' wn hown1 hgrow _
        have hbn := (hbW.out.alloc hbW.out.size (.cells #[.int .i64 (i : Int)] 3)).grown hgrow (by simp; omega) (fun b e => by have := (hown.out.lt b e).1; omega)
        have hown2 : Hid (wn.ownsRow V.heap.size 3 1 v' (idxTo s (i + 1)).length (ints (idxTo s (i + 1)))) := by
          show World.ownsRow _ _ _ _ _ _ _
          rw [hn.out, ints_snoc, List.length_append, hL.out]
          exact hown1
        clear hgrow hown1 hown
        go_wp2
        go_roundw
        case rel => exact ⟨i + 1, by omega, by simp, hown2.out, hbn⟩
        case measure => simp [intOf]; omega
    · obtain rfl : i = s.size := by omega
      go_wp2
      go_ret
      exact ⟨_, rfl, row_base hown.out hB.out.size, hB.out.trans (hbW.out.mono hB.out.size)⟩

/-- What begins at a place, as a byte. -/
def kindN (s : ByteArray) (at_ : Int) : Nat := if 0 ≤ at_ ∧ at_ < (s.size : Int) then (if begS s at_.toNat then (if wordS s at_.toNat then 119 else byteAt s at_.toNat) else 0) else 0
set_option maxRecDepth 10000 in
theorem refKind_calls (s : ByteArray) (hs : s.size ≤ 1048576) (a : Int) (k : Nat) (hk : Hid (kindN s a = k)) (w : World) :
    Calls Tryd.prog 16 #[.string s, .int .i64 a] w fun e w' => e = .returned (.int .u8 (k : Int)) ∧ Below w.heap.size w w' := by
  by_cases h : 0 ≤ a ∧ a < (s.size : Int)
  · obtain ⟨i, rfl⟩ := Int.eq_ofNat_of_zero_le h.1
    have hlt : i < s.size := by omega
    have hkk := hk.out
    unfold kindN at hkk
    rw [if_pos h, Int.toNat_natCast] at hkk
    have hli : (i : Int) < (s.size : Int) := by omega
    have hsi : (s.size : Int) ≤ 1048576 := by omega
    obtain ⟨B, hB⟩ : ∃ B, Hid (begS s i = B) := ⟨_, rfl⟩
    rw [hB.out] at hkk
    have n0 : decide ((i : Int) < 0) = false := by simp
    have n1 : decide ((s.size : Int) ≤ (i : Int)) = false := by simp; omega
    have n1' : decide (s.size ≤ i) = false := by simp; omega
    have hkk' := hid hkk
    clear hkk h hk
    go_enter Tryd.func16, Tryd.ntmps16
    go_wp2_with fail
    refine Calls.mono (bytes8_calls s hs w) ?_
    rintro e V ⟨v, rfl, hr, hbV⟩
    obtain ⟨ao, cap, rfl, hK⟩ := kd_row hr
    have hK' := hid hK
    have hBV := hid hbV
    clear hr hK hbV
    go_wp2_with fail
    refine Calls.mono (begins8_calls s hs i hlt B hB ao cap _ hK'.out) ?_
    rintro e V' ⟨rfl, hV'⟩
    obtain rfl := hV'.symm
    cases B with
    | false =>
      obtain rfl : k = 0 := by have := hkk'.out; simpa using this.symm
      clear hkk'
      go_wp2
      go_ret
      exact ⟨rfl, hBV.out⟩
    | true =>
      obtain ⟨g, rfl, -, hc⟩ := hK'.out i hlt
      obtain ⟨d, hd⟩ : ∃ d, Hid (kdS s i = d) := ⟨_, rfl⟩
      rw [hd.out] at hc
      have hw := kd_word hlt
      rw [hd.out] at hw
      by_cases d6 : d = 6
      · subst d6
        obtain rfl : k = 119 := by have h1 := hkk'.out; rw [hw.1 rfl] at h1; simpa using h1.symm
        clear hkk' hw hd
        go_wp2
        go_ret
        exact ⟨rfl, hBV.out⟩
      · have d6' : ((d : Int) == 6) = false := by simp; omega
        have hwf : wordS s i = false := by
          cases hh : wordS s i
          · rfl
          · exact absurd (hw.2 hh) d6
        have hke : s[i].toNat = k := by have h1 := hkk'.out; rw [hwf] at h1; rw [byteAt_eq s i hlt]; simpa using h1
        clear hkk' hw hd hwf
        go_wp2
        go_ret
        exact ⟨rfl, hBV.out⟩
  · have hke : k = 0 := by have := hk.out; unfold kindN at this; rw [if_neg h] at this; exact this.symm
    subst hke
    clear hk
    go_enter Tryd.func16, Tryd.ntmps16
    by_cases h0 : a < 0
    · have n0 : decide (a < 0) = true := by simp; omega
      clear h
      go_wp2
      go_ret
      exact ⟨rfl, Below.refl _ _⟩
    · have n0 : decide (a < 0) = false := by simp; omega
      have n1 : decide ((s.size : Int) ≤ a) = true := by simp; omega
      clear h h0
      go_wp2
      go_ret
      exact ⟨rfl, Below.refl _ _⟩
end Go.Proofs.YtmgbgphlkhkldaaDoor
