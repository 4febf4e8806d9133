/-
  RefVa15, RefVa16, RefVa17, one behind the other.
-/
import Derived.Test.YtlckhiflhnlgpaaGreatDoorRefVaG
/- Where a value of a document ends, as the reference has it. -/
namespace Go.Proofs.YtlckhiflhnlgpaaGreatDoor
open Go.RowKit Go.Shelf

theorem bool_at {n i : Nat} {f : Nat → Bool} (h : i < n) : (boolCells n f)[i]? = some (.bool (f i)) := by
  unfold boolCells
  simp [h]
set_option maxRecDepth 10000 in
set_option maxHeartbeats 2000000 in
theorem end16_calls (s : ByteArray) (hs : s.size ≤ 1048576) (a : Nat) (ha : a < s.size) (E : Int) (hE : Hid (IsEnd16 s a E)) (w : World) :
    Calls Tryz.prog 31 #[.string s, .int .i64 (a : Int)] w fun e w' => e = .returned (.int .i64 E) ∧ Below w.heap.size w w' := by
  have hsi : (s.size : Int) ≤ 1048576 := by omega
  have hai : (a : Int) < (s.size : Int) := by omega
  obtain ⟨x, hX⟩ : ∃ x, Hid (byteAt s a = x) := ⟨_, rfl⟩
  have hx := byteAt_eq s a ha
  rw [hX.out] at hx
  have hxl : x < 256 := by rw [← hx]; exact (s[a]'ha).toNat_lt
  have hE2 := hE.out
  unfold IsEnd16 at hE2
  rw [hX.out] at hE2
  clear hE
  rcases hE2 with ⟨ho, c, hc, rfl⟩ | ⟨ho, h34, e, h1, h2, h3, h4, rfl⟩ | ⟨ho, h34, e, hsc, rfl⟩
  · have hop := hid (refOpens_calls x true (hid ho))
    have hcl := hid (refClose_calls s (by omega) (a : Int) c (hid hc) w)
    have hcb := cls_le hc
    have hc1 := hcb.1
    have hc2 := hcb.2
    clear hc hcb ho
    go_enter Tryz.func31, Tryz.ntmps31
    go_wp2_with fail
    refine (hop.out _).mono ?_
    rintro e w1 ⟨rfl, hw1⟩
    rw [hw1]
    clear hw1
    go_wp2_with fail
    refine hcl.out.mono ?_
    rintro e w1 ⟨rfl, hb1⟩
    have hb1' := hid hb1
    clear hb1
    go_wp2
    go_ret
    exact ⟨rfl, hb1'.out⟩
  · have hop := hid (refOpens_calls x false (hid ho))
    have his := hid (is7_calls s (by omega) w)
    have h4' := hid h4
    have h3' := hid h3
    have hei : (e : Int) < (s.size : Int) := by omega
    clear h4 h3 ho
    subst h34
    go_enter Tryz.func31, Tryz.ntmps31
    go_wp2_with fail
    refine (hop.out _).mono ?_
    rintro e1 w1 ⟨rfl, hw1⟩
    rw [hw1]
    clear hw1
    go_wp2_with fail
    refine his.out.mono ?_
    rintro e1 w1 ⟨g, hg, rfl, hA, hb1⟩
    have hA' := hid hA
    have hb1' := hid hb1
    clear hA hb1 hop his
    go_wp2
    go_loopw [6] (fun ii wr => ∃ q : Nat, a < q ∧ q ≤ e ∧ ii = .int .i64 (q : Int) ∧ wr = w1) (fun ii _ => e + 1 - (intOf ii).toNat)
    case atStart => exact ⟨a + 1, by omega, by omega, by simp, rfl⟩
    case round =>
      obtain ⟨q, hq1, hq2, rfl, rfl⟩ := hrel
      have hqi : (q : Int) < (s.size : Int) := by omega
      have hadd : (⟨g, 0, none⟩ : Addr).add q = ⟨g, q, none⟩ := by by_cases h : q = 0 <;> simp [Addr.add, h]
      have cq := hA'.out.cell q
      rw [bool_at (by omega)] at cq
      by_cases hqe : q = e
      · subst hqe
        rw [h3'.out] at cq
        go_wp2
        go_ret
        exact ⟨rfl, hb1'.out⟩
      · rw [h4'.out q hq1 (by omega)] at cq
        go_wp2
        go_roundw
        case rel => exact ⟨q + 1, by omega, by omega, by simp, trivial⟩
        case measure => simp [intOf]; omega
  · have hop := hid (refOpens_calls x false (hid ho))
    have his := hid (is7_calls s (by omega) w)
    have g34 : ((x : Int) == 34) = false := by simp; omega
    obtain ⟨k1, k2, k3, k4⟩ := hsc
    have k3' := hid k3
    have k4' := hid k4
    clear k3 k4 ho h34
    go_enter Tryz.func31, Tryz.ntmps31
    go_wp2_with fail
    refine (hop.out _).mono ?_
    rintro e1 w1 ⟨rfl, hw1⟩
    rw [hw1]
    clear hw1
    go_wp2_with fail
    refine his.out.mono ?_
    rintro e1 w1 ⟨g, hg, rfl, hA, hb1⟩
    have hb1' := hid hb1
    clear hA hb1 hop his
    go_wp2
    go_loopw [6] (fun ii wr => ∃ q : Nat, a < q ∧ q ≤ e ∧ ii = .int .i64 (q : Int) ∧ wr = w1) (fun ii _ => e + 1 - (intOf ii).toNat)
    case atStart => exact ⟨a + 1, by omega, by omega, by simp, rfl⟩
    case round =>
      obtain ⟨q, hq1, hq2, rfl, rfl⟩ := hrel
      by_cases hqs : q < s.size
      · have hqi : (q : Int) < (s.size : Int) := by omega
        obtain ⟨y, hY⟩ : ∃ y, Hid (byteAt s q = y) := ⟨_, rfl⟩
        have hy := byteAt_eq s q hqs
        rw [hY.out] at hy
        have hyl : y < 256 := by rw [← hy]; exact (s[q]'hqs).toNat_lt
        have hbl := hid (blank16_calls y hyl)
        by_cases hqe : q = e
        · subst hqe
          have hst : stopB y = true := by
            rcases k4'.out with h | h
            · omega
            · rw [← hY.out]; exact h
          by_cases hb : blankN y = true
          · rw [hb] at hbl
            clear hst hb
            go_wp2_with (first | (refine (hbl.out _).mono ?_; rintro e2 w2 ⟨rfl, hw2⟩; rw [hw2]; clear hw2))
            go_ret
            exact ⟨rfl, hb1'.out⟩
          · have hb0 : blankN y = false := by cases h : blankN y with
              | true => exact absurd h hb
              | false => rfl
            rw [hb0] at hbl
            have h3 : y = 44 ∨ y = 93 ∨ y = 125 := by
              unfold stopB at hst
              rw [hb0] at hst
              simpa using hst
            clear hst hb hb0
            rcases h3 with h | h | h
            · have n1 : ((y : Int) != 44) = false := by simp; omega
              clear h
              go_wp2_with (first | (refine (hbl.out _).mono ?_; rintro e2 w2 ⟨rfl, hw2⟩; rw [hw2]; clear hw2))
              go_ret
              exact ⟨rfl, hb1'.out⟩
            · have n1 : ((y : Int) != 44) = true := by simp; omega
              have n2 : ((y : Int) != 93) = false := by simp; omega
              clear h
              go_wp2_with (first | (refine (hbl.out _).mono ?_; rintro e2 w2 ⟨rfl, hw2⟩; rw [hw2]; clear hw2))
              go_ret
              exact ⟨rfl, hb1'.out⟩
            · have n1 : ((y : Int) != 44) = true := by simp; omega
              have n2 : ((y : Int) != 93) = true := by simp; omega
              have n3 : ((y : Int) != 125) = false := by simp; omega
              clear h
              go_wp2_with (first | (refine (hbl.out _).mono ?_; rintro e2 w2 ⟨rfl, hw2⟩; rw [hw2]; clear hw2))
              go_ret
              exact ⟨rfl, hb1'.out⟩
        · have hst := k3'.out q (by omega) (by omega)
          rw [hY.out] at hst
          unfold stopB at hst
          simp only [Bool.or_eq_false_iff] at hst
          obtain ⟨hb0, s1, s2, s3⟩ := hst
          rw [hb0] at hbl
          have n1 : ((y : Int) != 44) = true := by simp at s1 ⊢; omega
          have n2 : ((y : Int) != 93) = true := by simp at s2 ⊢; omega
          have n3 : ((y : Int) != 125) = true := by simp at s3 ⊢; omega
          clear hb0 s1 s2 s3
          go_wp2_with (first | (refine (hbl.out _).mono ?_; rintro e2 w2 ⟨rfl, hw2⟩; rw [hw2]; clear hw2))
          go_roundw
          case rel => exact ⟨q + 1, by omega, by omega, by simp, trivial⟩
          case measure => simp [intOf]; omega
      · obtain rfl : q = e := by omega
        obtain rfl : q = s.size := by omega
        go_wp2
        go_ret
        exact ⟨rfl, hb1'.out⟩
end Go.Proofs.YtlckhiflhnlgpaaGreatDoor

/- Whether a value of a document begins at a place, and where it ends, as the reference has it. -/
namespace Go.Proofs.YtlckhiflhnlgpaaGreatDoor
open Go.RowKit Go.Shelf

set_option maxRecDepth 10000 in
set_option maxHeartbeats 2000000 in
theorem beg16_text (s : ByteArray) (hs : s.size ≤ 1048576) (a : Nat) (ha : a < s.size) (B : Bool) (hbk : blankN (byteAt s a) = false) (hm : markS s a = true) (hi : inS s a = true) (E k : Nat) (hE : Hid (IsEnd16 s a (E : Int))) (hk : Hid (IsSkip s E k)) (hB : Hid (B = (decide (k = s.size) || decide (byteAt s k ≠ 58)))) (w : World) :
    Calls Tryz.prog 30 #[.string s, .int .i64 (a : Int)] w fun e w' => e = .returned (.bool B) ∧ Below w.heap.size w w' := by
  have hsi : (s.size : Int) ≤ 1048576 := by omega
  have hai : (a : Int) < (s.size : Int) := by omega
  have hai2 : ¬ (s.size : Int) ≤ (a : Int) := by omega
  obtain ⟨x, hX⟩ : ∃ x, Hid (byteAt s a = x) := ⟨_, rfl⟩
  have hx := byteAt_eq s a ha
  rw [hX.out] at hx hbk
  have hxl : x < 256 := by rw [← hx]; exact (s[a]'ha).toNat_lt
  have hbx := hid (blank16_calls x hxl)
  rw [hbk] at hbx
  have hou := hid (outside_calls s (by omega) w)
  have hadd : (⟨0, 0, none⟩ : Addr).add 0 = ⟨0, 0, none⟩ := by simp [Addr.add]
  clear hadd hbk
  go_enter Tryz.func30, Tryz.ntmps30
  go_wp2_with fail
  refine (hbx.out _).mono ?_
  rintro e2 wa ⟨rfl, hwa⟩
  rw [hwa]
  clear hwa
  go_wp2_with fail
  refine hou.out.mono ?_
  rintro e2 w1 ⟨g1, hg1, rfl, hA1, hb1⟩
  go_wp2_with fail
  refine (is7_calls s (by omega) w1).mono ?_
  rintro e2 w2 ⟨g2, hg2, rfl, hA2, hb2⟩
  replace hA1 := hA1.keptAll hb2
  replace hb2 := hb1.trans (hb2.mono hb1.size)
  go_wp2_with fail
  refine (in7_calls s (by omega) w2).mono ?_
  rintro e2 w3 ⟨g3, hg3, rfl, hA3, hb3⟩
  replace hA1 := hA1.keptAll hb3
  replace hA2 := hA2.keptAll hb3
  replace hb3 := hid (hb2.trans (hb3.mono hb2.size))
  have a1 : (⟨g1, 0, none⟩ : Addr).add a = ⟨g1, a, none⟩ := by by_cases h : a = 0 <;> simp [Addr.add, h]
  have a2 : (⟨g2, 0, none⟩ : Addr).add a = ⟨g2, a, none⟩ := by by_cases h : a = 0 <;> simp [Addr.add, h]
  have a3 : (⟨g3, 0, none⟩ : Addr).add a = ⟨g3, a, none⟩ := by by_cases h : a = 0 <;> simp [Addr.add, h]
  have c1 := hA1.cell a
  rw [bool_at ha] at c1
  have c2 := hA2.cell a
  rw [bool_at ha] at c2
  have c3 := hA3.cell a
  rw [bool_at ha] at c3
  have hA1' := hid hA1
  clear hA1 hA2 hA3 hb1 hb2 hg1 hg2 hg3 hou
  rw [hm] at c2
  rw [hi] at c3
  have hend := hid (end16_calls s hs a ha (E : Int) hE w3)
  obtain ⟨k1, k2, k3, k4⟩ := hk.out
  have k3' := hid k3
  have k4' := hid k4
  have hki : (k : Int) ≤ (s.size : Int) := by omega
  clear k3 k4 hm hi hbx
  go_wp2_with fail
  refine hend.out.mono ?_
  rintro e2 w4 ⟨rfl, hb4⟩
  have hb4' := hid (hb3.out.trans (hb4.mono hb3.out.size))
  clear hb4 hend c1 c2 c3
  go_wp2
  go_loopw [8] (fun ii wr => ∃ q : Nat, E ≤ q ∧ q ≤ k ∧ ii = .int .i64 (q : Int) ∧ wr = w4) (fun ii _ => k + 1 - (intOf ii).toNat)
  case atStart => exact ⟨E, Nat.le_refl _, k1, rfl, rfl⟩
  case round =>
    obtain ⟨q, hq1, hq2, rfl, rfl⟩ := hrel
    by_cases hqs : q < s.size
    · have hqi : (q : Int) < (s.size : Int) := by omega
      obtain ⟨y, hY⟩ : ∃ y, Hid (byteAt s q = y) := ⟨_, rfl⟩
      have hy := byteAt_eq s q hqs
      rw [hY.out] at hy
      have hyl : y < 256 := by rw [← hy]; exact (s[q]'hqs).toNat_lt
      have hbl := hid (blank16_calls y hyl)
      by_cases hqe : q = k
      · subst hqe
        have hb0 : blankN y = false := by
          rcases k4'.out with h | h
          · omega
          · rw [← hY.out]; exact h
        rw [hb0] at hbl
        have hBv := hB.out
        rw [hY.out, decide_eq_false (show ¬ q = s.size by omega), Bool.false_or] at hBv
        obtain ⟨z, hz⟩ : ∃ z, ((y : Int) != 58) = z := ⟨_, rfl⟩
        have hBz : B = z := by
          rw [hBv, ← hz]
          by_cases h58 : y = 58
          · subst h58; decide
          · have h1 : ((y : Int) != 58) = true := by simp; omega
            rw [h1]
            simp [h58]
        subst hBz
        have hne : ((q : Int) == (s.size : Int)) = false := by simp; omega
        clear hb0 hBv
        go_wp2_with (first | (refine (hbl.out _).mono ?_; rintro e2 wa ⟨rfl, hwa⟩; rw [hwa]; clear hwa))
        go_ret
        exact ⟨rfl, hb4'.out⟩
      · have hb0 := k3'.out q hq1 (by omega)
        rw [hY.out] at hb0
        rw [hb0] at hbl
        clear hb0
        go_wp2_with (first | (refine (hbl.out _).mono ?_; rintro e2 wa ⟨rfl, hwa⟩; rw [hwa]; clear hwa))
        go_roundw
        case rel => exact ⟨q + 1, by omega, by omega, by simp, trivial⟩
        case measure => simp [intOf]; omega
    · obtain rfl : q = k := by omega
      obtain rfl : q = s.size := by omega
      have hBv := hB.out
      rw [decide_eq_true rfl, Bool.true_or] at hBv
      subst hBv
      go_wp2
      go_ret
      exact ⟨rfl, hb4'.out⟩

set_option maxRecDepth 10000 in
set_option maxHeartbeats 2000000 in
theorem beg16_other (s : ByteArray) (hs : s.size ≤ 1048576) (a : Nat) (ha : a < s.size) (B : Bool) (hbk : blankN (byteAt s a) = false) (hmi : (markS s a && inS s a) = false) (hB : B = begC s a) (w : World) :
    Calls Tryz.prog 30 #[.string s, .int .i64 (a : Int)] w fun e w' => e = .returned (.bool B) ∧ Below w.heap.size w w' := by
  have hsi : (s.size : Int) ≤ 1048576 := by omega
  have hai : (a : Int) < (s.size : Int) := by omega
  have hai2 : ¬ (s.size : Int) ≤ (a : Int) := by omega
  obtain ⟨x, hX⟩ : ∃ x, Hid (byteAt s a = x) := ⟨_, rfl⟩
  have hx := byteAt_eq s a ha
  rw [hX.out] at hx hbk
  have hxl : x < 256 := by rw [← hx]; exact (s[a]'ha).toNat_lt
  have hbx := hid (blank16_calls x hxl)
  rw [hbk] at hbx
  have hou := hid (outside_calls s (by omega) w)
  have hadd : (⟨0, 0, none⟩ : Addr).add 0 = ⟨0, 0, none⟩ := by simp [Addr.add]
  clear hadd hbk
  go_enter Tryz.func30, Tryz.ntmps30
  go_wp2_with fail
  refine (hbx.out _).mono ?_
  rintro e2 wa ⟨rfl, hwa⟩
  rw [hwa]
  clear hwa
  go_wp2_with fail
  refine hou.out.mono ?_
  rintro e2 w1 ⟨g1, hg1, rfl, hA1, hb1⟩
  go_wp2_with fail
  refine (is7_calls s (by omega) w1).mono ?_
  rintro e2 w2 ⟨g2, hg2, rfl, hA2, hb2⟩
  replace hA1 := hA1.keptAll hb2
  replace hb2 := hb1.trans (hb2.mono hb1.size)
  go_wp2_with fail
  refine (in7_calls s (by omega) w2).mono ?_
  rintro e2 w3 ⟨g3, hg3, rfl, hA3, hb3⟩
  replace hA1 := hA1.keptAll hb3
  replace hA2 := hA2.keptAll hb3
  replace hb3 := hid (hb2.trans (hb3.mono hb2.size))
  have a1 : (⟨g1, 0, none⟩ : Addr).add a = ⟨g1, a, none⟩ := by by_cases h : a = 0 <;> simp [Addr.add, h]
  have a2 : (⟨g2, 0, none⟩ : Addr).add a = ⟨g2, a, none⟩ := by by_cases h : a = 0 <;> simp [Addr.add, h]
  have a3 : (⟨g3, 0, none⟩ : Addr).add a = ⟨g3, a, none⟩ := by by_cases h : a = 0 <;> simp [Addr.add, h]
  have c1 := hA1.cell a
  rw [bool_at ha] at c1
  have c2 := hA2.cell a
  rw [bool_at ha] at c2
  have c3 := hA3.cell a
  rw [bool_at ha] at c3
  have hA1' := hid hA1
  clear hA1 hA2 hA3 hb1 hb2 hg1 hg2 hg3 hou
  have hBv := hB
  unfold begC at hBv
  rw [hX.out] at hBv
  clear hB
  cases hou1 : outS s a with
  | false =>
    rw [hou1, if_pos (.inl rfl)] at hBv
    subst hBv
    rw [hou1] at c1
    clear hbx
    cases hm1 : markS s a with
    | false =>
      rw [hm1] at c2
      go_wp2
      go_ret
      exact ⟨rfl, hb3.out⟩
    | true =>
      rw [hm1] at c2
      have hi0 : inS s a = false := by rw [hm1, Bool.true_and] at hmi; exact hmi
      rw [hi0] at c3
      go_wp2
      go_ret
      exact ⟨rfl, hb3.out⟩
  | true =>
    rw [hou1] at c1
    have hm0 : markS s a = false := by
      unfold outS at hou1
      simp only [Bool.and_eq_true, Bool.not_eq_true'] at hou1
      exact hou1.2.1
    rw [hm0] at c2
    rw [hou1] at hBv
    clear hbx c3 hmi
    by_cases h58 : x = 58
    · rw [if_pos (.inr (.inl h58))] at hBv
      subst hBv
      have g58 : ((x : Int) == 58) = true := by simp; omega
      clear h58
      go_wp2
      go_ret
      exact ⟨rfl, hb3.out⟩
    have g58 : ((x : Int) == 58) = false := by simp; omega
    by_cases h44 : x = 44
    · rw [if_pos (.inr (.inr (.inl h44)))] at hBv
      subst hBv
      have g44 : ((x : Int) == 44) = true := by simp; omega
      clear h44
      go_wp2
      go_ret
      exact ⟨rfl, hb3.out⟩
    have g44 : ((x : Int) == 44) = false := by simp; omega
    obtain ⟨cb, hcb⟩ : ∃ cb, Hid (clB x = cb) := ⟨_, rfl⟩
    have hcl := hid (refCloses_calls x cb hcb)
    cases cb with
    | true =>
      rw [if_pos (.inr (.inr (.inr hcb.out)))] at hBv
      subst hBv
      clear h58 h44
      go_wp2_with (first | (refine (hcl.out _).mono ?_; rintro e2 wa ⟨rfl, hwa⟩; rw [hwa]; clear hwa))
      go_ret
      exact ⟨rfl, hb3.out⟩
    | false =>
      rw [if_neg (by rw [hcb.out]; simp [h58, h44])] at hBv
      obtain ⟨ob, hob⟩ : ∃ ob, Hid (opB x = ob) := ⟨_, rfl⟩
      have hop := hid (refOpens_calls x ob hob)
      clear h58 h44
      cases ob with
      | true =>
        rw [if_pos (.inl hob.out)] at hBv
        subst hBv
        go_wp2_with (first | (refine (hcl.out _).mono ?_; rintro e2 wa ⟨rfl, hwa⟩; rw [hwa]; clear hwa) | (refine (hop.out _).mono ?_; rintro e2 wa ⟨rfl, hwa⟩; rw [hwa]; clear hwa))
        go_ret
        exact ⟨rfl, hb3.out⟩
      | false =>
        by_cases h0 : a = 0
        · rw [if_pos (.inr (.inl h0))] at hBv
          subst hBv
          have g0 : ((a : Int) == 0) = true := by simp; omega
          clear h0
          go_wp2_with (first | (refine (hcl.out _).mono ?_; rintro e2 wa ⟨rfl, hwa⟩; rw [hwa]; clear hwa) | (refine (hop.out _).mono ?_; rintro e2 wa ⟨rfl, hwa⟩; rw [hwa]; clear hwa))
          go_ret
          exact ⟨rfl, hb3.out⟩
        have g0 : ((a : Int) == 0) = false := by simp; omega
        obtain ⟨p, hp⟩ : ∃ p, Hid (a - 1 = p) := ⟨_, rfl⟩
        have hpi : (a : Int) - 1 = (p : Int) := by have := hp.out; omega
        have hpl : p < s.size := by have := hp.out; omega
        have hpl2 : (p : Int) < (s.size : Int) := by omega
        have a1p : (⟨g1, 0, none⟩ : Addr).add p = ⟨g1, p, none⟩ := by by_cases h : p = 0 <;> simp [Addr.add, h]
        have c1p := hA1'.out.cell p
        rw [bool_at hpl] at c1p
        rw [hp.out] at hBv
        have hwr : IntKind.i64.wrap ((a : Int) - 1) = (p : Int) := by simp [IntKind.wrap, IntKind.signed, IntKind.bits]; omega
        cases hop1 : outS s p with
        | false =>
          rw [if_pos (.inr (.inr hop1))] at hBv
          subst hBv
          rw [hop1] at c1p
          clear h0
          go_wp2_with (first | (refine (hcl.out _).mono ?_; rintro e2 wa ⟨rfl, hwa⟩; rw [hwa]; clear hwa) | (refine (hop.out _).mono ?_; rintro e2 wa ⟨rfl, hwa⟩; rw [hwa]; clear hwa))
          go_ret
          exact ⟨rfl, hb3.out⟩
        | true =>
          rw [hop1] at c1p
          rw [if_neg (by rw [hob.out, hop1]; simp [h0])] at hBv
          obtain ⟨y, hY⟩ : ∃ y, Hid (byteAt s p = y) := ⟨_, rfl⟩
          have hy := byteAt_eq s p hpl
          rw [hY.out] at hy hBv
          have hyl : y < 256 := by rw [← hy]; exact (s[p]'hpl).toNat_lt
          have hbc := hid (blank16_calls y hyl)
          clear h0
          cases hby : blankN y with
          | true =>
            rw [hby, Bool.true_or] at hBv
            subst hBv
            rw [hby] at hbc
            go_wp2_with (first | (refine (hcl.out _).mono ?_; rintro e2 wa ⟨rfl, hwa⟩; rw [hwa]; clear hwa) | (refine (hop.out _).mono ?_; rintro e2 wa ⟨rfl, hwa⟩; rw [hwa]; clear hwa) | (refine (hbc.out _).mono ?_; rintro e2 wa ⟨rfl, hwa⟩; rw [hwa]; clear hwa))
            go_ret
            exact ⟨rfl, hb3.out⟩
          | false =>
            rw [hby, Bool.false_or] at hBv
            rw [hby] at hbc
            by_cases y58 : y = 58
            · have hB1 : B = true := by rw [hBv, y58]; rfl
              subst hB1
              have k58 : ((y : Int) == 58) = true := by simp; omega
              clear y58 hBv
              go_wp2_with (first | (refine (hcl.out _).mono ?_; rintro e2 wa ⟨rfl, hwa⟩; rw [hwa]; clear hwa) | (refine (hop.out _).mono ?_; rintro e2 wa ⟨rfl, hwa⟩; rw [hwa]; clear hwa) | (refine (hbc.out _).mono ?_; rintro e2 wa ⟨rfl, hwa⟩; rw [hwa]; clear hwa))
              go_ret
              exact ⟨rfl, hb3.out⟩
            have k58 : ((y : Int) == 58) = false := by simp; omega
            by_cases y44 : y = 44
            · have hB1 : B = true := by rw [hBv, y44]; rfl
              subst hB1
              have k44 : ((y : Int) == 44) = true := by simp; omega
              clear y44 hBv
              go_wp2_with (first | (refine (hcl.out _).mono ?_; rintro e2 wa ⟨rfl, hwa⟩; rw [hwa]; clear hwa) | (refine (hop.out _).mono ?_; rintro e2 wa ⟨rfl, hwa⟩; rw [hwa]; clear hwa) | (refine (hbc.out _).mono ?_; rintro e2 wa ⟨rfl, hwa⟩; rw [hwa]; clear hwa))
              go_ret
              exact ⟨rfl, hb3.out⟩
            have k44 : ((y : Int) == 44) = false := by simp; omega
            by_cases y91 : y = 91
            · have hB1 : B = true := by rw [hBv, y91]; rfl
              subst hB1
              have k91 : ((y : Int) == 91) = true := by simp; omega
              clear y91 hBv
              go_wp2_with (first | (refine (hcl.out _).mono ?_; rintro e2 wa ⟨rfl, hwa⟩; rw [hwa]; clear hwa) | (refine (hop.out _).mono ?_; rintro e2 wa ⟨rfl, hwa⟩; rw [hwa]; clear hwa) | (refine (hbc.out _).mono ?_; rintro e2 wa ⟨rfl, hwa⟩; rw [hwa]; clear hwa))
              go_ret
              exact ⟨rfl, hb3.out⟩
            have k91 : ((y : Int) == 91) = false := by simp; omega
            have hB1 : B = false := by rw [hBv]; simp [y58, y44, y91]
            subst hB1
            clear y58 y44 y91 hBv
            go_wp2_with (first | (refine (hcl.out _).mono ?_; rintro e2 wa ⟨rfl, hwa⟩; rw [hwa]; clear hwa) | (refine (hop.out _).mono ?_; rintro e2 wa ⟨rfl, hwa⟩; rw [hwa]; clear hwa) | (refine (hbc.out _).mono ?_; rintro e2 wa ⟨rfl, hwa⟩; rw [hwa]; clear hwa))
            go_ret
            exact ⟨rfl, hb3.out⟩

set_option maxRecDepth 10000 in
theorem beg16_out (s : ByteArray) (hs : s.size ≤ 1048576) (a : Int) (ha : a < 0 ∨ (s.size : Int) ≤ a) (w : World) :
    Calls Tryz.prog 30 #[.string s, .int .i64 a] w fun e w' => e = .returned (.bool false) ∧ Below w.heap.size w w' := by
  have hsi : (s.size : Int) ≤ 1048576 := by omega
  rcases ha with h | h
  · go_enter Tryz.func30, Tryz.ntmps30
    go_wp2
    go_ret
    exact ⟨rfl, by repeat (first | with_reducible exact Below.refl _ _ | with_reducible refine Below.setCell ?_ (by first | (simp; done) | (simp; omega)) _ | with_reducible refine below_drewN ?_ _ | with_reducible refine Below.alloc ?_ (by first | (simp; done) | (simp; omega)) _ | with_reducible refine Below.drew ?_)⟩
  · have h0 : ¬ a < 0 := by omega
    go_enter Tryz.func30, Tryz.ntmps30
    go_wp2
    go_ret
    exact ⟨rfl, by repeat (first | with_reducible exact Below.refl _ _ | with_reducible refine Below.setCell ?_ (by first | (simp; done) | (simp; omega)) _ | with_reducible refine below_drewN ?_ _ | with_reducible refine Below.alloc ?_ (by first | (simp; done) | (simp; omega)) _ | with_reducible refine Below.drew ?_)⟩
set_option maxRecDepth 10000 in
theorem beg16_blank (s : ByteArray) (hs : s.size ≤ 1048576) (a : Nat) (ha : a < s.size) (hbk : blankN (byteAt s a) = true) (w : World) :
    Calls Tryz.prog 30 #[.string s, .int .i64 (a : Int)] w fun e w' => e = .returned (.bool false) ∧ Below w.heap.size w w' := by
  have hsi : (s.size : Int) ≤ 1048576 := by omega
  have hai : (a : Int) < (s.size : Int) := by omega
  have hai2 : ¬ (s.size : Int) ≤ (a : Int) := by omega
  obtain ⟨x, hX⟩ : ∃ x, Hid (byteAt s a = x) := ⟨_, rfl⟩
  have hx := byteAt_eq s a ha
  rw [hX.out] at hx hbk
  have hxl : x < 256 := by rw [← hx]; exact (s[a]'ha).toNat_lt
  have hbx := hid (blank16_calls x hxl)
  rw [hbk] at hbx
  clear hbk
  go_enter Tryz.func30, Tryz.ntmps30
  go_wp2_with (first | (refine (hbx.out _).mono ?_; rintro e2 wa ⟨rfl, hwa⟩; rw [hwa]; clear hwa))
  go_ret
  exact ⟨rfl, by repeat (first | with_reducible exact Below.refl _ _ | with_reducible refine Below.setCell ?_ (by first | (simp; done) | (simp; omega)) _ | with_reducible refine below_drewN ?_ _ | with_reducible refine Below.alloc ?_ (by first | (simp; done) | (simp; omega)) _ | with_reducible refine Below.drew ?_)⟩
theorem beg16_calls (s : ByteArray) (hs : s.size ≤ 1048576) (a : Nat) (ha : a < s.size) (B : Bool) (hB : Hid (IsBeg s a B)) (w : World) :
    Calls Tryz.prog 30 #[.string s, .int .i64 (a : Int)] w fun e w' => e = .returned (.bool B) ∧ Below w.heap.size w w' := by
  rcases hB.out with ⟨h1, rfl⟩ | ⟨h1, h2, h3, E, k, h4, h5, h6⟩ | ⟨h1, h2, h3⟩
  · exact beg16_blank s hs a ha h1 w
  · exact beg16_text s hs a ha B h1 h2 h3 E k (hid h4) (hid h5) (hid h6) w
  · exact beg16_other s hs a ha B h1 h2 h3 w
end Go.Proofs.YtlckhiflhnlgpaaGreatDoor

/- What the reference's Value answers. -/
namespace Go.Proofs.YtlckhiflhnlgpaaGreatDoor
open Go.RowKit Go.Shelf

set_option maxRecDepth 10000 in
set_option maxHeartbeats 1000000 in
theorem val16_calls (s : ByteArray) (hs : s.size ≤ 1048576) (a : Int) (n E : Int) (hV : Hid (IsVal s a n E)) (w : World) :
    Calls Tryz.prog 18 #[.string s, .int .i64 a] w fun e w' => e = .returned (.tuple #[.int .i64 n, .int .i64 E]) ∧ Below w.heap.size w w' := by
  obtain ⟨C, A, F, hC, hv⟩ := hV.out
  have hC' := hid hC
  have hv' := hid hv
  have hchk := hid (check16_calls s hs 1024 w)
  have hsi : (s.size : Int) ≤ 1048576 := by omega
  clear hC hv hV
  go_enter Tryz.func18, Tryz.ntmps18
  go_wp2_with fail
  refine hchk.out.mono ?_
  rintro e w1 ⟨C', A', E', rfl, hI, hb1⟩
  obtain ⟨rfl, rfl, rfl⟩ := hI.uniq hC'.out
  have hA := At.new w1 #[.int .i64 (C' : Int), .int .i64 (A' : Int)] 23
  have hbw := hb1.alloc hb1.size (.cells #[.int .i64 (C' : Int), .int .i64 (A' : Int)] 23)
  obtain ⟨W, hW⟩ : ∃ W, w1.alloc (.cells #[.int .i64 (C' : Int), .int .i64 (A' : Int)] 23) = W := ⟨_, rfl⟩
  rw [hW] at hA hbw
  have c0 := hA.cell 0
  simp only [List.getElem?_toArray, List.getElem?_cons_zero] at c0
  have hbw' := hid hbw
  clear hb1 hI hA hchk hC' hbw
  rcases hv'.out with ⟨h1, rfl, rfl⟩ | ⟨rfl, h⟩
  · have g1 : ((C' : Int) != 1) = true := by simp; omega
    clear h1
    go_wp2
    exact bodyPost_ret (v := .tuple #[.int .i64 0, .int .i64 160]) (by simp [results, Tryz.results18, go_sem]; try decide) rfl ⟨rfl, hbw'.out⟩
  · replace hW : w1.alloc (.cells #[.int .i64 1, .int .i64 (A' : Int)] 23) = W := hW
    replace c0 : W.cell? ⟨w1.heap.size, 0, none⟩ = some (.int .i64 1) := c0
    rcases h with ⟨h2, rfl, rfl⟩ | ⟨k, rfl, hk, h⟩
    · go_wp2_with fail
      refine (beg16_out s hs a h2 W).mono ?_
      rintro e w2 ⟨rfl, hb2⟩
      have hb2' := hid (hbw'.out.trans (hb2.mono hbw'.out.size))
      clear hb2
      go_wp2
      exact bodyPost_ret (v := .tuple #[.int .i64 0, .int .i64 2]) (by simp [results, Tryz.results18, go_sem]; try decide) rfl ⟨rfl, hb2'.out⟩
    · rcases h with ⟨h3, rfl, rfl⟩ | ⟨h3, h4, rfl⟩
      · go_wp2_with fail
        refine (beg16_calls s hs k hk false (hid h3) W).mono ?_
        rintro e w2 ⟨rfl, hb2⟩
        have hb2' := hid (hbw'.out.trans (hb2.mono hbw'.out.size))
        clear hb2
        go_wp2
        exact bodyPost_ret (v := .tuple #[.int .i64 0, .int .i64 2]) (by simp [results, Tryz.results18, go_sem]; try decide) rfl ⟨rfl, hb2'.out⟩
      · have h3' := hid h3
        have h4' := hid h4
        clear h3 h4
        go_wp2_with fail
        refine (beg16_calls s hs k hk true h3' W).mono ?_
        rintro e w2 ⟨rfl, hb2⟩
        have hb2' := hid (hbw'.out.trans (hb2.mono hbw'.out.size))
        clear hb2
        go_wp2_with fail
        refine (end16_calls s hs k hk n h4' w2).mono ?_
        rintro e w3 ⟨rfl, hb3⟩
        have hb3' := hid (hb2'.out.trans (hb3.mono hb2'.out.size))
        clear hb3
        go_wp2
        exact bodyPost_ret (v := .tuple #[.int .i64 n, .int .i64 0]) (by simp [results, Tryz.results18, go_sem]; try decide) rfl ⟨rfl, hb3'.out⟩
end Go.Proofs.YtlckhiflhnlgpaaGreatDoor
