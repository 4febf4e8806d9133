/-
  The walk of quarrylaw03.WordsOrders.
-/
import Derived.Test.YtkoillfkillohabDoorSelectWalk
namespace Go.Proofs.YtkoillfkillohabDoor
open Go.RowKit Go.Shelf

/-- What Select answers: nothing, or a place that is set and has just so many set ones below it. -/
theorem selW_cases (x : Nat) (k : Int) : (selW x k = -1 ∧ (k < 0 ∨ (cnt x 64 : Int) ≤ k)) ∨ ∃ p : Nat, selW x k = (p : Int) ∧ p < 64 ∧ x.testBit p = true ∧ ((cnt x p : Nat) : Int) = k ∧ k < (cnt x 64 : Int) := by
  have hl : (places x).length = cnt x 64 := below_len x 64
  by_cases h : k < 0
  · exact .inl ⟨selW_none (.inl h), .inl h⟩
  · obtain ⟨K, rfl⟩ := Int.eq_ofNat_of_zero_le (show 0 ≤ k by omega)
    by_cases h2 : K < cnt x 64
    · have hK : (places x)[K]? = some ((places x)[K]'(by omega)) := List.getElem?_eq_getElem _
      obtain ⟨h3, h4, h5⟩ := place_rank hK
      refine .inr ⟨_, ?_, h3, h4, by rw [h5], by omega⟩
      rw [selW, if_pos (by omega), Int.toNat_natCast, hK]
    · exact .inl ⟨selW_none (.inr (by omega)), .inr (by omega)⟩
theorem rankW_nat (x i : Nat) (hi : i ≤ 64) : rankW x (i : Int) = cnt x i := by rw [rankW, Int.toNat_natCast, Nat.min_eq_left hi]
theorem selW_back {x i : Nat} (hi : i < 64) (hb : x.testBit i = true) : selW x ((cnt x i : Nat) : Int) = (i : Int) := by
  rw [selW, if_pos (by omega), Int.toNat_natCast, place_at hi hb]
theorem neq_one (x i : Nat) (hx : x < 18446744073709551616) : (bits BinOp.and IntKind.u64 ((x : Int) / 2 ^ i) 1 != 1) = !x.testBit i := by
  rw [bne, has_eq x i hx]

set_option maxRecDepth 10000 in
set_option maxHeartbeats 2000000 in
theorem orders_nat (x : Nat) (k i : Int) (hx : x < 18446744073709551616) (hi0 : -9223372036854775808 ≤ i) (hi1 : i ≤ 9223372036854775807) (w : World) (hT : Tab w) (h0 : 0 < w.heap.size) :
    Calls Tryd.prog 3 #[.int .u64 (x : Int), .int .i64 k, .int .i64 i] w fun e w' => e = .returned (.bool true) ∧ Below w.heap.size w w' := by
  obtain ⟨S, hS⟩ : ∃ S, Hid (selW x k = S) := ⟨_, rfl⟩
  obtain ⟨C, hC⟩ : ∃ C, Hid (rankW x 64 = C) := ⟨_, rfl⟩
  have hC' : cnt x 64 = C := (rankW_nat x 64 (Nat.le_refl _)).symm.trans hC.out
  have hC2 : Hid (cnt x 64 = C) := hC'
  have hcase := selW_cases x k
  rw [hS.out, hC'] at hcase
  have hcase' : Hid _ := hcase
  clear hcase
  go_enter Tryd.func3, Tryd.ntmps3
  go_wp2_with fail
  refine (select_calls x k S hx hS _ hT h0).mono ?_
  rintro e w1 ⟨rfl, hb⟩
  have hT1 := hT.below hb h0
  have h1 : 0 < w1.heap.size := Nat.lt_of_lt_of_le h0 hb.size
  rcases hcase'.out with ⟨rfl, hk⟩ | ⟨p, rfl, hp, hbit, hck, hlt⟩
  · clear hcase' hC'
    by_cases k0 : k < 0
    · clear hk
      by_cases i0 : i < 0
      · have r1 : Hid (rankW x i = 0) := by show _ = _; rw [rankW, show min i.toNat 64 = 0 by omega]; rfl
        have r2 : Hid (rankW x (i + 1) = 0) := by show _ = _; rw [rankW, show min (i + 1).toNat 64 = 0 by omega]; rfl
        go_wp2_with fail
        refine (rank_calls x 0 (i) hx r1 _).mono ?_
        rintro e wa ⟨rfl, rfl⟩
        go_wp2_with fail
        refine (rank_calls x 0 (i + 1) hx r2 _).mono ?_
        rintro e wb ⟨rfl, rfl⟩
        go_wp2
        go_ret
        exact ⟨rfl, hb⟩
      · by_cases i1 : 63 < i
        · have r1 : Hid (rankW x i = C) := by show _ = _; rw [rankW, show min i.toNat 64 = 64 by omega]; exact hC2.out
          by_cases i2 : i = 9223372036854775807
          · subst i2
            have r2 : Hid (rankW x (wrap64 9223372036854775808) = 0) := by show _ = _; rw [show wrap64 9223372036854775808 = -9223372036854775808 by first | (unfold wrap64; omega) | rfl, rankW]; rfl
            go_wp2_with fail
            refine (rank_calls x C (9223372036854775807) hx r1 _).mono ?_
            rintro e wa ⟨rfl, rfl⟩
            go_wp2_with fail
            refine (rank_calls x 0 (wrap64 9223372036854775808) hx r2 _).mono ?_
            rintro e wb ⟨rfl, rfl⟩
            by_cases c0 : C = 0
            · subst c0
              go_wp2
              go_ret
              exact ⟨rfl, hb⟩
            · have c1 : ((C : Int) == 0) = false := by simpa using c0
              go_wp2
              go_ret
              exact ⟨rfl, hb⟩
          · have r2 : Hid (rankW x (i + 1) = C) := by show _ = _; rw [rankW, show min (i + 1).toNat 64 = 64 by omega]; exact hC2.out
            have i3 : i + 1 ≤ 9223372036854775807 := by omega
            go_wp2_with fail
            refine (rank_calls x C (i) hx r1 _).mono ?_
            rintro e wa ⟨rfl, rfl⟩
            go_wp2_with fail
            refine (rank_calls x C (i + 1) hx r2 _).mono ?_
            rintro e wb ⟨rfl, rfl⟩
            go_wp2
            go_ret
            exact ⟨rfl, hb⟩
        · obtain ⟨I, rfl⟩ := Int.eq_ofNat_of_zero_le (show 0 ≤ i by omega)
          have hI : I < 64 := by omega
          obtain ⟨R0, hR0⟩ : ∃ R0, Hid (cnt x I = R0) := ⟨_, rfl⟩
          have r0 : Hid (rankW x (I : Int) = R0) := (rankW_nat x I (by omega)).trans hR0.out
          have hRl : R0 ≤ I := hR0.out ▸ cnt_le x I
          have e2 := has_eq x I hx
          clear hi0 hi1 i0 i1
          cases hbi : x.testBit I
          · have r1 : Hid (rankW x ((I : Int) + 1) = R0) := (rankW_nat x (I + 1) (by omega)).trans (by rw [cnt_succ, hbi, hR0.out]; rfl)
            rw [hbi] at e2
            go_wp2_with fail
            refine (rank_calls x R0 ((I : Int) + 1) hx r1 _).mono ?_
            rintro e wa ⟨rfl, rfl⟩
            go_wp2_with fail
            refine (rank_calls x R0 (I) hx r0 _).mono ?_
            rintro e wb ⟨rfl, rfl⟩
            go_wp2
            go_ret
            exact ⟨rfl, hb⟩
          · have r1 : Hid (rankW x ((I : Int) + 1) = R0 + 1) := (rankW_nat x (I + 1) (by omega)).trans (by rw [cnt_succ, hbi, hR0.out]; rfl)
            have hsb : Hid (selW x (R0 : Int) = (I : Int)) := by show _ = _; rw [← hR0.out]; exact selW_back hI hbi
            rw [hbi] at e2
            go_wp2_with fail
            refine (rank_calls x (R0 + 1) ((I : Int) + 1) hx r1 _).mono ?_
            rintro e wa ⟨rfl, rfl⟩
            go_wp2_with fail
            refine (rank_calls x R0 (I) hx r0 _).mono ?_
            rintro e wb ⟨rfl, rfl⟩
            go_wp2_with fail
            refine (rank_calls x R0 (I) hx r0 _).mono ?_
            rintro e wc ⟨rfl, rfl⟩
            go_wp2_with fail
            refine (select_calls x R0 I hx hsb _ hT1 h1).mono ?_
            rintro e wd ⟨rfl, hbd⟩
            have hb := hb.trans (hbd.mono hb.size)
            go_wp2
            go_ret
            exact ⟨rfl, hb⟩
    · have k1 : (C : Int) ≤ k := by omega
      clear hk
      go_wp2_with fail
      refine (rank_calls x C 64 hx hC _).mono ?_
      rintro e w2 ⟨rfl, rfl⟩
      by_cases i0 : i < 0
      · have r1 : Hid (rankW x i = 0) := by show _ = _; rw [rankW, show min i.toNat 64 = 0 by omega]; rfl
        have r2 : Hid (rankW x (i + 1) = 0) := by show _ = _; rw [rankW, show min (i + 1).toNat 64 = 0 by omega]; rfl
        go_wp2_with fail
        refine (rank_calls x 0 (i) hx r1 _).mono ?_
        rintro e wa ⟨rfl, rfl⟩
        go_wp2_with fail
        refine (rank_calls x 0 (i + 1) hx r2 _).mono ?_
        rintro e wb ⟨rfl, rfl⟩
        go_wp2
        go_ret
        exact ⟨rfl, hb⟩
      · by_cases i1 : 63 < i
        · have r1 : Hid (rankW x i = C) := by show _ = _; rw [rankW, show min i.toNat 64 = 64 by omega]; exact hC2.out
          by_cases i2 : i = 9223372036854775807
          · subst i2
            have r2 : Hid (rankW x (wrap64 9223372036854775808) = 0) := by show _ = _; rw [show wrap64 9223372036854775808 = -9223372036854775808 by first | (unfold wrap64; omega) | rfl, rankW]; rfl
            go_wp2_with fail
            refine (rank_calls x C (9223372036854775807) hx r1 _).mono ?_
            rintro e wa ⟨rfl, rfl⟩
            go_wp2_with fail
            refine (rank_calls x 0 (wrap64 9223372036854775808) hx r2 _).mono ?_
            rintro e wb ⟨rfl, rfl⟩
            by_cases c0 : C = 0
            · subst c0
              go_wp2
              go_ret
              exact ⟨rfl, hb⟩
            · have c1 : ((C : Int) == 0) = false := by simpa using c0
              go_wp2
              go_ret
              exact ⟨rfl, hb⟩
          · have r2 : Hid (rankW x (i + 1) = C) := by show _ = _; rw [rankW, show min (i + 1).toNat 64 = 64 by omega]; exact hC2.out
            have i3 : i + 1 ≤ 9223372036854775807 := by omega
            go_wp2_with fail
            refine (rank_calls x C (i) hx r1 _).mono ?_
            rintro e wa ⟨rfl, rfl⟩
            go_wp2_with fail
            refine (rank_calls x C (i + 1) hx r2 _).mono ?_
            rintro e wb ⟨rfl, rfl⟩
            go_wp2
            go_ret
            exact ⟨rfl, hb⟩
        · obtain ⟨I, rfl⟩ := Int.eq_ofNat_of_zero_le (show 0 ≤ i by omega)
          have hI : I < 64 := by omega
          obtain ⟨R0, hR0⟩ : ∃ R0, Hid (cnt x I = R0) := ⟨_, rfl⟩
          have r0 : Hid (rankW x (I : Int) = R0) := (rankW_nat x I (by omega)).trans hR0.out
          have hRl : R0 ≤ I := hR0.out ▸ cnt_le x I
          have e2 := has_eq x I hx
          clear hi0 hi1 i0 i1
          cases hbi : x.testBit I
          · have r1 : Hid (rankW x ((I : Int) + 1) = R0) := (rankW_nat x (I + 1) (by omega)).trans (by rw [cnt_succ, hbi, hR0.out]; rfl)
            rw [hbi] at e2
            go_wp2_with fail
            refine (rank_calls x R0 ((I : Int) + 1) hx r1 _).mono ?_
            rintro e wa ⟨rfl, rfl⟩
            go_wp2_with fail
            refine (rank_calls x R0 (I) hx r0 _).mono ?_
            rintro e wb ⟨rfl, rfl⟩
            go_wp2
            go_ret
            exact ⟨rfl, hb⟩
          · have r1 : Hid (rankW x ((I : Int) + 1) = R0 + 1) := (rankW_nat x (I + 1) (by omega)).trans (by rw [cnt_succ, hbi, hR0.out]; rfl)
            have hsb : Hid (selW x (R0 : Int) = (I : Int)) := by show _ = _; rw [← hR0.out]; exact selW_back hI hbi
            rw [hbi] at e2
            go_wp2_with fail
            refine (rank_calls x (R0 + 1) ((I : Int) + 1) hx r1 _).mono ?_
            rintro e wa ⟨rfl, rfl⟩
            go_wp2_with fail
            refine (rank_calls x R0 (I) hx r0 _).mono ?_
            rintro e wb ⟨rfl, rfl⟩
            go_wp2_with fail
            refine (rank_calls x R0 (I) hx r0 _).mono ?_
            rintro e wc ⟨rfl, rfl⟩
            go_wp2_with fail
            refine (select_calls x R0 I hx hsb _ hT1 h1).mono ?_
            rintro e wd ⟨rfl, hbd⟩
            have hb := hb.trans (hbd.mono hb.size)
            go_wp2
            go_ret
            exact ⟨rfl, hb⟩
  · have e1 := neq_one x p hx
    rw [hbit] at e1
    have rp : Hid (rankW x (p : Int) = cnt x p) := rankW_nat x p (by omega)
    obtain ⟨P, hP⟩ : ∃ P, cnt x p = P := ⟨_, rfl⟩
    rw [hP] at rp hck
    subst hck
    have k0 : ¬ (P : Int) < 0 := by omega
    have k1 : ¬ C ≤ P := by omega
    have k2 : ((p : Int) < -1) = False := by first | (simp; done) | (simp; omega)
    have k3 : ((63 : Int) < p) = False := by first | (simp; done) | (simp; omega)
    clear hcase' hC' hP hlt
    go_wp2_with fail
    refine (rank_calls x P p hx rp _).mono ?_
    rintro e w2 ⟨rfl, rfl⟩
    go_wp2_with fail
    refine (rank_calls x C 64 hx hC _).mono ?_
    rintro e w3 ⟨rfl, rfl⟩
    by_cases i0 : i < 0
    · have r1 : Hid (rankW x i = 0) := by show _ = _; rw [rankW, show min i.toNat 64 = 0 by omega]; rfl
      have r2 : Hid (rankW x (i + 1) = 0) := by show _ = _; rw [rankW, show min (i + 1).toNat 64 = 0 by omega]; rfl
      go_wp2_with fail
      refine (rank_calls x 0 (i) hx r1 _).mono ?_
      rintro e wa ⟨rfl, rfl⟩
      go_wp2_with fail
      refine (rank_calls x 0 (i + 1) hx r2 _).mono ?_
      rintro e wb ⟨rfl, rfl⟩
      go_wp2
      go_ret
      exact ⟨rfl, hb⟩
    · by_cases i1 : 63 < i
      · have r1 : Hid (rankW x i = C) := by show _ = _; rw [rankW, show min i.toNat 64 = 64 by omega]; exact hC2.out
        by_cases i2 : i = 9223372036854775807
        · subst i2
          have r2 : Hid (rankW x (wrap64 9223372036854775808) = 0) := by show _ = _; rw [show wrap64 9223372036854775808 = -9223372036854775808 by first | (unfold wrap64; omega) | rfl, rankW]; rfl
          go_wp2_with fail
          refine (rank_calls x C (9223372036854775807) hx r1 _).mono ?_
          rintro e wa ⟨rfl, rfl⟩
          go_wp2_with fail
          refine (rank_calls x 0 (wrap64 9223372036854775808) hx r2 _).mono ?_
          rintro e wb ⟨rfl, rfl⟩
          by_cases c0 : C = 0
          · subst c0
            go_wp2
            go_ret
            exact ⟨rfl, hb⟩
          · have c1 : ((C : Int) == 0) = false := by simpa using c0
            go_wp2
            go_ret
            exact ⟨rfl, hb⟩
        · have r2 : Hid (rankW x (i + 1) = C) := by show _ = _; rw [rankW, show min (i + 1).toNat 64 = 64 by omega]; exact hC2.out
          have i3 : i + 1 ≤ 9223372036854775807 := by omega
          go_wp2_with fail
          refine (rank_calls x C (i) hx r1 _).mono ?_
          rintro e wa ⟨rfl, rfl⟩
          go_wp2_with fail
          refine (rank_calls x C (i + 1) hx r2 _).mono ?_
          rintro e wb ⟨rfl, rfl⟩
          go_wp2
          go_ret
          exact ⟨rfl, hb⟩
      · obtain ⟨I, rfl⟩ := Int.eq_ofNat_of_zero_le (show 0 ≤ i by omega)
        have hI : I < 64 := by omega
        obtain ⟨R0, hR0⟩ : ∃ R0, Hid (cnt x I = R0) := ⟨_, rfl⟩
        have r0 : Hid (rankW x (I : Int) = R0) := (rankW_nat x I (by omega)).trans hR0.out
        have hRl : R0 ≤ I := hR0.out ▸ cnt_le x I
        have e2 := has_eq x I hx
        clear hi0 hi1 i0 i1
        cases hbi : x.testBit I
        · have r1 : Hid (rankW x ((I : Int) + 1) = R0) := (rankW_nat x (I + 1) (by omega)).trans (by rw [cnt_succ, hbi, hR0.out]; rfl)
          rw [hbi] at e2
          go_wp2_with fail
          refine (rank_calls x R0 ((I : Int) + 1) hx r1 _).mono ?_
          rintro e wa ⟨rfl, rfl⟩
          go_wp2_with fail
          refine (rank_calls x R0 (I) hx r0 _).mono ?_
          rintro e wb ⟨rfl, rfl⟩
          go_wp2
          go_ret
          exact ⟨rfl, hb⟩
        · have r1 : Hid (rankW x ((I : Int) + 1) = R0 + 1) := (rankW_nat x (I + 1) (by omega)).trans (by rw [cnt_succ, hbi, hR0.out]; rfl)
          have hsb : Hid (selW x (R0 : Int) = (I : Int)) := by show _ = _; rw [← hR0.out]; exact selW_back hI hbi
          rw [hbi] at e2
          go_wp2_with fail
          refine (rank_calls x (R0 + 1) ((I : Int) + 1) hx r1 _).mono ?_
          rintro e wa ⟨rfl, rfl⟩
          go_wp2_with fail
          refine (rank_calls x R0 (I) hx r0 _).mono ?_
          rintro e wb ⟨rfl, rfl⟩
          go_wp2_with fail
          refine (rank_calls x R0 (I) hx r0 _).mono ?_
          rintro e wc ⟨rfl, rfl⟩
          go_wp2_with fail
          refine (select_calls x R0 I hx hsb _ hT1 h1).mono ?_
          rintro e wd ⟨rfl, hbd⟩
          have hb := hb.trans (hbd.mono hb.size)
          go_wp2
          go_ret
          exact ⟨rfl, hb⟩

theorem wordsOrders_walk (x : Int) (hx : (Lit.int .u64 x).wf = true) (k : Int) (_ : (Lit.int .i64 k).wf = true) (i : Int) (hi : (Lit.int .i64 i).wf = true) (w : World) (hT : Tab w) (h0 : 0 < w.heap.size) :
    Calls Tryd.prog 3 #[.int .u64 x, .int .i64 k, .int .i64 i] w fun e w' => e = .returned (.bool true) ∧ Below w.heap.size w w' := by
  obtain ⟨c0, c1⟩ := wf_u64 hx
  obtain ⟨d0, d1⟩ := wf_i64 hi
  obtain ⟨X, rfl⟩ := Int.eq_ofNat_of_zero_le c0
  exact orders_nat X k i (by omega) d0 (by omega) w hT h0
end Go.Proofs.YtkoillfkillohabDoor
