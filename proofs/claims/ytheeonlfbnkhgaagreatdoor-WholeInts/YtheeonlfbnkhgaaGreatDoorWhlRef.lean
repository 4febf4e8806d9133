/-
  What the reference's above, worth and Plain answer.
-/
import Derived.Test.YtheeonlfbnkhgaaGreatDoorWhlAbv
namespace Go.Proofs.YtheeonlfbnkhgaaGreatDoor
open Go.RowKit Go.Shelf

set_option maxRecDepth 10000 in
theorem above_calls (a b : ByteArray) (R : Bool) (hR : Hid (abvS a b = R)) (w : World) :
    Calls Tryz.prog 36 #[.string a, .string b] w fun e w' => e = .returned (.bool R) ∧ w' = w := by
  by_cases h : a.size = b.size
  · have e1 : ((a.size : Int) != (b.size : Int)) = false := by simp [h]
    have hv := hR.out
    rw [abvS, if_neg (by omega)] at hv
    have hv' := hid hv
    clear hR hv h
    go_enter Tryz.func36, Tryz.ntmps36
    go_wp2
    go_ret
    exact ⟨by rw [← hv'.out]; rfl, rfl⟩
  · have e1 : ((a.size : Int) != (b.size : Int)) = true := by simp; omega
    have hv := hR.out
    rw [abvS, if_pos (by omega)] at hv
    have hv' := hid hv
    clear hR hv h
    go_enter Tryz.func36, Tryz.ntmps36
    go_wp2
    go_ret
    exact ⟨by rw [← hv'.out]; rfl, rfl⟩
theorem u64_in {x : Nat} (h : x < 18446744073709551616) : IntKind.u64.wrap (x : Int) = (x : Int) := kw_id .u64 _ (by show (0 : Int) ≤ _; omega) (by show _ ≤ (18446744073709551615 : Int); omega)
set_option maxRecDepth 10000 in
theorem worthU_calls (D : ByteArray) (hd : Hid (AllD D)) (hs : D.size ≤ 281474976710656) (M : Nat) (hM : Hid (pwN D.data.toList = M)) (h64 : Hid (M < 18446744073709551616)) (w : World) :
    Calls Tryz.prog 38 #[.string D] w fun e w' => e = .returned (.int .u64 (M : Int)) ∧ w' = w := by
  go_enter Tryz.func38, Tryz.ntmps38
  go_wp2
  go_loop [3, 4] (fun nn ii => ∃ (i m : Nat), i ≤ D.size ∧ ii = .int .i64 (i : Int) ∧ nn = .int .u64 (m : Int) ∧ Hid (m = pwN (D.data.toList.take i))) (fun _ ii => D.size - (intOf ii).toNat)
  case atStart => exact ⟨0, 0, Nat.zero_le _, rfl, rfl, by show _ = _; simp [pwN]⟩
  case round =>
    obtain ⟨i, m, hi, rfl, rfl, hm⟩ := hrel
    by_cases hin : i < D.size
    · have e1 : decide ((i : Int) < (D.size : Int)) = true := by simp; omega
      obtain ⟨x, hx⟩ : ∃ x : UInt8, D[i]'hin = x := ⟨_, rfl⟩
      have hxl : lk D i = x.toNat := by rw [lk_at D i hin, hx]
      have hdg := hd.out i hin
      rw [hxl] at hdg
      obtain ⟨d, hdd⟩ : ∃ d : Nat, x.toNat - 48 = d := ⟨_, rfl⟩
      have h9 : d ≤ 9 := by have := (dgB_iff _).1 hdg; omega
      have e2 : IntKind.u8.wrap ((x.toNat : Int) - 48) = (d : Int) := by rw [u8_dig hdg, hdd]
      have hnx : 10 * m + d = pwN (D.data.toList.take (i + 1)) := by rw [pw_take D i hin, hm.out, hxl, hdd]
      have hle : 10 * m + d < 18446744073709551616 := by
        have := pw_mono D.data.toList (i + 1)
        have h1 := h64.out
        rw [← hM.out] at h1
        omega
      obtain ⟨m2, hm2⟩ : ∃ m2, 10 * m + d = m2 := ⟨_, rfl⟩
      have e3 : IntKind.u64.wrap (d : Int) = (d : Int) := u64_in (by omega)
      have e4 : IntKind.u64.wrap ((m : Int) * 10) = ((10 * m : Nat) : Int) := by rw [show (m : Int) * 10 = ((10 * m : Nat) : Int) by omega]; exact u64_in (by omega)
      have e5 : IntKind.u64.wrap (((10 * m : Nat) : Int) + (d : Int)) = (m2 : Int) := by rw [show ((10 * m : Nat) : Int) + (d : Int) = (m2 : Int) by omega]; exact u64_in (by omega)
      obtain ⟨q, hq⟩ : ∃ q, 10 * m = q := ⟨_, rfl⟩
      rw [hq] at e4 e5
      have hm2' := hid (show m2 = pwN (D.data.toList.take (i + 1)) by rw [← hm2, hnx])
      clear hm2 hnx hle hq hdd hdg hxl h9 hm
      go_wp2
      go_round
      case rel => exact ⟨i + 1, m2, by omega, by simp, rfl, hm2'⟩
      case measure => simp [intOf]; omega
    · have e1 : decide ((i : Int) < (D.size : Int)) = false := by simp; omega
      obtain rfl : i = D.size := by omega
      have hmM := hid (show m = M by rw [hm.out, List.take_of_length_le (by rw [size_list]; exact Nat.le_refl _), hM.out])
      clear hm
      go_wp2
      go_ret
      exact ⟨by rw [hmM.out]; rfl, rfl⟩
/-- What Plain answers. -/
def plT (s : ByteArray) : ByteArray × Bool × Nat :=
  if (ofS s).2 = 110 then (⟨#[]⟩, false, 110) else if hasP s then (⟨#[]⟩, false, 120) else (wdig s, decide (lk s 0 = 45), 0)
set_option maxRecDepth 10000 in
set_option maxHeartbeats 4000000 in
theorem plain_calls (s : ByteArray) (hs : s.size ≤ 281474976710656) (D : ByteArray) (B : Bool) (E : Nat) (hp : Hid (plT s = (D, B, E))) (w : World) :
    Calls Tryz.prog 35 #[.string s] w fun e w' => e = .returned (.tuple #[.string D, .bool B, .int .i64 (E : Int)]) ∧ Below w.heap.size w w' := by
  obtain ⟨r, hr⟩ : ∃ r, ofS s = r := ⟨_, rfl⟩
  obtain ⟨⟨dn, dd, dx⟩, er⟩ := r
  have ho := hid (fun w1 => refOf_calls s hs w1)
  have hov := hid (show ofV s = .tuple #[.agg #[.bool dn, .string ⟨dd.toArray⟩, .int .i64 dx], .int .i64 (er : Int)] by rw [ofV, hr]; rfl)
  rw [hov.out] at ho
  generalize (⟨dd.toArray⟩ : ByteArray) = TD at ho
  have he2 := hid (show (ofS s).2 = er by rw [hr])
  clear hov hr
  go_enter Tryz.func35, Tryz.ntmps35
  go_wp2_with fail
  refine Calls.mono (ho.out _) ?_
  rintro e w1 ⟨rfl, hb⟩
  have hb1 := hid (show Below w.heap.size w (w1.alloc (.cells #[.bool dn, .string TD, .int .i64 dx] 83)) from hb.alloc hb.size _)
  clear ho hb
  go_upto_region 2 with fail
  generalize w1.alloc (.cells #[.bool dn, .string TD, .int .i64 dx] 83) = w2 at hb1 ⊢
  by_cases h1 : er = 110
  · have e1 : ((er : Int) == 110) = true := by simp [h1]
    have hv := hp.out
    rw [plT, if_pos (by rw [he2.out]; exact h1)] at hv
    obtain ⟨rfl, rfl, rfl⟩ : (⟨#[]⟩ : ByteArray) = D ∧ false = B ∧ 110 = E := by simpa using hv
    clear h1 hv hp
    go_wp2
    refine bodyPost_ret (results_tmp3 rfl _ _ _) rfl ?_
    exact ⟨rfl, hb1.out⟩
  · have e1 : ((er : Int) == 110) = false := by simp; omega
    have hne := hid (show (ofS s).2 ≠ 110 by rw [he2.out]; exact h1)
    clear he2 h1
    go_wp2
    go_loop [7] (fun ii => ∃ (i : Nat), i ≤ s.size ∧ ii = .int .i64 (i : Int) ∧ Hid (∀ j, j < i → lk s j ≠ 46 ∧ lk s j ≠ 101 ∧ lk s j ≠ 69)) (fun ii => s.size - (intOf ii).toNat)
    case atStart => exact ⟨0, Nat.zero_le _, rfl, fun j hj => absurd hj (Nat.not_lt_zero _)⟩
    case round =>
      obtain ⟨i, hi, rfl, hno⟩ := hrel
      by_cases hin : i < s.size
      · have e2 : decide ((i : Int) < (s.size : Int)) = true := by simp; omega
        obtain ⟨x, hx⟩ : ∃ x : UInt8, s[i]'hin = x := ⟨_, rfl⟩
        have hxl := hid (show lk s i = x.toNat by rw [lk_at s i hin, hx])
        by_cases hh : x.toNat = 46 ∨ x.toNat = 101 ∨ x.toNat = 69
        · have hv := hp.out
          rw [plT, if_neg hne.out, if_pos ((hasP_iff s).2 ⟨i, hin, by rw [hxl.out]; exact hh⟩)] at hv
          obtain ⟨rfl, rfl, rfl⟩ : (⟨#[]⟩ : ByteArray) = D ∧ false = B ∧ 120 = E := by simpa using hv
          clear hv hp hno
          rcases hh with hh | hh | hh
          · have e3 : ((x.toNat : Int) == 46) = true := by simp [hh]
            clear hh
            go_wp2
            refine bodyPost_ret (results_tmp3 rfl _ _ _) rfl ?_
            exact ⟨rfl, hb1.out⟩
          · have e3 : ((x.toNat : Int) == 46) = false := by simp [hh]
            have e4 : ((x.toNat : Int) == 101) = true := by simp [hh]
            clear hh
            go_wp2
            refine bodyPost_ret (results_tmp3 rfl _ _ _) rfl ?_
            exact ⟨rfl, hb1.out⟩
          · have e3 : ((x.toNat : Int) == 46) = false := by simp [hh]
            have e4 : ((x.toNat : Int) == 101) = false := by simp [hh]
            have e5 : ((x.toNat : Int) == 69) = true := by simp [hh]
            clear hh
            go_wp2
            refine bodyPost_ret (results_tmp3 rfl _ _ _) rfl ?_
            exact ⟨rfl, hb1.out⟩
        · have e3 : ((x.toNat : Int) == 46) = false := by simp; omega
          have e4 : ((x.toNat : Int) == 101) = false := by simp; omega
          have e5 : ((x.toNat : Int) == 69) = false := by simp; omega
          have hno2 := hid (show ∀ j, j < i + 1 → lk s j ≠ 46 ∧ lk s j ≠ 101 ∧ lk s j ≠ 69 from fun j hj => by
            by_cases e : j = i
            · rw [e, hxl.out]; omega
            · exact hno.out j (by omega))
          clear hh hxl hno
          go_wp2
          go_round
          case rel => exact ⟨i + 1, by omega, by simp, hno2⟩
          case measure => simp [intOf]; omega
      · have e2 : decide ((i : Int) < (s.size : Int)) = false := by simp; omega
        obtain rfl : i = s.size := by omega
        have hP := hasP_no hno.out
        have hv := hp.out
        rw [plT, if_neg hne.out, if_neg (by rw [hP]; decide)] at hv
        obtain ⟨hD, hB, rfl⟩ : wdig s = D ∧ decide (lk s 0 = 45) = B ∧ 0 = E := by simpa using hv
        have hpl := plain_of hne.out hP
        have h0 : 0 < s.size := by have := hpl.pos; have h3 := plain_size hpl; omega
        obtain ⟨x, hx⟩ : ∃ x : UInt8, s[0]'h0 = x := ⟨_, rfl⟩
        have hxl : lk s 0 = x.toNat := by rw [lk_at s 0 h0, hx]
        rw [hxl] at hB
        by_cases hm : x.toNat = 45
        · have e3 : ((x.toNat : Int) == 45) = true := by simp [hm]
          obtain rfl : true = B := by rw [← hB, decide_eq_true hm]
          have hE := hid (show s.extract 1 s.size = D by rw [← hD, wdig, if_pos (by rw [hxl]; exact hm)])
          have h3 : decide ((1 : Int) ≤ (s.size : Int)) = true := by simp; omega
          clear hm hB hD hv hp hP hpl hno hxl hne
          go_wp2
          refine bodyPost_ret (results_tmp3 rfl _ _ _) rfl ?_
          exact ⟨by rw [← hE.out]; first | rfl | simp, hb1.out⟩
        · have e3 : ((x.toNat : Int) == 45) = false := by simp; omega
          obtain rfl : false = B := by rw [← hB, decide_eq_false hm]
          obtain rfl : s = D := by rw [← hD, wdig, if_neg (by rw [hxl]; exact hm)]
          clear hm hB hD hv hp hP hpl hno hxl hne
          go_wp2
          refine bodyPost_ret (results_tmp3 rfl _ _ _) rfl ?_
          exact ⟨rfl, hb1.out⟩
end Go.Proofs.YtheeonlfbnkhgaaGreatDoor
