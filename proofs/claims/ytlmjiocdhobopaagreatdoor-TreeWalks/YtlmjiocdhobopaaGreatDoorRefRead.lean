/-
 What the reference's is, digits, number and Make answer.
-/
import Derived.Test.YtlmjiocdhobopaaGreatDoorDecR
import Derived.Test.YtlmjiocdhobopaaGreatDoorRefForm
namespace Go.Proofs.YtlmjiocdhobopaaGreatDoor
open Go.RowKit Go.Shelf
set_option maxRecDepth 10000 in
theorem isD_calls (s : ByteArray) (i : Nat) (I : Int) (hI : I = (i : Int)) (x y : Nat) (hx : 0 < x) (hy : 0 < y) (B : Bool) (hB : Hid (decide (lk s i = x ∨ lk s i = y) = B)) (w : World) :
  Calls Tryz.prog 93 #[.string s, .int .i64 I, .int .u8 (x : Int), .int .u8 (y : Int)] w fun e w' => e = .returned (.bool B) ∧ w' = w := by
 subst hI
 go_enter Tryz.func93, Tryz.ntmps93
 by_cases hi : i < s.size
 ·have e0 : decide ((i : Int) < (s.size : Int)) = true := by simp; omega
  have hiI : (i : Int) < (s.size : Int) := by omega
  obtain ⟨z, hz⟩ : ∃ z, s[i].toNat = z := ⟨_, rfl⟩
  have hb := hid (show decide (z = x ∨ z = y) = B by rw [← hB.out, lk_at s i hi, hz])
  clear hB
  by_cases h1 : z = x
  ·obtain rfl : true = B := by rw [← hb.out]; simp [h1]
   have e1 : ((z : Int) == (x : Int)) = true := by simp [h1]
   clear hb h1
   go_wp2
   go_ret
   exact ⟨by first | rfl | simp, rfl⟩
  ·have e1 : ((z : Int) == (x : Int)) = false := beq_eq_false_iff_ne.2 (by omega)
   by_cases h2 : z = y
   ·obtain rfl : true = B := by rw [← hb.out]; simp [h2]
    have e2 : ((z : Int) == (y : Int)) = true := by simp [h2]
    clear hb h1 h2
    go_wp2
    go_ret
    exact ⟨by first | rfl | simp, rfl⟩
   ·obtain rfl : false = B := by rw [← hb.out]; simp [h1, h2]
    have e2 : ((z : Int) == (y : Int)) = false := beq_eq_false_iff_ne.2 (by omega)
    clear hb h1 h2
    go_wp2
    go_ret
    exact ⟨by first | rfl | simp, rfl⟩
 ·obtain rfl : false = B := by rw [← hB.out, lk_out s i (by omega)]; simp; omega
  have e0 : decide ((i : Int) < (s.size : Int)) = false := by simp; omega
  clear hB
  go_wp2
  go_ret
  exact ⟨by first | rfl | simp, rfl⟩
set_option maxRecDepth 10000 in
theorem digits_calls (s : ByteArray) (hs : s.size ≤ 4611686018427387904) (a : Nat) (I : Int) (hI : I = (a : Int)) (ha : a ≤ s.size) (E : Nat) (hE : Hid (rn s a = E)) (w : World) :
  Calls Tryz.prog 95 #[.string s, .int .i64 I] w fun e w' => e = .returned (.int .i64 (E : Int)) ∧ w' = w := by
 subst hI
 go_enter Tryz.func95, Tryz.ntmps95
 go_wp2
 go_loop [1] (fun ii => ∃ i : Nat, a ≤ i ∧ i ≤ E ∧ i ≤ s.size ∧ ii = .int .i64 (i : Int)) (fun ii => s.size - (intOf ii).toNat)
 case atStart => exact ⟨a, Nat.le_refl _, by rw [← hE.out]; exact rn_ge s a, ha, rfl⟩
 case round =>
  obtain ⟨i, h1, h2, h3, rfl⟩ := hrel
  obtain ⟨B, hB⟩ : ∃ B, Hid (dgB (lk s i) = B) := ⟨_, rfl⟩
  have hc := hid (fun w1 => refDig_calls s i B hB w1)
  go_wp2_with fail
  refine Calls.mono (hc.out _) ?_
  rintro e w1 ⟨rfl, rfl⟩
  clear hc
  cases B with
  | true =>
   have h4 : i < E := by
    rcases Nat.lt_or_ge i E with h | h
    ·exact h
    ·have h5 : i = E := by omega
     have h6 := rn_end s a
     rw [hE.out, ← h5, hB.out] at h6
     cases h6
   have h5 := dg_in hB.out
   go_wp2
   go_round
   case rel => exact ⟨i + 1, by omega, by omega, by omega, by simp⟩
   case measure => simp [intOf]; omega
  | false =>
   have h4 : i = E := by
    rcases Nat.lt_or_ge i E with h | h
    ·have h6 := rn_dig s a i h1 (by rw [hE.out]; exact h)
     rw [hB.out] at h6
     cases h6
    ·omega
   subst h4
   go_wp2
   go_ret
   exact ⟨rfl, rfl⟩
/-- The number that the reference reckons: beyond the bound it stays as it is. -/
def rsF (s : ByteArray) : Nat → Nat
 | 0 => 0
 | i + 1 => if dgB (lk s i) = true ∧ rsF s i ≤ 1000000000000000 then 10 * rsF s i + (lk s i - 48) else rsF s i
theorem rsF_le (s : ByteArray) : ∀ i, rsF s i ≤ 10000000000000009
 | 0 => by show 0 ≤ _; decide
 | i + 1 => by
  have ih := rsF_le s i
  unfold rsF
  split
  ·rename_i h
   have := (dgB_iff _).1 h.1
   omega
  ·exact ih
def rsN (s : ByteArray) : Nat → Bool
 | 0 => false
 | i + 1 => rsN s i || decide (lk s i = 45)
def rsV (s : ByteArray) : Int := if rsN s s.size then -((if 1000000000000000 < rsF s s.size then 1000000000000001 else rsF s s.size : Nat) : Int) else ((if 1000000000000000 < rsF s s.size then 1000000000000001 else rsF s s.size : Nat) : Int)
set_option maxRecDepth 10000 in
set_option maxHeartbeats 4000000 in
theorem numberD_calls (s : ByteArray) (hs : s.size ≤ 4611686018427387904) (E : Int) (hE : Hid (rsV s = E)) (w : World) :
  Calls Tryz.prog 72 #[.string s, .int .i64 1000000000000000] w fun e w' => e = .returned (.int .i64 E) ∧ w' = w := by
 go_enter Tryz.func72, Tryz.ntmps72
 go_wp2
 go_loop [5, 6, 7] (fun nn mm ii => ∃ (b : Bool) (m i : Nat), i ≤ s.size ∧ ii = .int .i64 (i : Int) ∧ mm = .int .i64 (m : Int) ∧ nn = .bool b ∧ Hid (rsF s i = m) ∧ Hid (rsN s i = b)) (fun _ _ ii => s.size - (intOf ii).toNat)
 case atStart => exact ⟨false, 0, 0, Nat.zero_le _, rfl, rfl, rfl, rfl, rfl⟩
 case round =>
  obtain ⟨b, m, i, hi, rfl, rfl, rfl, hm, hb⟩ := hrel
  have hml : m ≤ 10000000000000009 := by rw [← hm.out]; exact rsF_le s i
  by_cases hil : i < s.size
  ·have e1 : decide ((i : Int) < (s.size : Int)) = true := by simp; omega
   have hiI : (i : Int) < (s.size : Int) := by omega
   obtain ⟨y, hy⟩ : ∃ y, s[i].toNat = y := ⟨_, rfl⟩
   have hl := hid (show lk s i = y by rw [lk_at s i hil, hy])
   have hF := hid (show rsF s (i + 1) = if dgB y = true ∧ m ≤ 1000000000000000 then 10 * m + (y - 48) else m by
    show (if dgB (lk s i) = true ∧ rsF s i ≤ 1000000000000000 then 10 * rsF s i + (lk s i - 48) else rsF s i) = _
    rw [hl.out, hm.out])
   have hN := hid (show rsN s (i + 1) = (b || decide (y = 45)) by
    show (rsN s i || decide (lk s i = 45)) = _
    rw [hl.out, hb.out])
   clear hm hb hl
   by_cases h45 : y = 45
   ·subst h45
    go_wp2
    go_round
    case rel => exact ⟨true, m, i + 1, by omega, by simp, rfl, rfl, by show _ = _; rw [hF.out]; rfl, by show _ = _; rw [hN.out]; simp⟩
    case measure => simp [intOf]; omega
   ·have g1 : ((y : Int) == 45) = false := beq_eq_false_iff_ne.2 (by omega)
    have hN2 := hid (show rsN s (i + 1) = b by rw [hN.out]; simp [h45])
    clear hN h45
    by_cases h1 : 48 ≤ y ∧ y ≤ 57 ∧ m ≤ 1000000000000000
    ·obtain ⟨ha, hb2, hc⟩ := h1
     have hF2 := hid (show rsF s (i + 1) = 10 * m + (y - 48) by rw [hF.out, if_pos ⟨(dgB_iff y).2 ⟨ha, hb2⟩, hc⟩])
     clear hF
     obtain ⟨z, hz⟩ : ∃ z, y = 48 + z := ⟨y - 48, by omega⟩
     subst hz
     have hz9 : z ≤ 9 := by omega
     go_wp2
     go_round
     case rel => exact ⟨b, 10 * m + z, i + 1, by omega, by simp, by simp; omega, rfl, by show _ = _; rw [hF2.out]; omega, hN2⟩
     case measure => simp [intOf]; omega
    ·have hF2 := hid (show rsF s (i + 1) = m by
      rw [hF.out, if_neg]
      intro h
      have := (dgB_iff y).1 h.1
      exact h1 ⟨this.1, this.2, h.2⟩)
     clear hF
     by_cases ha : 48 ≤ y
     ·by_cases hb2 : y ≤ 57
      ·have hc : ¬ m ≤ 1000000000000000 := fun h => h1 ⟨ha, hb2, h⟩
       clear h1
       go_wp2
       go_round
       case rel => exact ⟨b, m, i + 1, by omega, by simp, rfl, rfl, hF2, hN2⟩
       case measure => simp [intOf]; omega
      ·clear h1
       go_wp2
       go_round
       case rel => exact ⟨b, m, i + 1, by omega, by simp, rfl, rfl, hF2, hN2⟩
       case measure => simp [intOf]; omega
     ·clear h1
      go_wp2
      go_round
      case rel => exact ⟨b, m, i + 1, by omega, by simp, rfl, rfl, hF2, hN2⟩
      case measure => simp [intOf]; omega
  ·have e1 : decide ((i : Int) < (s.size : Int)) = false := by simp; omega
   obtain rfl : i = s.size := by omega
   have hv := hE.out
   unfold rsV at hv
   rw [hm.out, hb.out] at hv
   have hv' := hid hv
   clear hv hE hm hb e1 hil
   by_cases hmb : 1000000000000000 < m
   ·have hv2 := hv'.out
    rw [if_pos hmb] at hv2
    have hv3 := hid hv2
    clear hv' hv2
    cases b
    ·go_wp2
     go_ret
     exact ⟨by rw [← hv3.out]; rfl, rfl⟩
    ·go_wp2
     go_ret
     exact ⟨by rw [← hv3.out]; rfl, rfl⟩
   ·have hv2 := hv'.out
    rw [if_neg hmb] at hv2
    have hv3 := hid hv2
    clear hv' hv2
    cases b
    ·go_wp2
     go_ret
     exact ⟨by rw [← hv3.out]; rfl, rfl⟩
    ·go_wp2
     go_ret
     exact ⟨by rw [← hv3.out]; rfl, rfl⟩
end Go.Proofs.YtlmjiocdhobopaaGreatDoor
