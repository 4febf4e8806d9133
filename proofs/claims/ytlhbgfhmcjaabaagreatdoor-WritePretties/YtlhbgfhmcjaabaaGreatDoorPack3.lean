/-
  Texts of mine that others lean on, one behind the other.
-/
import Derived.Test.YtlhbgfhmcjaabaaGreatDoorPack2
import Derived.Lib.ItoaNum
import Derived.Shelf.LaysM
import Derived.Shelf.Strconv.Itoa3
import Derived.Test.YtlhbgfhmcjaabaaGreatDoorProg
import Derived.KernelRfl
import Derived.Test.YtlhbgfhmcjaabaaGreatDoorPack1
import Derived.Test.YtlhbgfhmcjaabaaGreatDoorRows
import Derived.Lib.LaidTab
import Derived.Lib.AppendIntMem
import Derived.ChangeSlices
import Derived.SizedLaws
import Derived.Lib.Strings
import Derived.BigQuiet
/-
 What the reference's is, digits, number and Make answer.
-/
namespace Go.Proofs.YtlhbgfhmcjaabaaGreatDoor
open Go.RowKit Go.Shelf
set_option maxRecDepth 10000 in
theorem isD_calls (s : ByteArray) (i : Nat) (I : Int) (hI : I = (i : Int)) (x y : Nat) (hx : 0 < x) (hy : 0 < y) (B : Bool) (hB : Hid (decide (lk s i = x ∨ lk s i = y) = B)) (w : World) :
  Calls Tryz.prog 124 #[.string s, .int .i64 I, .int .u8 (x : Int), .int .u8 (y : Int)] w fun e w' => e = .returned (.bool B) ∧ w' = w := by
 subst hI
 go_enter Tryz.func124, Tryz.ntmps124
 by_cases hi : i < s.size
 ·have e0 : decide ((i : Int) < (s.size : Int)) = true := by simp; omega
  have hiI : (i : Int) < (s.size : Int) := by omega
  obtain ⟨z, hz⟩ : ∃ z, s[i].toNat = z := ⟨_, rfl⟩
  have hb := hid (show decide (z = x ∨ z = y) = B by rw [← hB.out, lk_at s i hi, hz])
  clear hB
  by_cases h1 : z = x
  ·obtain rfl : true = B := by rw [← hb.out]; simp [h1]
   have e1 : ((z : Int) == (x : Int)) = true := by simp [h1]
   clear hb h1
   go_wp2
   go_ret
   exact ⟨by first | rfl | simp, rfl⟩
  ·have e1 : ((z : Int) == (x : Int)) = false := beq_eq_false_iff_ne.2 (by omega)
   by_cases h2 : z = y
   ·obtain rfl : true = B := by rw [← hb.out]; simp [h2]
    have e2 : ((z : Int) == (y : Int)) = true := by simp [h2]
    clear hb h1 h2
    go_wp2
    go_ret
    exact ⟨by first | rfl | simp, rfl⟩
   ·obtain rfl : false = B := by rw [← hb.out]; simp [h1, h2]
    have e2 : ((z : Int) == (y : Int)) = false := beq_eq_false_iff_ne.2 (by omega)
    clear hb h1 h2
    go_wp2
    go_ret
    exact ⟨by first | rfl | simp, rfl⟩
 ·obtain rfl : false = B := by rw [← hB.out, lk_out s i (by omega)]; simp; omega
  have e0 : decide ((i : Int) < (s.size : Int)) = false := by simp; omega
  clear hB
  go_wp2
  go_ret
  exact ⟨by first | rfl | simp, rfl⟩
set_option maxRecDepth 10000 in
theorem digits_calls (s : ByteArray) (hs : s.size ≤ 4611686018427387904) (a : Nat) (I : Int) (hI : I = (a : Int)) (ha : a ≤ s.size) (E : Nat) (hE : Hid (rn s a = E)) (w : World) :
  Calls Tryz.prog 125 #[.string s, .int .i64 I] w fun e w' => e = .returned (.int .i64 (E : Int)) ∧ w' = w := by
 subst hI
 go_enter Tryz.func125, Tryz.ntmps125
 go_wp2
 go_loop [1] (fun ii => ∃ i : Nat, a ≤ i ∧ i ≤ E ∧ i ≤ s.size ∧ ii = .int .i64 (i : Int)) (fun ii => s.size - (intOf ii).toNat)
 case atStart => exact ⟨a, Nat.le_refl _, by rw [← hE.out]; exact rn_ge s a, ha, rfl⟩
 case round =>
  obtain ⟨i, h1, h2, h3, rfl⟩ := hrel
  obtain ⟨B, hB⟩ : ∃ B, Hid (dgB (lk s i) = B) := ⟨_, rfl⟩
  have hc := hid (fun w1 => refDig_calls s i B hB w1)
  go_wp2_with fail
  refine Calls.mono (hc.out _) ?_
  rintro e w1 ⟨rfl, rfl⟩
  clear hc
  cases B with
  | true =>
   have h4 : i < E := by
    rcases Nat.lt_or_ge i E with h | h
    ·exact h
    ·have h5 : i = E := by omega
     have h6 := rn_end s a
     rw [hE.out, ← h5, hB.out] at h6
     cases h6
   have h5 := dg_in hB.out
   go_wp2
   go_round
   case rel => exact ⟨i + 1, by omega, by omega, by omega, by simp⟩
   case measure => simp [intOf]; omega
  | false =>
   have h4 : i = E := by
    rcases Nat.lt_or_ge i E with h | h
    ·have h6 := rn_dig s a i h1 (by rw [hE.out]; exact h)
     rw [hB.out] at h6
     cases h6
    ·omega
   subst h4
   go_wp2
   go_ret
   exact ⟨rfl, rfl⟩
/-- The number that the reference reckons: beyond the bound it stays as it is. -/
def rsF (s : ByteArray) : Nat → Nat
 | 0 => 0
 | i + 1 => if dgB (lk s i) = true ∧ rsF s i ≤ 1000000000000000 then 10 * rsF s i + (lk s i - 48) else rsF s i
theorem rsF_le (s : ByteArray) : ∀ i, rsF s i ≤ 10000000000000009
 | 0 => by show 0 ≤ _; decide
 | i + 1 => by
  have ih := rsF_le s i
  unfold rsF
  split
  ·rename_i h
   have := (dgB_iff _).1 h.1
   omega
  ·exact ih
def rsN (s : ByteArray) : Nat → Bool
 | 0 => false
 | i + 1 => rsN s i || decide (lk s i = 45)
def rsV (s : ByteArray) : Int := if rsN s s.size then -((if 1000000000000000 < rsF s s.size then 1000000000000001 else rsF s s.size : Nat) : Int) else ((if 1000000000000000 < rsF s s.size then 1000000000000001 else rsF s s.size : Nat) : Int)
set_option maxRecDepth 10000 in
set_option maxHeartbeats 4000000 in
theorem numberD_calls (s : ByteArray) (hs : s.size ≤ 4611686018427387904) (E : Int) (hE : Hid (rsV s = E)) (w : World) :
  Calls Tryz.prog 113 #[.string s, .int .i64 1000000000000000] w fun e w' => e = .returned (.int .i64 E) ∧ w' = w := by
 go_enter Tryz.func113, Tryz.ntmps113
 go_wp2
 go_loop [5, 6, 7] (fun nn mm ii => ∃ (b : Bool) (m i : Nat), i ≤ s.size ∧ ii = .int .i64 (i : Int) ∧ mm = .int .i64 (m : Int) ∧ nn = .bool b ∧ Hid (rsF s i = m) ∧ Hid (rsN s i = b)) (fun _ _ ii => s.size - (intOf ii).toNat)
 case atStart => exact ⟨false, 0, 0, Nat.zero_le _, rfl, rfl, rfl, rfl, rfl⟩
 case round =>
  obtain ⟨b, m, i, hi, rfl, rfl, rfl, hm, hb⟩ := hrel
  have hml : m ≤ 10000000000000009 := by rw [← hm.out]; exact rsF_le s i
  by_cases hil : i < s.size
  ·have e1 : decide ((i : Int) < (s.size : Int)) = true := by simp; omega
   have hiI : (i : Int) < (s.size : Int) := by omega
   obtain ⟨y, hy⟩ : ∃ y, s[i].toNat = y := ⟨_, rfl⟩
   have hl := hid (show lk s i = y by rw [lk_at s i hil, hy])
   have hF := hid (show rsF s (i + 1) = if dgB y = true ∧ m ≤ 1000000000000000 then 10 * m + (y - 48) else m by
    show (if dgB (lk s i) = true ∧ rsF s i ≤ 1000000000000000 then 10 * rsF s i + (lk s i - 48) else rsF s i) = _
    rw [hl.out, hm.out])
   have hN := hid (show rsN s (i + 1) = (b || decide (y = 45)) by
    show (rsN s i || decide (lk s i = 45)) = _
    rw [hl.out, hb.out])
   clear hm hb hl
   by_cases h45 : y = 45
   ·subst h45
    go_wp2
    go_round
    case rel => exact ⟨true, m, i + 1, by omega, by simp, rfl, rfl, by show _ = _; rw [hF.out]; rfl, by show _ = _; rw [hN.out]; simp⟩
    case measure => simp [intOf]; omega
   ·have g1 : ((y : Int) == 45) = false := beq_eq_false_iff_ne.2 (by omega)
    have hN2 := hid (show rsN s (i + 1) = b by rw [hN.out]; simp [h45])
    clear hN h45
    by_cases h1 : 48 ≤ y ∧ y ≤ 57 ∧ m ≤ 1000000000000000
    ·obtain ⟨ha, hb2, hc⟩ := h1
     have hF2 := hid (show rsF s (i + 1) = 10 * m + (y - 48) by rw [hF.out, if_pos ⟨(dgB_iff y).2 ⟨ha, hb2⟩, hc⟩])
     clear hF
     obtain ⟨z, hz⟩ : ∃ z, y = 48 + z := ⟨y - 48, by omega⟩
     subst hz
     have hz9 : z ≤ 9 := by omega
     go_wp2
     go_round
     case rel => exact ⟨b, 10 * m + z, i + 1, by omega, by simp, by simp; omega, rfl, by show _ = _; rw [hF2.out]; omega, hN2⟩
     case measure => simp [intOf]; omega
    ·have hF2 := hid (show rsF s (i + 1) = m by
      rw [hF.out, if_neg]
      intro h
      have := (dgB_iff y).1 h.1
      exact h1 ⟨this.1, this.2, h.2⟩)
     clear hF
     by_cases ha : 48 ≤ y
     ·by_cases hb2 : y ≤ 57
      ·have hc : ¬ m ≤ 1000000000000000 := fun h => h1 ⟨ha, hb2, h⟩
       clear h1
       go_wp2
       go_round
       case rel => exact ⟨b, m, i + 1, by omega, by simp, rfl, rfl, hF2, hN2⟩
       case measure => simp [intOf]; omega
      ·clear h1
       go_wp2
       go_round
       case rel => exact ⟨b, m, i + 1, by omega, by simp, rfl, rfl, hF2, hN2⟩
       case measure => simp [intOf]; omega
     ·clear h1
      go_wp2
      go_round
      case rel => exact ⟨b, m, i + 1, by omega, by simp, rfl, rfl, hF2, hN2⟩
      case measure => simp [intOf]; omega
  ·have e1 : decide ((i : Int) < (s.size : Int)) = false := by simp; omega
   obtain rfl : i = s.size := by omega
   have hv := hE.out
   unfold rsV at hv
   rw [hm.out, hb.out] at hv
   have hv' := hid hv
   clear hv hE hm hb e1 hil
   by_cases hmb : 1000000000000000 < m
   ·have hv2 := hv'.out
    rw [if_pos hmb] at hv2
    have hv3 := hid hv2
    clear hv' hv2
    cases b
    ·go_wp2
     go_ret
     exact ⟨by rw [← hv3.out]; rfl, rfl⟩
    ·go_wp2
     go_ret
     exact ⟨by rw [← hv3.out]; rfl, rfl⟩
   ·have hv2 := hv'.out
    rw [if_neg hmb] at hv2
    have hv3 := hid hv2
    clear hv' hv2
    cases b
    ·go_wp2
     go_ret
     exact ⟨by rw [← hv3.out]; rfl, rfl⟩
    ·go_wp2
     go_ret
     exact ⟨by rw [← hv3.out]; rfl, rfl⟩
end Go.Proofs.YtlhbgfhmcjaabaaGreatDoor

/-
 What the reference's Make answers.
-/
namespace Go.Proofs.YtlhbgfhmcjaabaaGreatDoor
open Go.RowKit Go.Shelf
theorem lk_get {t : ByteArray} {j : Nat} {b : UInt8} (h : t.data.toList[j]? = some b) : lk t j = b.toNat ∧ j < t.size := by
 obtain ⟨h1, h2⟩ := List.getElem?_eq_some_iff.1 h
 have h3 : j < t.size := by rw [size_list] at h1; exact h1
 refine ⟨?_, h3⟩
 rw [lk_at t j h3, ← h2, Array.getElem_toList]
 rfl
theorem byte_eq {b : UInt8} (h : b.toNat = 48) : b = 48 := UInt8.toNat_inj.1 h
theorem lead_drop {t : ByteArray} {k : Nat} (hk : k ≤ t.size) (h1 : ∀ j, j < k → lk t j = 48) (h2 : k = t.size ∨ lk t k ≠ 48) : Lib.trimLeftB t.data.toList 48 = t.data.toList.drop k := by
 refine Lib.trimLeftB_drop _ _ k (by rw [size_list]; exact hk) (fun j b hj hb => ?_) (fun b hb => ?_)
 ·exact byte_eq (by rw [← (lk_get hb).1]; exact h1 j hj)
 ·obtain ⟨h3, h4⟩ := lk_get hb
  rcases h2 with h2 | h2
  ·omega
  ·intro e
   rw [e] at h3
   exact h2 h3
theorem trail_take {t : ByteArray} {k m : Nat} (hk : k ≤ m) (hm : m ≤ t.size) (h1 : ∀ j, m ≤ j → j < t.size → lk t j = 48) (h2 : m = k ∨ lk t (m - 1) ≠ 48) : Lib.trimRightB (t.data.toList.drop k) 48 = (t.data.toList.drop k).take (m - k) := by
 refine Lib.trimRightB_take _ _ (m - k) (by rw [List.length_drop, size_list]; omega) (fun j b hj hb => ?_) (fun b h0 hb => ?_)
 ·rw [List.getElem?_drop] at hb
  obtain ⟨h3, h4⟩ := lk_get hb
  exact byte_eq (by rw [← h3]; exact h1 _ (by omega) h4)
 ·rw [List.getElem?_drop] at hb
  obtain ⟨h3, h4⟩ := lk_get hb
  rcases h2 with h2 | h2
  ·omega
  ·intro e
   rw [e, show k + (m - k - 1) = m - 1 by omega] at h3
   exact h2 h3
/-- What Make answers. -/
def mkV (n : Bool) (t : ByteArray) (X : Int) : Value :=
 if Lib.trimLeftB t.data.toList 48 = [] then .tuple #[decV ⟨n, [], 0⟩, .bool true]
 else if inB (X + (((Lib.trimLeftB t.data.toList 48).length - (Lib.trimRightB (Lib.trimLeftB t.data.toList 48) 48).length : Nat) : Int)) then
  .tuple #[decV ⟨n, Lib.trimRightB (Lib.trimLeftB t.data.toList 48) 48, X + (((Lib.trimLeftB t.data.toList 48).length - (Lib.trimRightB (Lib.trimLeftB t.data.toList 48) 48).length : Nat) : Int)⟩, .bool true]
 else .tuple #[decV zeroD, .bool false]
set_option maxRecDepth 10000 in
set_option maxHeartbeats 4000000 in
theorem makeD_calls (n : Bool) (t : ByteArray) (hs : t.size ≤ 1125899906842624) (X : Int) (hX0 : -4611686018427387904 ≤ X) (hX1 : X ≤ 4611686018427387903) (w : World) :
  Calls Tryz.prog 114 #[.bool n, .string t, .int .i64 X] w fun e w' => e = .returned (mkV n t X) ∧ Below w.heap.size w w' := by
 have D0 := hid (show OwnD w w.heap.size false ⟨#[]⟩ 0 (w.alloc (.cells #[.bool false, .string ⟨#[]⟩, .int .i64 0] 90)) from ⟨Nat.le_refl _, At.new w _ _, by repeat (first | with_reducible exact Below.refl _ _ | with_reducible refine Below.setCell ?_ (by first | (simp; done) | (simp; omega)) _ | with_reducible refine below_drewN ?_ _ | with_reducible refine Below.alloc ?_ (by first | (simp; done) | (simp; omega)) _ | with_reducible refine Below.drew ?_)⟩)
 go_enter Tryz.func114, Tryz.ntmps114
 go_wp2
 generalize w.alloc (.cells #[.bool false, .string ⟨#[]⟩, .int .i64 0] 90) = W0 at D0 ⊢
 go_loop [8] (fun ii => ∃ i : Nat, i ≤ t.size ∧ ii = .int .i64 (i : Int) ∧ Hid (∀ j, j < i → lk t j = 48)) (fun ii => t.size - (intOf ii).toNat)
 case atStart => exact ⟨0, Nat.zero_le _, rfl, fun j h => by omega⟩
 case round =>
  obtain ⟨k, hk, rfl, hl⟩ := hrel
  by_cases hgo : k < t.size ∧ lk t k = 48
  ·obtain ⟨hkl, h48⟩ := hgo
   have e1 : decide ((k : Int) < (t.size : Int)) = true := by simp; omega
   have hkI : (k : Int) < (t.size : Int) := by omega
   have hy : t[k].toNat = 48 := by rw [← lk_at t k hkl]; exact h48
   have h48' := hid h48
   clear h48
   go_wp2
   go_round
   case rel => exact ⟨k + 1, by omega, by simp, fun j hj => by
          by_cases hjk : j = k
          ·rw [hjk, h48'.out]
          ·exact hl.out j (by omega)⟩
   case measure => simp [intOf]; omega
  ·have hend := hid (show k = t.size ∨ lk t k ≠ 48 by
    rcases Nat.lt_or_ge k t.size with h | h
    ·exact .inr fun e => hgo ⟨h, e⟩
    ·exact .inl (by omega))
   have hTL := hid (lead_drop hk hl.out hend.out)
   have stop : (k < t.size ∧ ∃ y, (∃ h : k < t.size, (t[k]'h).toNat = y) ∧ ((y : Int) == 48) = false) ∨ decide ((k : Int) < (t.size : Int)) = false := by
    rcases Nat.lt_or_ge k t.size with h | h
    ·left
     refine ⟨h, _, ⟨h, rfl⟩, ?_⟩
     rw [← lk_at t k h]
     exact beq_eq_false_iff_ne.2 (fun e => hgo ⟨h, by omega⟩)
    ·right; simp; omega
   have two : Hid (k ≤ t.size) := hk
   clear hgo
   rcases stop with ⟨hkl, y, ⟨hh, hy⟩, e2⟩ | e1
   ·have e1 : decide ((k : Int) < (t.size : Int)) = true := by simp; omega
    have hkI : (k : Int) < (t.size : Int) := by omega
    have hyk := hid (show lk t k ≠ 48 by
     rw [lk_at t k hkl, hy]
     intro e
     have := beq_eq_false_iff_ne.1 e2
     omega)
    go_wp2
    go_loop [2, 9] (fun xx tt => ∃ (m : Nat) (Z : Int), k < m ∧ m ≤ t.size ∧ tt = .int .i64 (m : Int) ∧ xx = .int .i64 Z ∧ Hid (Z = X + (t.size : Int) - (m : Int)) ∧ Hid (∀ j, m ≤ j → j < t.size → lk t j = 48)) (fun _ tt => (intOf tt).toNat)
    case atStart => exact ⟨t.size, X, hkl, Nat.le_refl _, rfl, rfl, by show _ = _; omega, fun j h1 h2 => by omega⟩
    case round =>
     obtain ⟨m, Z, hkm, hm, rfl, rfl, hZ, hr⟩ := hrel
     have g1 : decide ((k : Int) < (m : Int)) = true := by simp; omega
     obtain ⟨j, hj⟩ : ∃ j, m = j + 1 := ⟨m - 1, by omega⟩
     subst hj
     have ej : ((j + 1 : Nat) : Int) - 1 = (j : Int) := by omega
     have hjl : j < t.size := by omega
     have hjI : (j : Int) < (t.size : Int) := by omega
     have zb0 : -4611686018427387904 ≤ Z := by rw [hZ.out]; omega
     have zb1 : Z ≤ 4612811918334230527 := by rw [hZ.out]; omega
     obtain ⟨y2, hy2⟩ : ∃ y, t[j].toNat = y := ⟨_, rfl⟩
     have hlj := hid (show lk t j = y2 by rw [lk_at t j hjl, hy2])
     by_cases h48 : y2 = 48
     ·have g2 : ((y2 : Int) == 48) = true := by simp [h48]
      have hkj : k < j := by
       rcases Nat.lt_or_ge k j with h | h
       ·exact h
       ·have h3 : k = j := by omega
        exact absurd (by rw [h3, hlj.out, h48]) hyk.out
      have h48' := hid h48
      clear h48
      go_wp2
      go_round
      case rel => exact ⟨j, Z + 1, hkj, by omega, by first | rfl | (simp; done) | (simp; omega), by first | rfl | (simp; done) | (simp; omega), by show _ = _; rw [hZ.out]; omega, fun i h1 h2 => by
             by_cases hi : i = j
             ·rw [hi, hlj.out, h48'.out]
             ·exact hr.out i (by omega) h2⟩
      case measure => simp [intOf]
     ·have g2 : ((y2 : Int) == 48) = false := beq_eq_false_iff_ne.2 (by omega)
      have hTR := hid (trail_take (t := t) (k := k) (m := j + 1) (by omega) hm hr.out (.inr (by rw [Nat.add_sub_cancel, hlj.out]; exact h48)))
      have hne : ¬ t.data.toList.drop k = [] := fun e => by
       have := congrArg List.length e
       rw [List.length_drop, size_list, List.length_nil] at this
       omega
      have hlen : ((t.data.toList.drop k).length - ((t.data.toList.drop k).take (j + 1 - k)).length : Nat) = t.size - (j + 1) := by
       rw [List.length_take, List.length_drop, size_list]; omega
      have hZe : X + ((t.size - (j + 1) : Nat) : Int) = Z := by rw [hZ.out]; omega
      have hmk := hid (show mkV n t X = if inB Z then .tuple #[.agg #[.bool n, .string (t.extract k (j + 1)), .int .i64 Z], .bool true] else .tuple #[.agg #[.bool false, .string ⟨#[]⟩, .int .i64 0], .bool false] by
       rw [mkV, hTL.out, if_neg hne, hTR.out, hlen, hZe]
       have hex : t.extract k (j + 1) = ⟨((t.data.toList.drop k).take (j + 1 - k)).toArray⟩ := by rw [Lib.extract_eq]
       rw [hex]
       rfl)
      have g3 : ((k : Int) == (j : Int) + 1) = false := beq_eq_false_iff_ne.2 (by omega)
      have g3' : ((k : Int) == ((j + 1 : Nat) : Int)) = false := beq_eq_false_iff_ne.2 (by omega)
      have hkj1 : k ≤ j + 1 := by omega
      obtain ⟨⟨d0, d1, d2⟩, f0, f1, f2⟩ := D0.out.facts
      clear hne hlen hZe hTR hTL hZ h48
      by_cases hz1 : 1073741824 < Z
      ·have hv := hid (show mkV n t X = .tuple #[.agg #[.bool false, .string ⟨#[]⟩, .int .i64 0], .bool false] by rw [hmk.out, if_neg (by unfold inB; simp; omega)])
       clear hmk
       go_wp2
       refine ret_dec rfl rfl (D0.out.put _ _ _).2.1 rfl ⟨?_, (D0.out.put _ _ _).2.2⟩
       rw [hv.out]
       rfl
      ·by_cases hz2 : Z < -1073741824
       ·have hv := hid (show mkV n t X = .tuple #[.agg #[.bool false, .string ⟨#[]⟩, .int .i64 0], .bool false] by rw [hmk.out, if_neg (by unfold inB; simp; omega)])
        clear hmk
        go_wp2
        refine ret_dec rfl rfl (D0.out.put _ _ _).2.1 rfl ⟨?_, (D0.out.put _ _ _).2.2⟩
        rw [hv.out]
        rfl
       ·have hv := hid (show mkV n t X = .tuple #[.agg #[.bool n, .string (t.extract k (j + 1)), .int .i64 Z], .bool true] by rw [hmk.out, if_pos (by unfold inB; simp; omega)])
        clear hmk
        go_wp2
        refine ret_dec rfl rfl (D0.out.put _ _ _).2.1 rfl ⟨?_, (D0.out.put _ _ _).2.2⟩
        rw [hv.out]
        rfl
   ·have hk2 : k = t.size := by have h1 := of_decide_eq_false e1; omega
    have hv := hid (show mkV n t X = .tuple #[.agg #[.bool n, .string ⟨#[]⟩, .int .i64 0], .bool true] by
     rw [mkV, hTL.out, if_pos (List.drop_eq_nil_of_le (by rw [size_list]; omega))]; rfl)
    subst hk2
    clear hTL hend hl two
    go_wp2
    go_loop [2, 9] (fun xx tt => xx = .int .i64 X ∧ tt = .int .i64 (t.size : Int)) (fun _ _ => 0)
    case atStart => exact ⟨rfl, rfl⟩
    case round =>
     obtain ⟨rfl, rfl⟩ := hrel
     obtain ⟨⟨d0, d1, d2⟩, f0, f1, f2⟩ := D0.out.facts
     go_wp2
     refine ret_dec rfl rfl (D0.out.put _ _ _).2.1 rfl ⟨?_, (D0.out.put _ _ _).2.2⟩
     rw [hv.out]
     rfl
end Go.Proofs.YtlhbgfhmcjaabaaGreatDoor

/-
 What is written of a decimal is read as it (mathematics; for DecimalBack).
-/
namespace Go.Proofs.YtlhbgfhmcjaabaaGreatDoor
open Go.RowKit
/-- What Text writes. -/
def txN (n : Bool) : ByteArray := if n then ⟨#[45]⟩ else ⟨#[]⟩
def txW (t : ByteArray) : ByteArray := if t.size = 0 then ⟨#[48]⟩ else t
def txX (x : Int) : ByteArray := if x = 0 then ⟨#[]⟩ else ⟨#[101]⟩ ++ ⟨(Lib.itoa x).toArray⟩
def txtB (n : Bool) (t : ByteArray) (x : Int) : ByteArray := txN n ++ (txW t ++ (⟨#[]⟩ ++ txX x))
theorem frm_parts {t : ByteArray} {x : Int} (h : frmS t x = true) (h0 : t.size ≠ 0) : AllD t ∧ lk t 0 ≠ 48 ∧ lk t (t.size - 1) ≠ 48 ∧ inB x = true := by
 unfold frmS at h
 rw [if_neg h0] at h
 simp only [Bool.and_eq_true, decide_eq_true_eq] at h
 obtain ⟨⟨h1, h2, h3⟩, h4⟩ := h
 exact ⟨fun i hi => rn_dig t 0 i (Nat.zero_le _) (by omega), h2, h3, h4⟩
end Go.Proofs.YtlhbgfhmcjaabaaGreatDoor

/-
  The library's contract of strconv.Itoa is laid at this program.
-/
namespace Go.Proofs
open Go.Shelf
def Tryz.laysM171_ren : Go.Shelf.Ren := ⟨fun | 171 => 97 | 243 => 108 | 246 => 122 | 283 => 136 | 284 => 137 | 285 => 138 | 286 => 139 | 129 => 147 | 317 => 146 | 318 => 148 | 319 => 149 | 320 => 150 | 337 => 154 | 338 => 155 | n => n, fun | 3 => 3 | 9 => 9 | 2 => 2 | 4 => 4 | 171 => 165 | 0 => 0 | 53 => 99 | 37 => 47 | 5 => 5 | 173 => 168 | 212 => 177 | 51 => 96 | 20 => 20 | 213 => 178 | 46 => 63 | 232 => 185 | 233 => 186 | n => n, fun | 17 => 3 | 18 => 4 | 19 => 5 | n => n⟩
theorem Tryz.laysM171 : Go.Proofs.LaysM.n171 Tryz.prog Tryz.laysM171_ren := {
  mixed := by kernel_rfl
  f129 := Tryz.func147.trans (congrArg some (by kernel_rfl))
  f171 := Tryz.func97.trans (congrArg some (by kernel_rfl))
  f243 := Tryz.func108.trans (congrArg some (by kernel_rfl))
  f246 := Tryz.func122.trans (congrArg some (by kernel_rfl))
  f283 := Tryz.func136.trans (congrArg some (by kernel_rfl))
  f284 := Tryz.func137.trans (congrArg some (by kernel_rfl))
  f285 := Tryz.func138.trans (congrArg some (by kernel_rfl))
  f286 := Tryz.func139.trans (congrArg some (by kernel_rfl))
  f317 := Tryz.func146.trans (congrArg some (by kernel_rfl))
  f318 := Tryz.func148.trans (congrArg some (by kernel_rfl))
  f319 := Tryz.func149.trans (congrArg some (by kernel_rfl))
  f320 := Tryz.func150.trans (congrArg some (by kernel_rfl))
  f337 := Tryz.func154.trans (congrArg some (by kernel_rfl))
  f338 := Tryz.func155.trans (congrArg some (by kernel_rfl))
  t0 := Tryz.underlying0
  a0 := Tryz.isAgg0
  z0 := Tryz.sizeOf0
  v0 := Tryz.zeroValue0
  t2 := Tryz.underlying2
  a2 := Tryz.isAgg2
  z2 := Tryz.sizeOf2
  v2 := Tryz.zeroValue2
  t3 := Tryz.underlying3
  a3 := Tryz.isAgg3
  z3 := Tryz.sizeOf3
  v3 := Tryz.zeroValue3
  t4 := Tryz.underlying4
  a4 := Tryz.isAgg4
  z4 := Tryz.sizeOf4
  v4 := Tryz.zeroValue4
  t5 := Tryz.underlying5
  a5 := Tryz.isAgg5
  z5 := Tryz.sizeOf5
  v5 := Tryz.zeroValue5
  t9 := Tryz.underlying9
  a9 := Tryz.isAgg9
  z9 := Tryz.sizeOf9
  v9 := Tryz.zeroValue9
  t20 := Tryz.underlying20
  a20 := Tryz.isAgg20
  z20 := Tryz.sizeOf20
  v20 := Tryz.zeroValue20
  t37 := Tryz.underlying47
  a37 := Tryz.isAgg47
  z37 := Tryz.sizeOf47
  v37 := Tryz.zeroValue47
  t46 := Tryz.underlying63
  a46 := Tryz.isAgg63
  z46 := Tryz.sizeOf63
  v46 := Tryz.zeroValue63
  t51 := Tryz.underlying96
  a51 := Tryz.isAgg96
  z51 := Tryz.sizeOf96
  v51 := Tryz.zeroValue96
  t53 := Tryz.underlying99
  a53 := Tryz.isAgg99
  z53 := Tryz.sizeOf99
  v53 := Tryz.zeroValue99
  t171 := Tryz.underlying165
  a171 := Tryz.isAgg165
  z171 := Tryz.sizeOf165
  v171 := Tryz.zeroValue165
  t173 := Tryz.underlying168
  a173 := Tryz.isAgg168
  z173 := Tryz.sizeOf168
  v173 := Tryz.zeroValue168
  t212 := Tryz.underlying177
  a212 := Tryz.isAgg177
  z212 := Tryz.sizeOf177
  v212 := Tryz.zeroValue177
  t213 := Tryz.underlying178
  a213 := Tryz.isAgg178
  z213 := Tryz.sizeOf178
  t232 := Tryz.underlying185
  a232 := Tryz.isAgg185
  z232 := Tryz.sizeOf185
  v232 := Tryz.zeroValue185
  t233 := Tryz.underlying186
  a233 := Tryz.isAgg186
  z233 := Tryz.sizeOf186
  v233 := Tryz.zeroValue186
  g17 := by kernel_rfl
  g18 := by kernel_rfl
  g19 := by kernel_rfl
  i0 := by kernel_rfl
  i2 := by kernel_rfl
  i3 := by kernel_rfl
  i4 := by kernel_rfl
  i5 := by kernel_rfl
  i9 := by kernel_rfl
  i20 := by kernel_rfl
  i37 := by kernel_rfl
  i46 := by kernel_rfl
  i51 := by kernel_rfl
  i53 := by kernel_rfl
  i171 := by kernel_rfl
  i173 := by kernel_rfl
  i212 := by kernel_rfl
  i232 := by kernel_rfl
  i233 := by kernel_rfl
  m17 := by kernel_rfl
  m18 := by kernel_rfl
  m19 := by kernel_rfl }
end Go.Proofs

/-
 What decimal.Text, the reference's Text, decimal.Whole and the reference's Whole answer.
-/
namespace Go.Proofs.YtlhbgfhmcjaabaaGreatDoor
open Go.RowKit Go.Shelf
/-- The table of powers of ten: its name, as the row has it. -/
abbrev powNm : String := Rows.writeCompactsRow.named.getD 2 default
def PowT (w : World) : Prop := Lib.TabIs Tryz.prog w powNm .u64 Lib.pow10Tab
theorem gPowN : (Tryz.prog.globalNamed powNm).isSome = true := by kernel_rfl
theorem PowT.kept {w w' : World} (h : PowT w) (hb : Below w.heap.size w w') : PowT w' := by
 obtain ⟨g, hg⟩ := Option.isSome_iff_exists.1 gPowN
 unfold PowT Lib.TabIs World.var? at h ⊢
 rw [hg] at h ⊢
 simp only [Option.bind_some] at h ⊢
 cases ho : w.heap[g]? with
 | none => rw [ho] at h; cases h
 | some o =>
  have hlt : g < w.heap.size := (Array.getElem?_eq_some_iff.1 ho).1
  rw [hb.block g hlt]
  exact h
theorem itoa_calls (x : Int) (h0 : -9223372036854775808 ≤ x) (h1 : x ≤ 9223372036854775807) (w : World) (hT : PowT w) :
  Calls Tryz.prog 97 #[.int .i64 x] w fun e w' => e = .returned (.string ⟨(Lib.itoa x).toArray⟩) ∧ Below w.heap.size w w' := by
 refine Calls.mono (show Calls Tryz.prog 97 #[.int .i64 x] w fun e w' => e = .returned (.string ⟨(Lib.itoa x).toArray⟩) ∧ ∃ k os, w' = Sort.grow (w.drewN k) os from Any.strconv_Itoa Tryz.laysM171 x h0 h1 w hT) ?_
 rintro e w' ⟨rfl, k, os, rfl⟩
 exact ⟨rfl, Lib.below_grow _ w (Nat.le_refl _) k os⟩
theorem BdI.fresh (w : World) : BdI (w.alloc (.cells #[.pointer none, .slice none 0 0] 49)) w.heap.size (w.heap.size + 1) [] := ⟨_, _, At.new w _ _, .inl rfl, World.ownsRow_nil _ _ _ _⟩
theorem itoa_len (x : Int) (h : inB x = true) : (Lib.itoa x).length ≤ 20 := by
 have h1 := inB_of h
 have key : ∀ u : Nat, u ≤ 1073741824 → (Lib.decDigits u).length ≤ 11 := by
  intro u hu
  have step : ∀ k u, u < 10 ^ (k + 1) → (Lib.decDigits u).length ≤ k + 1 := by
   intro k
   induction k with
   | zero => intro u h; rw [Lib.decDigits, dif_pos (by simpa using h)]; simp
   | succ k ih =>
    intro u h
    rw [Lib.decDigits]
    split
    ·simp
    ·have := ih (u / 10) (by rw [Nat.pow_succ] at h; omega)
     rw [List.length_append]
     simp
     omega
  exact step 10 u (by have : (10 : Nat) ^ (10 + 1) = 100000000000 := (by decide); omega)
 unfold Lib.itoa
 split
 ·have := key x.natAbs (by omega)
  rw [List.length_cons]; omega
 ·have := key x.toNat (by omega)
  omega
theorem txt_list (n : Bool) (t : ByteArray) (x : Int) : (txtB n t x).data.toList = (if n then [45] else []) ++ ((if t.size = 0 then [48] else []) ++ t.data.toList ++ (if x = 0 then [] else 101 :: Lib.itoa x)) := by
 unfold txtB txN txW txX
 rw [nil_app, data_append, data_append]
 cases n
 ·by_cases h0 : t.size = 0
  ·have ht : t.data.toList = [] := List.eq_nil_of_length_eq_zero (by rw [size_list]; exact h0)
   by_cases hx : x = 0
   ·simp [h0, hx, ht]
   ·simp [h0, hx, ht]
  ·by_cases hx : x = 0
   ·simp [h0, hx]
   ·simp [h0, hx]
 ·by_cases h0 : t.size = 0
  ·have ht : t.data.toList = [] := List.eq_nil_of_length_eq_zero (by rw [size_list]; exact h0)
   by_cases hx : x = 0
   ·simp [h0, hx, ht]
   ·simp [h0, hx, ht]
  ·by_cases hx : x = 0
   ·simp [h0, hx]
   ·simp [h0, hx]
/-- What Text answers. -/
def txtR (n : Bool) (t : ByteArray) (x : Int) : ByteArray × Int := if frmS t x then (txtB n t x, 0) else (⟨#[]⟩, 1)
theorem below_bd {m n0 : Nat} {w w' w1 : World} (h : Below n0 w w1) (hb : Below m w1 w') (hn : n0 ≤ m) : Below n0 w w' := h.trans (hb.mono hn)
set_option maxRecDepth 10000 in
set_option maxHeartbeats 8000000 in
theorem text_calls (n : Bool) (t : ByteArray) (x : Int) (hs : t.size ≤ reachBytes) (S : ByteArray) (E : Int) (hS : Hid (txtR n t x = (S, E))) (w : World) (hT : PowT w) :
  Calls Tryz.prog 80 #[.agg #[.bool n, .string t, .int .i64 x]] w fun e w' => e = .returned (.tuple #[.string S, .int .i64 E]) ∧ Below w.heap.size w w' := by
 have hr : reachBytes = 140737488351232 := by decide
 have hsz : t.size ≤ 140737488351232 := by rw [← hr]; exact hs
 clear hs hr
 obtain ⟨F, hF⟩ : ∃ F, Hid (frmS t x = F) := ⟨_, rfl⟩
 have cF := hid (fun w1 => formedD_calls n t x (by omega) F hF w1)
 have A0 := hid (At.new w #[.bool n, .string t, .int .i64 x] 90)
 have hb0 := hid (show Below w.heap.size w (w.alloc (.cells #[.bool n, .string t, .int .i64 x] 90)) by repeat (first | with_reducible exact Below.refl _ _ | with_reducible refine Below.setCell ?_ (by first | (simp; done) | (simp; omega)) _ | with_reducible refine below_drewN ?_ _ | with_reducible refine Below.alloc ?_ (by first | (simp; done) | (simp; omega)) _ | with_reducible refine Below.drew ?_))
 have hT' := hid hT
 clear hT
 go_enter Tryz.func80, Tryz.ntmps80
 go_wp2_with fail
 refine Calls.mono (cF.out _) ?_
 rintro e w1 ⟨rfl, hb⟩
 have A1 := hid (A0.out.keptAll hb)
 have hb1 := hid (hb0.out.trans (hb.mono hb0.out.size))
 clear A0 hb0 hb cF
 cases F with
 | false =>
  have hv := hS.out
  rw [txtR, hF.out] at hv
  obtain ⟨rfl, rfl⟩ : (⟨#[]⟩ : ByteArray) = S ∧ 1 = E := by simpa using hv
  clear hv hS
  go_wp2
  refine bodyPost_ret (results_tmp2 rfl _ _ _) rfl ?_
  exact ⟨rfl, hb1.out⟩
 | true =>
  have hv := hS.out
  rw [txtR, hF.out, if_pos rfl] at hv
  obtain ⟨hSv, rfl⟩ : txtB n t x = S ∧ 0 = E := by simpa using hv
  have hxin : inB x = true := by
   by_cases h0 : t.size = 0
   ·have := hF.out
    rw [frm_none h0] at this
    rw [of_decide_eq_true this]; rfl
   ·exact (frm_parts hF.out h0).2.2.2
  have hxi := inB_of hxin
  have hil := itoa_len x hxin
  have hSl := hid (show S.data.toList = (if n then [45] else []) ++ ((if t.size = 0 then [48] else []) ++ t.data.toList ++ (if x = 0 then [] else 101 :: Lib.itoa x)) by rw [← hSv]; exact txt_list n t x)
  clear hv hS hSv hF
  have hbd := hid (BdI.fresh w1)
  have A2 := hid (A1.out.alloc (.cells #[.pointer none, .slice none 0 0] 49))
  have hb2 := hid (show Below w.heap.size w (w1.alloc (.cells #[.pointer none, .slice none 0 0] 49)) from hb1.out.alloc hb1.out.size _)
  have hlt := hid (show w.heap.size < w1.heap.size from A1.out.lt)
  go_upto_region 4 with fail
  generalize hm : w1.heap.size = m at hbd hlt ⊢
  generalize w1.alloc (.cells #[.pointer none, .slice none 0 0] 49) = W at hbd A2 hb2 ⊢
  have hWs := hid (show m + 1 ≤ W.heap.size by obtain ⟨p, v, h1, -⟩ := hbd.out; exact h1.lt)
  clear A1 hb1 hm
  have hst := size_list t
  cases n
  ·by_cases h0 : t.size = 0
   ·have e0 : (t.toList == []) = true := by
     have : t.toList = [] := by rw [Lib.toList_data]; exact List.eq_nil_of_length_eq_zero (by rw [size_list]; exact h0)
     rw [this]; rfl
    have ht0 : t.data.toList = [] := List.eq_nil_of_length_eq_zero (by rw [size_list]; exact h0)
    by_cases hx0 : x = 0
    ·have e1 : (x != 0) = false := by simp [hx0]
     obtain ⟨c0, c1, c2⟩ : W.cell? ⟨w.heap.size, 0, none⟩ = some (.bool false) ∧ W.cell? ⟨w.heap.size, 1, none⟩ = some (.string t) ∧ W.cell? ⟨w.heap.size, 2, none⟩ = some (.int .i64 x) := ⟨A2.out.cell 0, A2.out.cell 1, A2.out.cell 2⟩
     go_wp2_with fail
     refine Calls.mono (bbyte_calls m (m + 1) [] 48 48 rfl (Nat.lt_succ_self _) (by simp; try omega) _ hbd.out hWs.out) ?_
     rintro e W' ⟨rfl, hbn, hb⟩
     replace A2 := hid (A2.out.kept hb hlt.out)
     replace hb2 := hid (below_bd hb2.out hb (Nat.le_of_lt hlt.out))
     replace hWs := hid (Nat.le_trans hWs.out hb.size)
     replace hbd := hid hbn
     clear hb hbn c0 c1 c2
     obtain ⟨W, rfl⟩ : ∃ W, W = W' := ⟨_, rfl⟩
     obtain ⟨c0, c1, c2⟩ : W.cell? ⟨w.heap.size, 0, none⟩ = some (.bool false) ∧ W.cell? ⟨w.heap.size, 1, none⟩ = some (.string t) ∧ W.cell? ⟨w.heap.size, 2, none⟩ = some (.int .i64 x) := ⟨A2.out.cell 0, A2.out.cell 1, A2.out.cell 2⟩
     go_wp2_with fail
     refine Calls.mono (bstr_calls m (m + 1) ([] ++ [48]) t (Nat.lt_succ_self _) (by simp; try omega) _ hbd.out hWs.out) ?_
     rintro e W' ⟨rfl, hbn, hb⟩
     replace A2 := hid (A2.out.kept hb hlt.out)
     replace hb2 := hid (below_bd hb2.out hb (Nat.le_of_lt hlt.out))
     replace hWs := hid (Nat.le_trans hWs.out hb.size)
     replace hbd := hid hbn
     clear hb hbn c0 c1 c2
     obtain ⟨W, rfl⟩ : ∃ W, W = W' := ⟨_, rfl⟩
     have hle : (([] ++ [48]) ++ t.data.toList) = S.data.toList := by
      rw [hSl.out]
      simp [h0, hx0, ht0]
     replace hbd := hid (show BdI W m (m + 1) S.data.toList by rw [← hle]; exact hbd.out)
     have hSm : (⟨S.data.toList.toArray⟩ : ByteArray) = S := Lib.mk_data S
     clear hle
     obtain ⟨c0, c1, c2⟩ : W.cell? ⟨w.heap.size, 0, none⟩ = some (.bool false) ∧ W.cell? ⟨w.heap.size, 1, none⟩ = some (.string t) ∧ W.cell? ⟨w.heap.size, 2, none⟩ = some (.int .i64 x) := ⟨A2.out.cell 0, A2.out.cell 1, A2.out.cell 2⟩
     have hbc := hid (bstring_calls m (m + 1) w.heap.size S.data.toList W hbd.out (by have := hlt.out; omega) hWs.out)
     rw [hSm] at hbc
     clear hSm
     go_wp2_with fail
     refine Calls.mono hbc.out ?_
     rintro e W' ⟨rfl, hb, -⟩
     go_wp2
     refine bodyPost_ret (results_tmp2 rfl _ _ _) rfl ?_
     exact ⟨rfl, hb2.out.trans hb⟩
    ·have e1 : (x != 0) = true := by simpa using hx0
     obtain ⟨c0, c1, c2⟩ : W.cell? ⟨w.heap.size, 0, none⟩ = some (.bool false) ∧ W.cell? ⟨w.heap.size, 1, none⟩ = some (.string t) ∧ W.cell? ⟨w.heap.size, 2, none⟩ = some (.int .i64 x) := ⟨A2.out.cell 0, A2.out.cell 1, A2.out.cell 2⟩
     go_wp2_with fail
     refine Calls.mono (bbyte_calls m (m + 1) [] 48 48 rfl (Nat.lt_succ_self _) (by simp; try omega) _ hbd.out hWs.out) ?_
     rintro e W' ⟨rfl, hbn, hb⟩
     replace A2 := hid (A2.out.kept hb hlt.out)
     replace hb2 := hid (below_bd hb2.out hb (Nat.le_of_lt hlt.out))
     replace hWs := hid (Nat.le_trans hWs.out hb.size)
     replace hbd := hid hbn
     clear hb hbn c0 c1 c2
     obtain ⟨W, rfl⟩ : ∃ W, W = W' := ⟨_, rfl⟩
     obtain ⟨c0, c1, c2⟩ : W.cell? ⟨w.heap.size, 0, none⟩ = some (.bool false) ∧ W.cell? ⟨w.heap.size, 1, none⟩ = some (.string t) ∧ W.cell? ⟨w.heap.size, 2, none⟩ = some (.int .i64 x) := ⟨A2.out.cell 0, A2.out.cell 1, A2.out.cell 2⟩
     go_wp2_with fail
     refine Calls.mono (bstr_calls m (m + 1) ([] ++ [48]) t (Nat.lt_succ_self _) (by simp; try omega) _ hbd.out hWs.out) ?_
     rintro e W' ⟨rfl, hbn, hb⟩
     replace A2 := hid (A2.out.kept hb hlt.out)
     replace hb2 := hid (below_bd hb2.out hb (Nat.le_of_lt hlt.out))
     replace hWs := hid (Nat.le_trans hWs.out hb.size)
     replace hbd := hid hbn
     clear hb hbn c0 c1 c2
     obtain ⟨W, rfl⟩ : ∃ W, W = W' := ⟨_, rfl⟩
     obtain ⟨c0, c1, c2⟩ : W.cell? ⟨w.heap.size, 0, none⟩ = some (.bool false) ∧ W.cell? ⟨w.heap.size, 1, none⟩ = some (.string t) ∧ W.cell? ⟨w.heap.size, 2, none⟩ = some (.int .i64 x) := ⟨A2.out.cell 0, A2.out.cell 1, A2.out.cell 2⟩
     go_wp2_with fail
     refine Calls.mono (bbyte_calls m (m + 1) (([] ++ [48]) ++ t.data.toList) 101 101 rfl (Nat.lt_succ_self _) (by simp; have := size_list t; omega) _ hbd.out hWs.out) ?_
     rintro e W' ⟨rfl, hbn, hb⟩
     replace A2 := hid (A2.out.kept hb hlt.out)
     replace hb2 := hid (below_bd hb2.out hb (Nat.le_of_lt hlt.out))
     replace hWs := hid (Nat.le_trans hWs.out hb.size)
     replace hbd := hid hbn
     clear hb hbn c0 c1 c2
     obtain ⟨W, rfl⟩ : ∃ W, W = W' := ⟨_, rfl⟩
     obtain ⟨c0, c1, c2⟩ : W.cell? ⟨w.heap.size, 0, none⟩ = some (.bool false) ∧ W.cell? ⟨w.heap.size, 1, none⟩ = some (.string t) ∧ W.cell? ⟨w.heap.size, 2, none⟩ = some (.int .i64 x) := ⟨A2.out.cell 0, A2.out.cell 1, A2.out.cell 2⟩
     go_wp2_with fail
     refine Calls.mono (itoa_calls x (by omega) (by omega) _ (hT'.out.kept hb2.out)) ?_
     rintro e W' ⟨rfl, hb⟩
     replace A2 := hid (A2.out.keptAll hb)
     replace hbd := hid (hbd.out.kept hb)
     replace hb2 := hid (hb2.out.trans (hb.mono hb2.out.size))
     replace hWs := hid (Nat.le_trans hWs.out hb.size)
     clear hb c0 c1 c2
     obtain ⟨W, rfl⟩ : ∃ W, W = W' := ⟨_, rfl⟩
     obtain ⟨c0, c1, c2⟩ : W.cell? ⟨w.heap.size, 0, none⟩ = some (.bool false) ∧ W.cell? ⟨w.heap.size, 1, none⟩ = some (.string t) ∧ W.cell? ⟨w.heap.size, 2, none⟩ = some (.int .i64 x) := ⟨A2.out.cell 0, A2.out.cell 1, A2.out.cell 2⟩
     go_wp2_with fail
     refine Calls.mono (bstr_calls m (m + 1) ((([] ++ [48]) ++ t.data.toList) ++ [101]) ⟨(Lib.itoa x).toArray⟩ (Nat.lt_succ_self _) (by rw [Lib.size_mk]; simp; have := size_list t; omega) _ hbd.out hWs.out) ?_
     rintro e W' ⟨rfl, hbn, hb⟩
     replace A2 := hid (A2.out.kept hb hlt.out)
     replace hb2 := hid (below_bd hb2.out hb (Nat.le_of_lt hlt.out))
     replace hWs := hid (Nat.le_trans hWs.out hb.size)
     replace hbd := hid hbn
     clear hb hbn c0 c1 c2
     obtain ⟨W, rfl⟩ : ∃ W, W = W' := ⟨_, rfl⟩
     have hle : (((([] ++ [48]) ++ t.data.toList) ++ [101]) ++ (⟨(Lib.itoa x).toArray⟩ : ByteArray).data.toList) = S.data.toList := by
      rw [hSl.out]
      simp [h0, hx0, ht0]
     replace hbd := hid (show BdI W m (m + 1) S.data.toList by rw [← hle]; exact hbd.out)
     have hSm : (⟨S.data.toList.toArray⟩ : ByteArray) = S := Lib.mk_data S
     clear hle
     obtain ⟨c0, c1, c2⟩ : W.cell? ⟨w.heap.size, 0, none⟩ = some (.bool false) ∧ W.cell? ⟨w.heap.size, 1, none⟩ = some (.string t) ∧ W.cell? ⟨w.heap.size, 2, none⟩ = some (.int .i64 x) := ⟨A2.out.cell 0, A2.out.cell 1, A2.out.cell 2⟩
     have hbc := hid (bstring_calls m (m + 1) w.heap.size S.data.toList W hbd.out (by have := hlt.out; omega) hWs.out)
     rw [hSm] at hbc
     clear hSm
     go_wp2_with fail
     refine Calls.mono hbc.out ?_
     rintro e W' ⟨rfl, hb, -⟩
     go_wp2
     refine bodyPost_ret (results_tmp2 rfl _ _ _) rfl ?_
     exact ⟨rfl, hb2.out.trans hb⟩
   ·have e0 : (t.toList == []) = false := by
     apply beq_eq_false_iff_ne.2
     intro he
     apply h0
     rw [← size_list, ← Lib.toList_data, he]; rfl
    by_cases hx0 : x = 0
    ·have e1 : (x != 0) = false := by simp [hx0]
     obtain ⟨c0, c1, c2⟩ : W.cell? ⟨w.heap.size, 0, none⟩ = some (.bool false) ∧ W.cell? ⟨w.heap.size, 1, none⟩ = some (.string t) ∧ W.cell? ⟨w.heap.size, 2, none⟩ = some (.int .i64 x) := ⟨A2.out.cell 0, A2.out.cell 1, A2.out.cell 2⟩
     go_wp2_with fail
     refine Calls.mono (bstr_calls m (m + 1) [] t (Nat.lt_succ_self _) (by simp; try omega) _ hbd.out hWs.out) ?_
     rintro e W' ⟨rfl, hbn, hb⟩
     replace A2 := hid (A2.out.kept hb hlt.out)
     replace hb2 := hid (below_bd hb2.out hb (Nat.le_of_lt hlt.out))
     replace hWs := hid (Nat.le_trans hWs.out hb.size)
     replace hbd := hid hbn
     clear hb hbn c0 c1 c2
     obtain ⟨W, rfl⟩ : ∃ W, W = W' := ⟨_, rfl⟩
     have hle : ([] ++ t.data.toList) = S.data.toList := by
      rw [hSl.out]
      simp [h0, hx0]
     replace hbd := hid (show BdI W m (m + 1) S.data.toList by rw [← hle]; exact hbd.out)
     have hSm : (⟨S.data.toList.toArray⟩ : ByteArray) = S := Lib.mk_data S
     clear hle
     obtain ⟨c0, c1, c2⟩ : W.cell? ⟨w.heap.size, 0, none⟩ = some (.bool false) ∧ W.cell? ⟨w.heap.size, 1, none⟩ = some (.string t) ∧ W.cell? ⟨w.heap.size, 2, none⟩ = some (.int .i64 x) := ⟨A2.out.cell 0, A2.out.cell 1, A2.out.cell 2⟩
     have hbc := hid (bstring_calls m (m + 1) w.heap.size S.data.toList W hbd.out (by have := hlt.out; omega) hWs.out)
     rw [hSm] at hbc
     clear hSm
     go_wp2_with fail
     refine Calls.mono hbc.out ?_
     rintro e W' ⟨rfl, hb, -⟩
     go_wp2
     refine bodyPost_ret (results_tmp2 rfl _ _ _) rfl ?_
     exact ⟨rfl, hb2.out.trans hb⟩
    ·have e1 : (x != 0) = true := by simpa using hx0
     obtain ⟨c0, c1, c2⟩ : W.cell? ⟨w.heap.size, 0, none⟩ = some (.bool false) ∧ W.cell? ⟨w.heap.size, 1, none⟩ = some (.string t) ∧ W.cell? ⟨w.heap.size, 2, none⟩ = some (.int .i64 x) := ⟨A2.out.cell 0, A2.out.cell 1, A2.out.cell 2⟩
     go_wp2_with fail
     refine Calls.mono (bstr_calls m (m + 1) [] t (Nat.lt_succ_self _) (by simp; try omega) _ hbd.out hWs.out) ?_
     rintro e W' ⟨rfl, hbn, hb⟩
     replace A2 := hid (A2.out.kept hb hlt.out)
     replace hb2 := hid (below_bd hb2.out hb (Nat.le_of_lt hlt.out))
     replace hWs := hid (Nat.le_trans hWs.out hb.size)
     replace hbd := hid hbn
     clear hb hbn c0 c1 c2
     obtain ⟨W, rfl⟩ : ∃ W, W = W' := ⟨_, rfl⟩
     obtain ⟨c0, c1, c2⟩ : W.cell? ⟨w.heap.size, 0, none⟩ = some (.bool false) ∧ W.cell? ⟨w.heap.size, 1, none⟩ = some (.string t) ∧ W.cell? ⟨w.heap.size, 2, none⟩ = some (.int .i64 x) := ⟨A2.out.cell 0, A2.out.cell 1, A2.out.cell 2⟩
     go_wp2_with fail
     refine Calls.mono (bbyte_calls m (m + 1) ([] ++ t.data.toList) 101 101 rfl (Nat.lt_succ_self _) (by simp; have := size_list t; omega) _ hbd.out hWs.out) ?_
     rintro e W' ⟨rfl, hbn, hb⟩
     replace A2 := hid (A2.out.kept hb hlt.out)
     replace hb2 := hid (below_bd hb2.out hb (Nat.le_of_lt hlt.out))
     replace hWs := hid (Nat.le_trans hWs.out hb.size)
     replace hbd := hid hbn
     clear hb hbn c0 c1 c2
     obtain ⟨W, rfl⟩ : ∃ W, W = W' := ⟨_, rfl⟩
     obtain ⟨c0, c1, c2⟩ : W.cell? ⟨w.heap.size, 0, none⟩ = some (.bool false) ∧ W.cell? ⟨w.heap.size, 1, none⟩ = some (.string t) ∧ W.cell? ⟨w.heap.size, 2, none⟩ = some (.int .i64 x) := ⟨A2.out.cell 0, A2.out.cell 1, A2.out.cell 2⟩
     go_wp2_with fail
     refine Calls.mono (itoa_calls x (by omega) (by omega) _ (hT'.out.kept hb2.out)) ?_
     rintro e W' ⟨rfl, hb⟩
     replace A2 := hid (A2.out.keptAll hb)
     replace hbd := hid (hbd.out.kept hb)
     replace hb2 := hid (hb2.out.trans (hb.mono hb2.out.size))
     replace hWs := hid (Nat.le_trans hWs.out hb.size)
     clear hb c0 c1 c2
     obtain ⟨W, rfl⟩ : ∃ W, W = W' := ⟨_, rfl⟩
     obtain ⟨c0, c1, c2⟩ : W.cell? ⟨w.heap.size, 0, none⟩ = some (.bool false) ∧ W.cell? ⟨w.heap.size, 1, none⟩ = some (.string t) ∧ W.cell? ⟨w.heap.size, 2, none⟩ = some (.int .i64 x) := ⟨A2.out.cell 0, A2.out.cell 1, A2.out.cell 2⟩
     go_wp2_with fail
     refine Calls.mono (bstr_calls m (m + 1) (([] ++ t.data.toList) ++ [101]) ⟨(Lib.itoa x).toArray⟩ (Nat.lt_succ_self _) (by rw [Lib.size_mk]; simp; have := size_list t; omega) _ hbd.out hWs.out) ?_
     rintro e W' ⟨rfl, hbn, hb⟩
     replace A2 := hid (A2.out.kept hb hlt.out)
     replace hb2 := hid (below_bd hb2.out hb (Nat.le_of_lt hlt.out))
     replace hWs := hid (Nat.le_trans hWs.out hb.size)
     replace hbd := hid hbn
     clear hb hbn c0 c1 c2
     obtain ⟨W, rfl⟩ : ∃ W, W = W' := ⟨_, rfl⟩
     have hle : ((([] ++ t.data.toList) ++ [101]) ++ (⟨(Lib.itoa x).toArray⟩ : ByteArray).data.toList) = S.data.toList := by
      rw [hSl.out]
      simp [h0, hx0]
     replace hbd := hid (show BdI W m (m + 1) S.data.toList by rw [← hle]; exact hbd.out)
     have hSm : (⟨S.data.toList.toArray⟩ : ByteArray) = S := Lib.mk_data S
     clear hle
     obtain ⟨c0, c1, c2⟩ : W.cell? ⟨w.heap.size, 0, none⟩ = some (.bool false) ∧ W.cell? ⟨w.heap.size, 1, none⟩ = some (.string t) ∧ W.cell? ⟨w.heap.size, 2, none⟩ = some (.int .i64 x) := ⟨A2.out.cell 0, A2.out.cell 1, A2.out.cell 2⟩
     have hbc := hid (bstring_calls m (m + 1) w.heap.size S.data.toList W hbd.out (by have := hlt.out; omega) hWs.out)
     rw [hSm] at hbc
     clear hSm
     go_wp2_with fail
     refine Calls.mono hbc.out ?_
     rintro e W' ⟨rfl, hb, -⟩
     go_wp2
     refine bodyPost_ret (results_tmp2 rfl _ _ _) rfl ?_
     exact ⟨rfl, hb2.out.trans hb⟩
  ·by_cases h0 : t.size = 0
   ·have e0 : (t.toList == []) = true := by
     have : t.toList = [] := by rw [Lib.toList_data]; exact List.eq_nil_of_length_eq_zero (by rw [size_list]; exact h0)
     rw [this]; rfl
    have ht0 : t.data.toList = [] := List.eq_nil_of_length_eq_zero (by rw [size_list]; exact h0)
    by_cases hx0 : x = 0
    ·have e1 : (x != 0) = false := by simp [hx0]
     obtain ⟨c0, c1, c2⟩ : W.cell? ⟨w.heap.size, 0, none⟩ = some (.bool true) ∧ W.cell? ⟨w.heap.size, 1, none⟩ = some (.string t) ∧ W.cell? ⟨w.heap.size, 2, none⟩ = some (.int .i64 x) := ⟨A2.out.cell 0, A2.out.cell 1, A2.out.cell 2⟩
     go_wp2_with fail
     refine Calls.mono (bbyte_calls m (m + 1) [] 45 45 rfl (Nat.lt_succ_self _) (by simp; try omega) _ hbd.out hWs.out) ?_
     rintro e W' ⟨rfl, hbn, hb⟩
     replace A2 := hid (A2.out.kept hb hlt.out)
     replace hb2 := hid (below_bd hb2.out hb (Nat.le_of_lt hlt.out))
     replace hWs := hid (Nat.le_trans hWs.out hb.size)
     replace hbd := hid hbn
     clear hb hbn c0 c1 c2
     obtain ⟨W, rfl⟩ : ∃ W, W = W' := ⟨_, rfl⟩
     obtain ⟨c0, c1, c2⟩ : W.cell? ⟨w.heap.size, 0, none⟩ = some (.bool true) ∧ W.cell? ⟨w.heap.size, 1, none⟩ = some (.string t) ∧ W.cell? ⟨w.heap.size, 2, none⟩ = some (.int .i64 x) := ⟨A2.out.cell 0, A2.out.cell 1, A2.out.cell 2⟩
     go_wp2_with fail
     refine Calls.mono (bbyte_calls m (m + 1) ([] ++ [45]) 48 48 rfl (Nat.lt_succ_self _) (by simp; try omega) _ hbd.out hWs.out) ?_
     rintro e W' ⟨rfl, hbn, hb⟩
     replace A2 := hid (A2.out.kept hb hlt.out)
     replace hb2 := hid (below_bd hb2.out hb (Nat.le_of_lt hlt.out))
     replace hWs := hid (Nat.le_trans hWs.out hb.size)
     replace hbd := hid hbn
     clear hb hbn c0 c1 c2
     obtain ⟨W, rfl⟩ : ∃ W, W = W' := ⟨_, rfl⟩
     obtain ⟨c0, c1, c2⟩ : W.cell? ⟨w.heap.size, 0, none⟩ = some (.bool true) ∧ W.cell? ⟨w.heap.size, 1, none⟩ = some (.string t) ∧ W.cell? ⟨w.heap.size, 2, none⟩ = some (.int .i64 x) := ⟨A2.out.cell 0, A2.out.cell 1, A2.out.cell 2⟩
     go_wp2_with fail
     refine Calls.mono (bstr_calls m (m + 1) (([] ++ [45]) ++ [48]) t (Nat.lt_succ_self _) (by simp; try omega) _ hbd.out hWs.out) ?_
     rintro e W' ⟨rfl, hbn, hb⟩
     replace A2 := hid (A2.out.kept hb hlt.out)
     replace hb2 := hid (below_bd hb2.out hb (Nat.le_of_lt hlt.out))
     replace hWs := hid (Nat.le_trans hWs.out hb.size)
     replace hbd := hid hbn
     clear hb hbn c0 c1 c2
     obtain ⟨W, rfl⟩ : ∃ W, W = W' := ⟨_, rfl⟩
     have hle : ((([] ++ [45]) ++ [48]) ++ t.data.toList) = S.data.toList := by
      rw [hSl.out]
      simp [h0, hx0, ht0]
     replace hbd := hid (show BdI W m (m + 1) S.data.toList by rw [← hle]; exact hbd.out)
     have hSm : (⟨S.data.toList.toArray⟩ : ByteArray) = S := Lib.mk_data S
     clear hle
     obtain ⟨c0, c1, c2⟩ : W.cell? ⟨w.heap.size, 0, none⟩ = some (.bool true) ∧ W.cell? ⟨w.heap.size, 1, none⟩ = some (.string t) ∧ W.cell? ⟨w.heap.size, 2, none⟩ = some (.int .i64 x) := ⟨A2.out.cell 0, A2.out.cell 1, A2.out.cell 2⟩
     have hbc := hid (bstring_calls m (m + 1) w.heap.size S.data.toList W hbd.out (by have := hlt.out; omega) hWs.out)
     rw [hSm] at hbc
     clear hSm
     go_wp2_with fail
     refine Calls.mono hbc.out ?_
     rintro e W' ⟨rfl, hb, -⟩
     go_wp2
     refine bodyPost_ret (results_tmp2 rfl _ _ _) rfl ?_
     exact ⟨rfl, hb2.out.trans hb⟩
    ·have e1 : (x != 0) = true := by simpa using hx0
     obtain ⟨c0, c1, c2⟩ : W.cell? ⟨w.heap.size, 0, none⟩ = some (.bool true) ∧ W.cell? ⟨w.heap.size, 1, none⟩ = some (.string t) ∧ W.cell? ⟨w.heap.size, 2, none⟩ = some (.int .i64 x) := ⟨A2.out.cell 0, A2.out.cell 1, A2.out.cell 2⟩
     go_wp2_with fail
     refine Calls.mono (bbyte_calls m (m + 1) [] 45 45 rfl (Nat.lt_succ_self _) (by simp; try omega) _ hbd.out hWs.out) ?_
     rintro e W' ⟨rfl, hbn, hb⟩
     replace A2 := hid (A2.out.kept hb hlt.out)
     replace hb2 := hid (below_bd hb2.out hb (Nat.le_of_lt hlt.out))
     replace hWs := hid (Nat.le_trans hWs.out hb.size)
     replace hbd := hid hbn
     clear hb hbn c0 c1 c2
     obtain ⟨W, rfl⟩ : ∃ W, W = W' := ⟨_, rfl⟩
     obtain ⟨c0, c1, c2⟩ : W.cell? ⟨w.heap.size, 0, none⟩ = some (.bool true) ∧ W.cell? ⟨w.heap.size, 1, none⟩ = some (.string t) ∧ W.cell? ⟨w.heap.size, 2, none⟩ = some (.int .i64 x) := ⟨A2.out.cell 0, A2.out.cell 1, A2.out.cell 2⟩
     go_wp2_with fail
     refine Calls.mono (bbyte_calls m (m + 1) ([] ++ [45]) 48 48 rfl (Nat.lt_succ_self _) (by simp; try omega) _ hbd.out hWs.out) ?_
     rintro e W' ⟨rfl, hbn, hb⟩
     replace A2 := hid (A2.out.kept hb hlt.out)
     replace hb2 := hid (below_bd hb2.out hb (Nat.le_of_lt hlt.out))
     replace hWs := hid (Nat.le_trans hWs.out hb.size)
     replace hbd := hid hbn
     clear hb hbn c0 c1 c2
     obtain ⟨W, rfl⟩ : ∃ W, W = W' := ⟨_, rfl⟩
     obtain ⟨c0, c1, c2⟩ : W.cell? ⟨w.heap.size, 0, none⟩ = some (.bool true) ∧ W.cell? ⟨w.heap.size, 1, none⟩ = some (.string t) ∧ W.cell? ⟨w.heap.size, 2, none⟩ = some (.int .i64 x) := ⟨A2.out.cell 0, A2.out.cell 1, A2.out.cell 2⟩
     go_wp2_with fail
     refine Calls.mono (bstr_calls m (m + 1) (([] ++ [45]) ++ [48]) t (Nat.lt_succ_self _) (by simp; try omega) _ hbd.out hWs.out) ?_
     rintro e W' ⟨rfl, hbn, hb⟩
     replace A2 := hid (A2.out.kept hb hlt.out)
     replace hb2 := hid (below_bd hb2.out hb (Nat.le_of_lt hlt.out))
     replace hWs := hid (Nat.le_trans hWs.out hb.size)
     replace hbd := hid hbn
     clear hb hbn c0 c1 c2
     obtain ⟨W, rfl⟩ : ∃ W, W = W' := ⟨_, rfl⟩
     obtain ⟨c0, c1, c2⟩ : W.cell? ⟨w.heap.size, 0, none⟩ = some (.bool true) ∧ W.cell? ⟨w.heap.size, 1, none⟩ = some (.string t) ∧ W.cell? ⟨w.heap.size, 2, none⟩ = some (.int .i64 x) := ⟨A2.out.cell 0, A2.out.cell 1, A2.out.cell 2⟩
     go_wp2_with fail
     refine Calls.mono (bbyte_calls m (m + 1) ((([] ++ [45]) ++ [48]) ++ t.data.toList) 101 101 rfl (Nat.lt_succ_self _) (by simp; have := size_list t; omega) _ hbd.out hWs.out) ?_
     rintro e W' ⟨rfl, hbn, hb⟩
     replace A2 := hid (A2.out.kept hb hlt.out)
     replace hb2 := hid (below_bd hb2.out hb (Nat.le_of_lt hlt.out))
     replace hWs := hid (Nat.le_trans hWs.out hb.size)
     replace hbd := hid hbn
     clear hb hbn c0 c1 c2
     obtain ⟨W, rfl⟩ : ∃ W, W = W' := ⟨_, rfl⟩
     obtain ⟨c0, c1, c2⟩ : W.cell? ⟨w.heap.size, 0, none⟩ = some (.bool true) ∧ W.cell? ⟨w.heap.size, 1, none⟩ = some (.string t) ∧ W.cell? ⟨w.heap.size, 2, none⟩ = some (.int .i64 x) := ⟨A2.out.cell 0, A2.out.cell 1, A2.out.cell 2⟩
     go_wp2_with fail
     refine Calls.mono (itoa_calls x (by omega) (by omega) _ (hT'.out.kept hb2.out)) ?_
     rintro e W' ⟨rfl, hb⟩
     replace A2 := hid (A2.out.keptAll hb)
     replace hbd := hid (hbd.out.kept hb)
     replace hb2 := hid (hb2.out.trans (hb.mono hb2.out.size))
     replace hWs := hid (Nat.le_trans hWs.out hb.size)
     clear hb c0 c1 c2
     obtain ⟨W, rfl⟩ : ∃ W, W = W' := ⟨_, rfl⟩
     obtain ⟨c0, c1, c2⟩ : W.cell? ⟨w.heap.size, 0, none⟩ = some (.bool true) ∧ W.cell? ⟨w.heap.size, 1, none⟩ = some (.string t) ∧ W.cell? ⟨w.heap.size, 2, none⟩ = some (.int .i64 x) := ⟨A2.out.cell 0, A2.out.cell 1, A2.out.cell 2⟩
     go_wp2_with fail
     refine Calls.mono (bstr_calls m (m + 1) (((([] ++ [45]) ++ [48]) ++ t.data.toList) ++ [101]) ⟨(Lib.itoa x).toArray⟩ (Nat.lt_succ_self _) (by rw [Lib.size_mk]; simp; have := size_list t; omega) _ hbd.out hWs.out) ?_
     rintro e W' ⟨rfl, hbn, hb⟩
     replace A2 := hid (A2.out.kept hb hlt.out)
     replace hb2 := hid (below_bd hb2.out hb (Nat.le_of_lt hlt.out))
     replace hWs := hid (Nat.le_trans hWs.out hb.size)
     replace hbd := hid hbn
     clear hb hbn c0 c1 c2
     obtain ⟨W, rfl⟩ : ∃ W, W = W' := ⟨_, rfl⟩
     have hle : ((((([] ++ [45]) ++ [48]) ++ t.data.toList) ++ [101]) ++ (⟨(Lib.itoa x).toArray⟩ : ByteArray).data.toList) = S.data.toList := by
      rw [hSl.out]
      simp [h0, hx0, ht0]
     replace hbd := hid (show BdI W m (m + 1) S.data.toList by rw [← hle]; exact hbd.out)
     have hSm : (⟨S.data.toList.toArray⟩ : ByteArray) = S := Lib.mk_data S
     clear hle
     obtain ⟨c0, c1, c2⟩ : W.cell? ⟨w.heap.size, 0, none⟩ = some (.bool true) ∧ W.cell? ⟨w.heap.size, 1, none⟩ = some (.string t) ∧ W.cell? ⟨w.heap.size, 2, none⟩ = some (.int .i64 x) := ⟨A2.out.cell 0, A2.out.cell 1, A2.out.cell 2⟩
     have hbc := hid (bstring_calls m (m + 1) w.heap.size S.data.toList W hbd.out (by have := hlt.out; omega) hWs.out)
     rw [hSm] at hbc
     clear hSm
     go_wp2_with fail
     refine Calls.mono hbc.out ?_
     rintro e W' ⟨rfl, hb, -⟩
     go_wp2
     refine bodyPost_ret (results_tmp2 rfl _ _ _) rfl ?_
     exact ⟨rfl, hb2.out.trans hb⟩
   ·have e0 : (t.toList == []) = false := by
     apply beq_eq_false_iff_ne.2
     intro he
     apply h0
     rw [← size_list, ← Lib.toList_data, he]; rfl
    by_cases hx0 : x = 0
    ·have e1 : (x != 0) = false := by simp [hx0]
     obtain ⟨c0, c1, c2⟩ : W.cell? ⟨w.heap.size, 0, none⟩ = some (.bool true) ∧ W.cell? ⟨w.heap.size, 1, none⟩ = some (.string t) ∧ W.cell? ⟨w.heap.size, 2, none⟩ = some (.int .i64 x) := ⟨A2.out.cell 0, A2.out.cell 1, A2.out.cell 2⟩
     go_wp2_with fail
     refine Calls.mono (bbyte_calls m (m + 1) [] 45 45 rfl (Nat.lt_succ_self _) (by simp; try omega) _ hbd.out hWs.out) ?_
     rintro e W' ⟨rfl, hbn, hb⟩
     replace A2 := hid (A2.out.kept hb hlt.out)
     replace hb2 := hid (below_bd hb2.out hb (Nat.le_of_lt hlt.out))
     replace hWs := hid (Nat.le_trans hWs.out hb.size)
     replace hbd := hid hbn
     clear hb hbn c0 c1 c2
     obtain ⟨W, rfl⟩ : ∃ W, W = W' := ⟨_, rfl⟩
     obtain ⟨c0, c1, c2⟩ : W.cell? ⟨w.heap.size, 0, none⟩ = some (.bool true) ∧ W.cell? ⟨w.heap.size, 1, none⟩ = some (.string t) ∧ W.cell? ⟨w.heap.size, 2, none⟩ = some (.int .i64 x) := ⟨A2.out.cell 0, A2.out.cell 1, A2.out.cell 2⟩
     go_wp2_with fail
     refine Calls.mono (bstr_calls m (m + 1) ([] ++ [45]) t (Nat.lt_succ_self _) (by simp; try omega) _ hbd.out hWs.out) ?_
     rintro e W' ⟨rfl, hbn, hb⟩
     replace A2 := hid (A2.out.kept hb hlt.out)
     replace hb2 := hid (below_bd hb2.out hb (Nat.le_of_lt hlt.out))
     replace hWs := hid (Nat.le_trans hWs.out hb.size)
     replace hbd := hid hbn
     clear hb hbn c0 c1 c2
     obtain ⟨W, rfl⟩ : ∃ W, W = W' := ⟨_, rfl⟩
     have hle : (([] ++ [45]) ++ t.data.toList) = S.data.toList := by
      rw [hSl.out]
      simp [h0, hx0]
     replace hbd := hid (show BdI W m (m + 1) S.data.toList by rw [← hle]; exact hbd.out)
     have hSm : (⟨S.data.toList.toArray⟩ : ByteArray) = S := Lib.mk_data S
     clear hle
     obtain ⟨c0, c1, c2⟩ : W.cell? ⟨w.heap.size, 0, none⟩ = some (.bool true) ∧ W.cell? ⟨w.heap.size, 1, none⟩ = some (.string t) ∧ W.cell? ⟨w.heap.size, 2, none⟩ = some (.int .i64 x) := ⟨A2.out.cell 0, A2.out.cell 1, A2.out.cell 2⟩
     have hbc := hid (bstring_calls m (m + 1) w.heap.size S.data.toList W hbd.out (by have := hlt.out; omega) hWs.out)
     rw [hSm] at hbc
     clear hSm
     go_wp2_with fail
     refine Calls.mono hbc.out ?_
     rintro e W' ⟨rfl, hb, -⟩
     go_wp2
     refine bodyPost_ret (results_tmp2 rfl _ _ _) rfl ?_
     exact ⟨rfl, hb2.out.trans hb⟩
    ·have e1 : (x != 0) = true := by simpa using hx0
     obtain ⟨c0, c1, c2⟩ : W.cell? ⟨w.heap.size, 0, none⟩ = some (.bool true) ∧ W.cell? ⟨w.heap.size, 1, none⟩ = some (.string t) ∧ W.cell? ⟨w.heap.size, 2, none⟩ = some (.int .i64 x) := ⟨A2.out.cell 0, A2.out.cell 1, A2.out.cell 2⟩
     go_wp2_with fail
     refine Calls.mono (bbyte_calls m (m + 1) [] 45 45 rfl (Nat.lt_succ_self _) (by simp; try omega) _ hbd.out hWs.out) ?_
     rintro e W' ⟨rfl, hbn, hb⟩
     replace A2 := hid (A2.out.kept hb hlt.out)
     replace hb2 := hid (below_bd hb2.out hb (Nat.le_of_lt hlt.out))
     replace hWs := hid (Nat.le_trans hWs.out hb.size)
     replace hbd := hid hbn
     clear hb hbn c0 c1 c2
     obtain ⟨W, rfl⟩ : ∃ W, W = W' := ⟨_, rfl⟩
     obtain ⟨c0, c1, c2⟩ : W.cell? ⟨w.heap.size, 0, none⟩ = some (.bool true) ∧ W.cell? ⟨w.heap.size, 1, none⟩ = some (.string t) ∧ W.cell? ⟨w.heap.size, 2, none⟩ = some (.int .i64 x) := ⟨A2.out.cell 0, A2.out.cell 1, A2.out.cell 2⟩
     go_wp2_with fail
     refine Calls.mono (bstr_calls m (m + 1) ([] ++ [45]) t (Nat.lt_succ_self _) (by simp; try omega) _ hbd.out hWs.out) ?_
     rintro e W' ⟨rfl, hbn, hb⟩
     replace A2 := hid (A2.out.kept hb hlt.out)
     replace hb2 := hid (below_bd hb2.out hb (Nat.le_of_lt hlt.out))
     replace hWs := hid (Nat.le_trans hWs.out hb.size)
     replace hbd := hid hbn
     clear hb hbn c0 c1 c2
     obtain ⟨W, rfl⟩ : ∃ W, W = W' := ⟨_, rfl⟩
     obtain ⟨c0, c1, c2⟩ : W.cell? ⟨w.heap.size, 0, none⟩ = some (.bool true) ∧ W.cell? ⟨w.heap.size, 1, none⟩ = some (.string t) ∧ W.cell? ⟨w.heap.size, 2, none⟩ = some (.int .i64 x) := ⟨A2.out.cell 0, A2.out.cell 1, A2.out.cell 2⟩
     go_wp2_with fail
     refine Calls.mono (bbyte_calls m (m + 1) (([] ++ [45]) ++ t.data.toList) 101 101 rfl (Nat.lt_succ_self _) (by simp; have := size_list t; omega) _ hbd.out hWs.out) ?_
     rintro e W' ⟨rfl, hbn, hb⟩
     replace A2 := hid (A2.out.kept hb hlt.out)
     replace hb2 := hid (below_bd hb2.out hb (Nat.le_of_lt hlt.out))
     replace hWs := hid (Nat.le_trans hWs.out hb.size)
     replace hbd := hid hbn
     clear hb hbn c0 c1 c2
     obtain ⟨W, rfl⟩ : ∃ W, W = W' := ⟨_, rfl⟩
     obtain ⟨c0, c1, c2⟩ : W.cell? ⟨w.heap.size, 0, none⟩ = some (.bool true) ∧ W.cell? ⟨w.heap.size, 1, none⟩ = some (.string t) ∧ W.cell? ⟨w.heap.size, 2, none⟩ = some (.int .i64 x) := ⟨A2.out.cell 0, A2.out.cell 1, A2.out.cell 2⟩
     go_wp2_with fail
     refine Calls.mono (itoa_calls x (by omega) (by omega) _ (hT'.out.kept hb2.out)) ?_
     rintro e W' ⟨rfl, hb⟩
     replace A2 := hid (A2.out.keptAll hb)
     replace hbd := hid (hbd.out.kept hb)
     replace hb2 := hid (hb2.out.trans (hb.mono hb2.out.size))
     replace hWs := hid (Nat.le_trans hWs.out hb.size)
     clear hb c0 c1 c2
     obtain ⟨W, rfl⟩ : ∃ W, W = W' := ⟨_, rfl⟩
     obtain ⟨c0, c1, c2⟩ : W.cell? ⟨w.heap.size, 0, none⟩ = some (.bool true) ∧ W.cell? ⟨w.heap.size, 1, none⟩ = some (.string t) ∧ W.cell? ⟨w.heap.size, 2, none⟩ = some (.int .i64 x) := ⟨A2.out.cell 0, A2.out.cell 1, A2.out.cell 2⟩
     go_wp2_with fail
     refine Calls.mono (bstr_calls m (m + 1) ((([] ++ [45]) ++ t.data.toList) ++ [101]) ⟨(Lib.itoa x).toArray⟩ (Nat.lt_succ_self _) (by rw [Lib.size_mk]; simp; have := size_list t; omega) _ hbd.out hWs.out) ?_
     rintro e W' ⟨rfl, hbn, hb⟩
     replace A2 := hid (A2.out.kept hb hlt.out)
     replace hb2 := hid (below_bd hb2.out hb (Nat.le_of_lt hlt.out))
     replace hWs := hid (Nat.le_trans hWs.out hb.size)
     replace hbd := hid hbn
     clear hb hbn c0 c1 c2
     obtain ⟨W, rfl⟩ : ∃ W, W = W' := ⟨_, rfl⟩
     have hle : (((([] ++ [45]) ++ t.data.toList) ++ [101]) ++ (⟨(Lib.itoa x).toArray⟩ : ByteArray).data.toList) = S.data.toList := by
      rw [hSl.out]
      simp [h0, hx0]
     replace hbd := hid (show BdI W m (m + 1) S.data.toList by rw [← hle]; exact hbd.out)
     have hSm : (⟨S.data.toList.toArray⟩ : ByteArray) = S := Lib.mk_data S
     clear hle
     obtain ⟨c0, c1, c2⟩ : W.cell? ⟨w.heap.size, 0, none⟩ = some (.bool true) ∧ W.cell? ⟨w.heap.size, 1, none⟩ = some (.string t) ∧ W.cell? ⟨w.heap.size, 2, none⟩ = some (.int .i64 x) := ⟨A2.out.cell 0, A2.out.cell 1, A2.out.cell 2⟩
     have hbc := hid (bstring_calls m (m + 1) w.heap.size S.data.toList W hbd.out (by have := hlt.out; omega) hWs.out)
     rw [hSm] at hbc
     clear hSm
     go_wp2_with fail
     refine Calls.mono hbc.out ?_
     rintro e W' ⟨rfl, hb, -⟩
     go_wp2
     refine bodyPost_ret (results_tmp2 rfl _ _ _) rfl ?_
     exact ⟨rfl, hb2.out.trans hb⟩
end Go.Proofs.YtlhbgfhmcjaabaaGreatDoor

/-
 TrA, TrB, TrC, one behind the other.
-/
/- Values as trees, and how they lie in memory; a value that comes in. -/
namespace Go.Proofs.YtlhbgfhmcjaabaaGreatDoor
open Go.ChangeShapes Go.WideShapes Go.ChangeAt Go.RowKit
set_option maxRecDepth 100000
/-- A value: its kind, its truth, its number's text, its text, its names, its kids. -/
inductive Vt where
 | mk (kind : Int) (b : Bool) (raw text : ByteArray) (keys : List ByteArray) (kids : List Vt)
def Vt.kind : Vt → Int | .mk k _ _ _ _ _ => k
def Vt.b : Vt → Bool | .mk _ b _ _ _ _ => b
def Vt.raw : Vt → ByteArray | .mk _ _ r _ _ _ => r
def Vt.text : Vt → ByteArray | .mk _ _ _ t _ _ => t
def Vt.keys : Vt → List ByteArray | .mk _ _ _ _ ks _ => ks
def Vt.kids : Vt → List Vt | .mk _ _ _ _ _ vs => vs
/-- No text and no list is longer than that (the form's own reach). -/
def capT : Nat := 140737488351232
/-- A list of texts in memory. -/
def KeysAt (w : World) (ao : Option Addr) (ks : List ByteArray) : Prop := ∀ (i : Nat) (s : ByteArray), ks[i]? = some s → s.size ≤ capT ∧ ∃ b off, ao = some ⟨b, off, none⟩ ∧ b < w.heap.size ∧ w.cell? ⟨b, off + i, none⟩ = some (.string s)
/-- A list of values in memory, six cells each. -/
def RowAt (w : World) (ao : Option Addr) (n : Nat) (X : Nat → Array Value) : Prop := ∀ i, i < n → (X i).size = 6 ∧ ∃ b off, ao = some ⟨b, off, none⟩ ∧ b < w.heap.size ∧ ∀ j, j < 6 → w.cell? ⟨b, off + i * 6 + j, none⟩ = (X i)[j]?
/-- A value in memory. -/
inductive ValAt (w : World) : Vt → Value → Prop
 | mk (k : Int) (b : Bool) (r t : ByteArray) (ks : List ByteArray) (vs : List Vt) (ko : Option Addr) (kc : Nat) (vo : Option Addr) (vc : Nat) (X : Nat → Array Value)
   (hw : (Lit.int .i64 k).wf = true) (hz : r.size ≤ capT ∧ t.size ≤ capT ∧ ks.length ≤ capT ∧ vs.length ≤ capT) (hk : KeysAt w ko ks) (hr : RowAt w vo vs.length X) (hv : ∀ (i : Nat) (u : Vt), vs[i]? = some u → ValAt w u (.agg (X i))) :
   ValAt w (.mk k b r t ks vs) (.agg #[.int .i64 k, .bool b, .string r, .string t, .slice ko ks.length kc, .slice vo vs.length vc])
theorem KeysAt.kept {w w' : World} {ao : Option Addr} {ks : List ByteArray} (h : KeysAt w ao ks) (hb : Below w.heap.size w w') : KeysAt w' ao ks := fun i s hi => by
 obtain ⟨h0, b, off, h1, h2, h3⟩ := h i s hi
 exact ⟨h0, b, off, h1, Nat.lt_of_lt_of_le h2 hb.size, (hb.cell (p := ⟨b, off + i, none⟩) h2).trans h3⟩
theorem RowAt.kept {w w' : World} {ao : Option Addr} {n : Nat} {X : Nat → Array Value} (h : RowAt w ao n X) (hb : Below w.heap.size w w') : RowAt w' ao n X := fun i hi => by
 obtain ⟨h0, b, off, h1, h2, h3⟩ := h i hi
 exact ⟨h0, b, off, h1, Nat.lt_of_lt_of_le h2 hb.size, fun j hj => (hb.cell (p := ⟨b, off + i * 6 + j, none⟩) h2).trans (h3 j hj)⟩
theorem ValAt.kept {w w' : World} {t : Vt} {v : Value} (h : ValAt w t v) (hb : Below w.heap.size w w') : ValAt w' t v := by
 induction h with
 | mk k b r t ks vs ko kc vo vc X hw hz hk hr hv ih => exact .mk k b r t ks vs ko kc vo vc X hw hz (hk.kept hb) (hr.kept hb) ih
section
variable {H : Type} {enc : TypeId × Value → H} {w : World} {base : Nat} {spare : Nat → Bool} {held : Bool}
theorem cellsVl : Tryz.prog.cellsOf 25 = 6 := by kernel_rfl
theorem cellsVs : Tryz.prog.cellsOf 23 = 1 := by kernel_rfl
theorem cellsKs : Tryz.prog.cellsOf 22 = 1 := by kernel_rfl
theorem cellsSt : Tryz.prog.cellsOf 9 = 1 := by kernel_rfl
theorem cell_ltT {w : World} {a : Addr} {v : Value} (h : w.cell? a = some v) : a.block < w.heap.size := by
 unfold World.cell? at h
 cases ho : w.heap[a.block]? with
 | none => simp [ho] at h
 | some o => exact (Array.getElem?_eq_some_iff.1 ho).1
theorem weights_all {H : Type} {P : Program} {e : TypeId} : ∀ {ds : List (DataW H)} {d : DataW H} {m : Nat}, d ∈ ds → m ∈ d.weights P e → m ∈ DataW.weightsAll P e ds
 | d0 :: ds, d, m, hd, hm => by
  simp only [DataW.weightsAll, List.mem_append]
  rcases List.mem_cons.1 hd with rfl | hd
  ·exact .inl hm
  ·exact .inr (weights_all hd hm)
 | [], _, _, hd, _ => by simp at hd
theorem okWide_strctT {P : Program} {r : Reach} {b0 : Nat} {t : TypeId} {v : Value} {fs : Array Field} (ht : P.underlying t = some (.struct fs)) (h : Value.okWide P w r b0 t v) : ∃ cs, v = .agg cs ∧ cs.size = P.cellsOf t := by
 simp only [Value.okWide, ht] at h
 obtain ⟨cs, h1, h2, _⟩ := h
 exact ⟨cs, h1, h2⟩
end
end Go.Proofs.YtlhbgfhmcjaabaaGreatDoor
/- quarryref00.SameTexts and SameValue: whether two lists of texts, two values, are the same. -/
namespace Go.Proofs.YtlhbgfhmcjaabaaGreatDoor
open Go.RowKit Go.Shelf
theorem text_beq (a b : ByteArray) : (a.toList != b.toList) = !decide (a = b) := by
 by_cases h : a = b
 ·subst h; simp
 ·rw [decide_eq_false h]
  have : (a.toList == b.toList) = false := by
   rw [beq_eq_false_iff_ne]
   intro e
   apply h
   apply ByteArray.ext
   have h2 : a.data.toList = b.data.toList := by rw [← Lib.toList_data, ← Lib.toList_data, e]
   exact Array.toList_inj.1 h2
  simp [bne, this]
theorem kid_size {k : Int} {b : Bool} {r t : ByteArray} {ks : List ByteArray} {vs : List Vt} {i : Nat} {u : Vt} (h : vs[i]? = some u) : SizeOf.sizeOf u < SizeOf.sizeOf (Vt.mk k b r t ks vs) := by
 have h1 := List.sizeOf_lt_of_mem (List.mem_of_getElem? h)
 simp only [Vt.mk.sizeOf_spec]
 omega
/-- A value's own cells. -/
theorem ValAt.cells {w : World} {u : Vt} {x : Array Value} (h : ValAt w u (.agg x)) : ∃ ko kc vo vc, x = #[.int .i64 u.kind, .bool u.b, .string u.raw, .string u.text, .slice ko u.keys.length kc, .slice vo u.kids.length vc] := by
 cases h with
 | mk k b r t ks vs ko kc vo vc X hw hz hk hr hv => exact ⟨ko, kc, vo, vc, rfl⟩
end Go.Proofs.YtlhbgfhmcjaabaaGreatDoor
/- quarryref00.SameValue: whether two values are the same. -/
namespace Go.Proofs.YtlhbgfhmcjaabaaGreatDoor
open Go.RowKit Go.Shelf
theorem sizeVl : (Tryz.prog.info? 25).map (·.size) = some 6 := by kernel_rfl
theorem row_range {w : World} {vo : Option Addr} {n : Nat} {X : Nat → Array Value} (h : RowAt w vo n X) {i : Nat} (hi : i < n) : ∃ b off, vo = some ⟨b, off, none⟩ ∧ b < w.heap.size ∧ w.rangeAt b (off + i * 6) (X i).toList ∧ (X i).toList.length = 6 := by
 obtain ⟨h0, b, off, h1, h2, h3⟩ := h i hi
 refine ⟨b, off, h1, h2, fun j v hv => ?_, by rw [Array.length_toList]; exact h0⟩
 have hj : j < 6 := by
  have := (List.getElem?_eq_some_iff.1 hv).1
  rw [Array.length_toList, h0] at this
  exact this
 rw [h3 j hj]
 simpa using hv
end Go.Proofs.YtlhbgfhmcjaabaaGreatDoor
