/-
 What the reference's Make answers.
-/
import Derived.Test.YtlmjiocdhobopaaGreatDoorRefRead
namespace Go.Proofs.YtlmjiocdhobopaaGreatDoor
open Go.RowKit Go.Shelf
theorem lk_get {t : ByteArray} {j : Nat} {b : UInt8} (h : t.data.toList[j]? = some b) : lk t j = b.toNat ∧ j < t.size := by
 obtain ⟨h1, h2⟩ := List.getElem?_eq_some_iff.1 h
 have h3 : j < t.size := by rw [size_list] at h1; exact h1
 refine ⟨?_, h3⟩
 rw [lk_at t j h3, ← h2, Array.getElem_toList]
 rfl
theorem byte_eq {b : UInt8} (h : b.toNat = 48) : b = 48 := UInt8.toNat_inj.1 h
theorem lead_drop {t : ByteArray} {k : Nat} (hk : k ≤ t.size) (h1 : ∀ j, j < k → lk t j = 48) (h2 : k = t.size ∨ lk t k ≠ 48) : Lib.trimLeftB t.data.toList 48 = t.data.toList.drop k := by
 refine Lib.trimLeftB_drop _ _ k (by rw [size_list]; exact hk) (fun j b hj hb => ?_) (fun b hb => ?_)
 ·exact byte_eq (by rw [← (lk_get hb).1]; exact h1 j hj)
 ·obtain ⟨h3, h4⟩ := lk_get hb
  rcases h2 with h2 | h2
  ·omega
  ·intro e
   rw [e] at h3
   exact h2 h3
theorem trail_take {t : ByteArray} {k m : Nat} (hk : k ≤ m) (hm : m ≤ t.size) (h1 : ∀ j, m ≤ j → j < t.size → lk t j = 48) (h2 : m = k ∨ lk t (m - 1) ≠ 48) : Lib.trimRightB (t.data.toList.drop k) 48 = (t.data.toList.drop k).take (m - k) := by
 refine Lib.trimRightB_take _ _ (m - k) (by rw [List.length_drop, size_list]; omega) (fun j b hj hb => ?_) (fun b h0 hb => ?_)
 ·rw [List.getElem?_drop] at hb
  obtain ⟨h3, h4⟩ := lk_get hb
  exact byte_eq (by rw [← h3]; exact h1 _ (by omega) h4)
 ·rw [List.getElem?_drop] at hb
  obtain ⟨h3, h4⟩ := lk_get hb
  rcases h2 with h2 | h2
  ·omega
  ·intro e
   rw [e, show k + (m - k - 1) = m - 1 by omega] at h3
   exact h2 h3
/-- What Make answers. -/
def mkV (n : Bool) (t : ByteArray) (X : Int) : Value :=
 if Lib.trimLeftB t.data.toList 48 = [] then .tuple #[decV ⟨n, [], 0⟩, .bool true]
 else if inB (X + (((Lib.trimLeftB t.data.toList 48).length - (Lib.trimRightB (Lib.trimLeftB t.data.toList 48) 48).length : Nat) : Int)) then
  .tuple #[decV ⟨n, Lib.trimRightB (Lib.trimLeftB t.data.toList 48) 48, X + (((Lib.trimLeftB t.data.toList 48).length - (Lib.trimRightB (Lib.trimLeftB t.data.toList 48) 48).length : Nat) : Int)⟩, .bool true]
 else .tuple #[decV zeroD, .bool false]
set_option maxRecDepth 10000 in
set_option maxHeartbeats 4000000 in
theorem makeD_calls (n : Bool) (t : ByteArray) (hs : t.size ≤ 1125899906842624) (X : Int) (hX0 : -4611686018427387904 ≤ X) (hX1 : X ≤ 4611686018427387903) (w : World) :
  Calls Tryz.prog 73 #[.bool n, .string t, .int .i64 X] w fun e w' => e = .returned (mkV n t X) ∧ Below w.heap.size w w' := by
 have D0 := hid (show OwnD w w.heap.size false ⟨#[]⟩ 0 (w.alloc (.cells #[.bool false, .string ⟨#[]⟩, .int .i64 0] 49)) from ⟨Nat.le_refl _, At.new w _ _, by repeat (first | with_reducible exact Below.refl _ _ | with_reducible refine Below.setCell ?_ (by first | (simp; done) | (simp; omega)) _ | with_reducible refine below_drewN ?_ _ | with_reducible refine Below.alloc ?_ (by first | (simp; done) | (simp; omega)) _ | with_reducible refine Below.drew ?_)⟩)
 go_enter Tryz.func73, Tryz.ntmps73
 go_wp2
 generalize w.alloc (.cells #[.bool false, .string ⟨#[]⟩, .int .i64 0] 49) = W0 at D0 ⊢
 go_loop [8] (fun ii => ∃ i : Nat, i ≤ t.size ∧ ii = .int .i64 (i : Int) ∧ Hid (∀ j, j < i → lk t j = 48)) (fun ii => t.size - (intOf ii).toNat)
 case atStart => exact ⟨0, Nat.zero_le _, rfl, fun j h => by omega⟩
 case round =>
  obtain ⟨k, hk, rfl, hl⟩ := hrel
  by_cases hgo : k < t.size ∧ lk t k = 48
  ·obtain ⟨hkl, h48⟩ := hgo
   have e1 : decide ((k : Int) < (t.size : Int)) = true := by simp; omega
   have hkI : (k : Int) < (t.size : Int) := by omega
   have hy : t[k].toNat = 48 := by rw [← lk_at t k hkl]; exact h48
   have h48' := hid h48
   clear h48
   go_wp2
   go_round
   case rel => exact ⟨k + 1, by omega, by simp, fun j hj => by
          by_cases hjk : j = k
          ·rw [hjk, h48'.out]
          ·exact hl.out j (by omega)⟩
   case measure => simp [intOf]; omega
  ·have hend := hid (show k = t.size ∨ lk t k ≠ 48 by
    rcases Nat.lt_or_ge k t.size with h | h
    ·exact .inr fun e => hgo ⟨h, e⟩
    ·exact .inl (by omega))
   have hTL := hid (lead_drop hk hl.out hend.out)
   have stop : (k < t.size ∧ ∃ y, (∃ h : k < t.size, (t[k]'h).toNat = y) ∧ ((y : Int) == 48) = false) ∨ decide ((k : Int) < (t.size : Int)) = false := by
    rcases Nat.lt_or_ge k t.size with h | h
    ·left
     refine ⟨h, _, ⟨h, rfl⟩, ?_⟩
     rw [← lk_at t k h]
     exact beq_eq_false_iff_ne.2 (fun e => hgo ⟨h, by omega⟩)
    ·right; simp; omega
   have two : Hid (k ≤ t.size) := hk
   clear hgo
   rcases stop with ⟨hkl, y, ⟨hh, hy⟩, e2⟩ | e1
   ·have e1 : decide ((k : Int) < (t.size : Int)) = true := by simp; omega
    have hkI : (k : Int) < (t.size : Int) := by omega
    have hyk := hid (show lk t k ≠ 48 by
     rw [lk_at t k hkl, hy]
     intro e
     have := beq_eq_false_iff_ne.1 e2
     omega)
    go_wp2
    go_loop [2, 9] (fun xx tt => ∃ (m : Nat) (Z : Int), k < m ∧ m ≤ t.size ∧ tt = .int .i64 (m : Int) ∧ xx = .int .i64 Z ∧ Hid (Z = X + (t.size : Int) - (m : Int)) ∧ Hid (∀ j, m ≤ j → j < t.size → lk t j = 48)) (fun _ tt => (intOf tt).toNat)
    case atStart => exact ⟨t.size, X, hkl, Nat.le_refl _, rfl, rfl, by show _ = _; omega, fun j h1 h2 => by omega⟩
    case round =>
     obtain ⟨m, Z, hkm, hm, rfl, rfl, hZ, hr⟩ := hrel
     have g1 : decide ((k : Int) < (m : Int)) = true := by simp; omega
     obtain ⟨j, hj⟩ : ∃ j, m = j + 1 := ⟨m - 1, by omega⟩
     subst hj
     have ej : ((j + 1 : Nat) : Int) - 1 = (j : Int) := by omega
     have hjl : j < t.size := by omega
     have hjI : (j : Int) < (t.size : Int) := by omega
     have zb0 : -4611686018427387904 ≤ Z := by rw [hZ.out]; omega
     have zb1 : Z ≤ 4612811918334230527 := by rw [hZ.out]; omega
     obtain ⟨y2, hy2⟩ : ∃ y, t[j].toNat = y := ⟨_, rfl⟩
     have hlj := hid (show lk t j = y2 by rw [lk_at t j hjl, hy2])
     by_cases h48 : y2 = 48
     ·have g2 : ((y2 : Int) == 48) = true := by simp [h48]
      have hkj : k < j := by
       rcases Nat.lt_or_ge k j with h | h
       ·exact h
       ·have h3 : k = j := by omega
        exact absurd (by rw [h3, hlj.out, h48]) hyk.out
      have h48' := hid h48
      clear h48
      go_wp2
      go_round
      case rel => exact ⟨j, Z + 1, hkj, by omega, by first | rfl | (simp; done) | (simp; omega), by first | rfl | (simp; done) | (simp; omega), by show _ = _; rw [hZ.out]; omega, fun i h1 h2 => by
             by_cases hi : i = j
             ·rw [hi, hlj.out, h48'.out]
             ·exact hr.out i (by omega) h2⟩
      case measure => simp [intOf]
     ·have g2 : ((y2 : Int) == 48) = false := beq_eq_false_iff_ne.2 (by omega)
      have hTR := hid (trail_take (t := t) (k := k) (m := j + 1) (by omega) hm hr.out (.inr (by rw [Nat.add_sub_cancel, hlj.out]; exact h48)))
      have hne : ¬ t.data.toList.drop k = [] := fun e => by
       have := congrArg List.length e
       rw [List.length_drop, size_list, List.length_nil] at this
       omega
      have hlen : ((t.data.toList.drop k).length - ((t.data.toList.drop k).take (j + 1 - k)).length : Nat) = t.size - (j + 1) := by
       rw [List.length_take, List.length_drop, size_list]; omega
      have hZe : X + ((t.size - (j + 1) : Nat) : Int) = Z := by rw [hZ.out]; omega
      have hmk := hid (show mkV n t X = if inB Z then .tuple #[.agg #[.bool n, .string (t.extract k (j + 1)), .int .i64 Z], .bool true] else .tuple #[.agg #[.bool false, .string ⟨#[]⟩, .int .i64 0], .bool false] by
       rw [mkV, hTL.out, if_neg hne, hTR.out, hlen, hZe]
       have hex : t.extract k (j + 1) = ⟨((t.data.toList.drop k).take (j + 1 - k)).toArray⟩ := by rw [Lib.extract_eq]
       rw [hex]
       rfl)
      have g3 : ((k : Int) == (j : Int) + 1) = false := beq_eq_false_iff_ne.2 (by omega)
      have g3' : ((k : Int) == ((j + 1 : Nat) : Int)) = false := beq_eq_false_iff_ne.2 (by omega)
      have hkj1 : k ≤ j + 1 := by omega
      obtain ⟨⟨d0, d1, d2⟩, f0, f1, f2⟩ := D0.out.facts
      clear hne hlen hZe hTR hTL hZ h48
      by_cases hz1 : 1073741824 < Z
      ·have hv := hid (show mkV n t X = .tuple #[.agg #[.bool false, .string ⟨#[]⟩, .int .i64 0], .bool false] by rw [hmk.out, if_neg (by unfold inB; simp; omega)])
       clear hmk
       go_wp2
       refine ret_dec rfl rfl (D0.out.put _ _ _).2.1 rfl ⟨?_, (D0.out.put _ _ _).2.2⟩
       rw [hv.out]
       rfl
      ·by_cases hz2 : Z < -1073741824
       ·have hv := hid (show mkV n t X = .tuple #[.agg #[.bool false, .string ⟨#[]⟩, .int .i64 0], .bool false] by rw [hmk.out, if_neg (by unfold inB; simp; omega)])
        clear hmk
        go_wp2
        refine ret_dec rfl rfl (D0.out.put _ _ _).2.1 rfl ⟨?_, (D0.out.put _ _ _).2.2⟩
        rw [hv.out]
        rfl
       ·have hv := hid (show mkV n t X = .tuple #[.agg #[.bool n, .string (t.extract k (j + 1)), .int .i64 Z], .bool true] by rw [hmk.out, if_pos (by unfold inB; simp; omega)])
        clear hmk
        go_wp2
        refine ret_dec rfl rfl (D0.out.put _ _ _).2.1 rfl ⟨?_, (D0.out.put _ _ _).2.2⟩
        rw [hv.out]
        rfl
   ·have hk2 : k = t.size := by have h1 := of_decide_eq_false e1; omega
    have hv := hid (show mkV n t X = .tuple #[.agg #[.bool n, .string ⟨#[]⟩, .int .i64 0], .bool true] by
     rw [mkV, hTL.out, if_pos (List.drop_eq_nil_of_le (by rw [size_list]; omega))]; rfl)
    subst hk2
    clear hTL hend hl two
    go_wp2
    go_loop [2, 9] (fun xx tt => xx = .int .i64 X ∧ tt = .int .i64 (t.size : Int)) (fun _ _ => 0)
    case atStart => exact ⟨rfl, rfl⟩
    case round =>
     obtain ⟨rfl, rfl⟩ := hrel
     obtain ⟨⟨d0, d1, d2⟩, f0, f1, f2⟩ := D0.out.facts
     go_wp2
     refine ret_dec rfl rfl (D0.out.put _ _ _).2.1 rfl ⟨?_, (D0.out.put _ _ _).2.2⟩
     rw [hv.out]
     rfl
end Go.Proofs.YtlmjiocdhobopaaGreatDoor
