/-
  The law LanesAdds as a call: true, and nothing old has turned.
-/
import Derived.Test.YtnilalgoehphaabAwake
namespace Go.Proofs.Ytnilalgoehphaab
open Go.RowKit

theorem isB_fill (c : Nat) (hc : c < 256) : mask8 (isB c) (fillOf c) = 255 := by
  rw [← mask8_all (fillOf c)]
  exact mask8_congr _ _ _ _ fun i hi => by rw [byteOf_fill c i hc hi]; simp [isB]

set_option maxRecDepth 100000 in
set_option maxHeartbeats 1000000 in
theorem adds_nat (W C S F : Nat) (w : World) (hW : W < 18446744073709551616) (hC : C < 256) (hF : F < 18446744073709551616) (HS : Hid (sumTo W 8 = S)) (HF : Hid (fillOf C = F)) (HFS : Hid (sumTo F 8 = 8 * C)) (HFM : Hid (mask8 (isB C) F = 255)) :
    Calls Try.prog 4 #[.int .u64 W, .int .u8 C] w fun e w' => e = .returned (.bool true) ∧ Below w.heap.size w w' := by
  go_enter Try.func4, Try.ntmps4
  go_wp2_with fail
  refine (awake_calls _).mono ?_
  rintro e w1 ⟨rfl, hb1⟩
  go_wp2_with fail
  refine (store_calls _ _ (by omega) (by omega)).mono ?_
  rintro e w2 ⟨rfl, hb2⟩
  rw [Int.toNat_natCast, ← byteArr_full, rowTo_full]
  go_wp2_with fail
  rw [← rowTo_full, byteArr_full]
  have b2 := hb1.trans (hb2.mono hb1.size)
  go_loop [6, 7] (fun n i => ∃ k : Nat, k ≤ 8 ∧ i = .int .i64 k ∧ n = .int .i64 ((sumTo W k : Nat) : Int)) (fun _ i => 8 - (intOf i).toNat)
  case atStart => exact ⟨0, by omega, rfl, rfl⟩
  case round =>
    obtain ⟨k, hk, rfl, rfl⟩ := hrel
    have hs := sumTo_le W k
    have hb := byteOf_lt W k
    by_cases hlt : k < 8
    · have hk8 : (k : Int) < 8 := by omega
      have hc := byteArr_at (byteOf W) k hlt
      go_wp2
      go_round
      case rel => exact ⟨k + 1, by omega, by go_num, by rw [sumTo_succ]; go_num⟩
      case measure => simp [intOf]; omega
    · have hk' : k = 8 := by omega
      subst hk'
      rw [HS.out] at hs ⊢
      go_wp2_with fail
      refine (sum_nat W S _ (by omega) HS).mono ?_
      rintro e w3 ⟨rfl, hb3⟩
      go_wp2_with fail
      refine (fill_calls _ _ (by omega) (by omega)).mono ?_
      rintro e w4 ⟨rfl, hb4⟩
      rw [Int.toNat_natCast, HF.out]
      go_wp2_with fail
      refine (sum_nat F _ _ (by omega) HFS).mono ?_
      rintro e w5 ⟨rfl, hb5⟩
      go_wp2_with fail
      refine (fill_calls _ _ (by omega) (by omega)).mono ?_
      rintro e w6 ⟨rfl, hb6⟩
      rw [Int.toNat_natCast, HF.out]
      go_wp2_with fail
      refine (equal_calls _ _ _ (by omega) (by omega) (by omega)).mono ?_
      rintro e w7 ⟨rfl, hb7⟩
      rw [Int.toNat_natCast, Int.toNat_natCast, HFM.out]
      go_wp2
      go_ret
      have b3 := (b2.alloc b2.size (.cells (byteArr (byteOf W)) 31)).trans (hb3.mono (by simp; have := b2.size; omega))
      have b4 := b3.trans (hb4.mono b3.size)
      have b5 := b4.trans (hb5.mono b4.size)
      have b6 := b5.trans (hb6.mono b5.size)
      exact ⟨rfl, b6.trans (hb7.mono b6.size)⟩

theorem lanesAdds_walk (a : Int) (ha : (Lit.int .u64 a).wf = true) (c : Int) (hc : (Lit.int .u8 c).wf = true) (w : World) :
    Calls Try.prog 4 #[.int .u64 a, .int .u8 c] w fun e w' => e = .returned (.bool true) ∧ Below w.heap.size w w' := by
  obtain ⟨a0, a1⟩ := wf_u64 ha
  obtain ⟨c0, c1⟩ := wf_u8 hc
  obtain ⟨A, rfl⟩ := Int.eq_ofNat_of_zero_le a0
  obtain ⟨C, rfl⟩ := Int.eq_ofNat_of_zero_le c0
  exact adds_nat A C _ (fillOf C) w (by omega) (by omega) (fillOf_lt C (by omega)) rfl rfl (sum_fill C 8 (by omega) (by omega)) (isB_fill C (by omega))
end Go.Proofs.Ytnilalgoehphaab
