/-
  The laws LanesEquals, LanesBetween and LanesLess as calls: true, and nothing old has turned.
-/
import Derived.Test.YtnilalgoehphaaaLanesRef
namespace Go.Proofs.Ytnilalgoehphaaa
open Go.RowKit

set_option maxRecDepth 100000 in
set_option maxHeartbeats 400000 in
theorem equals_nat (W C M N : Nat) (w : World) (hW : W < 18446744073709551616) (hC : C < 256) (HM : Hid (mask8 (isB C) W = M)) (HN : Hid (mask8 (belowB C) W = N)) :
    Calls Try.prog 4 #[.int .u64 W, .int .u8 C] w fun e w' => e = .returned (.bool true) ∧ Below w.heap.size w w' := by
  go_enter Try.func4, Try.ntmps4
  go_wp2_with fail
  refine (equal_calls _ _ _ (by omega) (by omega) (by omega)).mono ?_
  rintro e w1 ⟨rfl, hb1⟩
  rw [Int.toNat_natCast, Int.toNat_natCast, HM.out]
  go_wp2_with fail
  refine (refEqual_nat W M C _ hW hC HM).mono ?_
  rintro e w2 ⟨rfl, hb2⟩
  go_wp2_with fail
  refine (below_calls _ _ _ (by omega) (by omega) (by omega)).mono ?_
  rintro e w3 ⟨rfl, hb3⟩
  rw [Int.toNat_natCast, Int.toNat_natCast, HN.out]
  go_wp2_with fail
  refine (refBelow_nat W N C _ hW hC HN).mono ?_
  rintro e w4 ⟨rfl, hb4⟩
  go_wp2
  go_ret
  have b2 := hb1.trans (hb2.mono hb1.size)
  have b3 := b2.trans (hb3.mono b2.size)
  exact ⟨rfl, b3.trans (hb4.mono b3.size)⟩

theorem lanesEquals_walk (a : Int) (ha : (Lit.int .u64 a).wf = true) (c : Int) (hc : (Lit.int .u8 c).wf = true) (w : World) :
    Calls Try.prog 4 #[.int .u64 a, .int .u8 c] w fun e w' => e = .returned (.bool true) ∧ Below w.heap.size w w' := by
  obtain ⟨a0, a1⟩ := wf_u64 ha
  obtain ⟨c0, c1⟩ := wf_u8 hc
  obtain ⟨A, rfl⟩ := Int.eq_ofNat_of_zero_le a0
  obtain ⟨C, rfl⟩ := Int.eq_ofNat_of_zero_le c0
  exact equals_nat A C _ _ w (by omega) (by omega) rfl rfl

set_option maxRecDepth 100000 in
set_option maxHeartbeats 400000 in
theorem betweens_nat (W L H M : Nat) (w : World) (hW : W < 18446744073709551616) (hL : L < 256) (hH : H < 256) (HM : Hid (mask8 (betweenB L H) W = M)) :
    Calls Try.prog 5 #[.int .u64 W, .int .u8 L, .int .u8 H] w fun e w' => e = .returned (.bool true) ∧ Below w.heap.size w w' := by
  go_enter Try.func5, Try.ntmps5
  go_wp2_with fail
  refine (between_calls _ _ _ _ (by omega) (by omega) (by omega) (by omega)).mono ?_
  rintro e w1 ⟨rfl, hb1⟩
  rw [Int.toNat_natCast, Int.toNat_natCast, Int.toNat_natCast, HM.out]
  go_wp2_with fail
  refine (refBetween_nat W M L H _ hW hL hH HM).mono ?_
  rintro e w2 ⟨rfl, hb2⟩
  go_wp2
  go_ret
  exact ⟨rfl, hb1.trans (hb2.mono hb1.size)⟩

theorem lanesBetween_walk (a : Int) (ha : (Lit.int .u64 a).wf = true) (l : Int) (hl : (Lit.int .u8 l).wf = true) (h : Int) (hh : (Lit.int .u8 h).wf = true) (w : World) :
    Calls Try.prog 5 #[.int .u64 a, .int .u8 l, .int .u8 h] w fun e w' => e = .returned (.bool true) ∧ Below w.heap.size w w' := by
  obtain ⟨a0, a1⟩ := wf_u64 ha
  obtain ⟨l0, l1⟩ := wf_u8 hl
  obtain ⟨h0, h1⟩ := wf_u8 hh
  obtain ⟨A, rfl⟩ := Int.eq_ofNat_of_zero_le a0
  obtain ⟨L, rfl⟩ := Int.eq_ofNat_of_zero_le l0
  obtain ⟨H, rfl⟩ := Int.eq_ofNat_of_zero_le h0
  exact betweens_nat A L H _ w (by omega) (by omega) (by omega) rfl

set_option maxRecDepth 100000 in
set_option maxHeartbeats 400000 in
theorem lesses_nat (W : Nat) (C : Int) (M N : Nat) (w : World) (hW : W < 18446744073709551616) (hC : -128 ≤ C) (hC' : C < 128) (HM : Hid (mask8 (lessB C) W = M)) (HN : Hid (mask8 (lessB 0) W = N)) :
    Calls Try.prog 6 #[.int .u64 W, .int .i8 C] w fun e w' => e = .returned (.bool true) ∧ Below w.heap.size w w' := by
  go_enter Try.func6, Try.ntmps6
  go_wp2_with fail
  refine (less_calls _ _ _ (by omega) (by omega)).mono ?_
  rintro e w1 ⟨rfl, hb1⟩
  rw [Int.toNat_natCast, HM.out]
  go_wp2_with fail
  refine (refLess_nat W M C _ hW hC hC' HM).mono ?_
  rintro e w2 ⟨rfl, hb2⟩
  go_wp2_with fail
  refine (high_calls _ _ (by omega) (by omega)).mono ?_
  rintro e w3 ⟨rfl, hb3⟩
  rw [Int.toNat_natCast, HN.out]
  go_wp2_with fail
  refine (refHigh_nat W N _ hW HN).mono ?_
  rintro e w4 ⟨rfl, hb4⟩
  go_wp2
  go_ret
  have b2 := hb1.trans (hb2.mono hb1.size)
  have b3 := b2.trans (hb3.mono b2.size)
  exact ⟨rfl, b3.trans (hb4.mono b3.size)⟩

theorem lanesLess_walk (a : Int) (ha : (Lit.int .u64 a).wf = true) (c : Int) (hc : (Lit.int .i8 c).wf = true) (w : World) :
    Calls Try.prog 6 #[.int .u64 a, .int .i8 c] w fun e w' => e = .returned (.bool true) ∧ Below w.heap.size w w' := by
  obtain ⟨a0, a1⟩ := wf_u64 ha
  obtain ⟨c0, c1⟩ := wf_i8 hc
  obtain ⟨A, rfl⟩ := Int.eq_ofNat_of_zero_le a0
  exact lesses_nat A c _ _ w (by omega) c0 c1 rfl rfl
end Go.Proofs.Ytnilalgoehphaaa
