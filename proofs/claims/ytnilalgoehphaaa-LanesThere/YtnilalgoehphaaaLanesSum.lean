/-
  What lanes.Sum answers: the eight bytes of a word added up.
-/
import Derived.Test.YtnilalgoehphaaaLanesStore
namespace Go.Proofs.Ytnilalgoehphaaa
open Go.RowKit

theorem sumTo_succ (W n : Nat) : sumTo W (n + 1) = sumTo W n + byteOf W n := rfl

set_option maxRecDepth 100000 in
set_option maxHeartbeats 400000 in
theorem sum_nat (W S : Nat) (w : World) (hW : W < 18446744073709551616) (HS : Hid (sumTo W 8 = S)) :
    Calls Try.prog 25 #[.int .u64 W] w fun e w' => e = .returned (.int .i64 (S : Int)) ∧ Below w.heap.size w w' := by
  go_enter Try.func25, Try.ntmps25
  go_wp2_with (go_at_call 11; refine (store_calls _ _ (by omega) (by omega)).mono ?_; rintro e w1 ⟨rfl, hb1⟩; rw [← byteArr_full, rowTo_full])
  rw [← rowTo_full, byteArr_full]
  go_loop [4, 9] (fun n i => ∃ k : Nat, k ≤ 8 ∧ i = .int .i64 k ∧ n = .int .i64 ((sumTo W k : Nat) : Int)) (fun _ i => 8 - (intOf i).toNat)
  case atStart => exact ⟨0, by omega, rfl, rfl⟩
  case round =>
    obtain ⟨k, hk, rfl, rfl⟩ := hrel
    have hs := sumTo_le W k
    have hb := byteOf_lt W k
    by_cases hlt : k < 8
    · have hc := byteArr_at (byteOf W) k hlt
      go_wp2
      go_round
      case rel => exact ⟨k + 1, by omega, by go_num, by rw [sumTo_succ]; go_num⟩
      case measure => simp [intOf]; omega
    · go_wp2
      go_ret
      have hk' : k = 8 := by omega
      subst hk'
      exact ⟨by rw [HS.out]; rfl, hb1.alloc hb1.size _⟩

theorem sum_calls (x : Int) (w : World) (hx : 0 ≤ x) (hx' : x < 18446744073709551616) :
    Calls Try.prog 25 #[.int .u64 x] w fun e w' => e = .returned (.int .i64 ((sumTo x.toNat 8 : Nat) : Int)) ∧ Below w.heap.size w w' := by
  obtain ⟨W, rfl⟩ := Int.eq_ofNat_of_zero_le hx
  exact sum_nat W _ w (by omega) rfl
end Go.Proofs.Ytnilalgoehphaaa
