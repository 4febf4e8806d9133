/-
  The law LanesSums as a call: true, and nothing old has turned.
-/
import Derived.Test.YtnilalgoehphaaaLanesSum
import Derived.Test.YtnilalgoehphaaaKit
namespace Go.Proofs.Ytnilalgoehphaaa
open Go.RowKit

theorem sumTo_513 : sumTo 513 8 = 3 := by decide +kernel

set_option maxRecDepth 100000 in
set_option maxHeartbeats 400000 in
theorem lanesSums_walk (a : Int) (h : (Lit.int .u64 a).wf = true) (w : World) :
    Calls Try.prog 7 #[.int .u64 a] w fun e w' => e = .returned (.bool true) ∧ Below w.heap.size w w' := by
  obtain ⟨h0, h1⟩ := wf_u64 h
  obtain ⟨W, rfl⟩ := Int.eq_ofNat_of_zero_le h0
  obtain ⟨S, hS⟩ : ∃ S, sumTo W 8 = S := ⟨_, rfl⟩
  have HS : Hid (sumTo W 8 = S) := hS
  clear hS
  have H3 : Hid (sumTo 513 8 = 3) := sumTo_513
  go_enter Try.func7, Try.ntmps7
  go_wp2_with fail
  refine (sum_nat W S _ (by omega) HS).mono ?_
  rintro e w1 ⟨rfl, hb1⟩
  go_wp2_with fail
  refine (refSum_nat W S _ (by omega) HS).mono ?_
  rintro e w2 ⟨rfl, rfl⟩
  go_wp2_with fail
  refine (sum_nat 513 3 _ (by omega) H3).mono ?_
  rintro e w3 ⟨rfl, hb3⟩
  go_wp2
  go_ret
  exact ⟨rfl, hb1.trans (hb3.mono hb1.size)⟩
end Go.Proofs.Ytnilalgoehphaaa
