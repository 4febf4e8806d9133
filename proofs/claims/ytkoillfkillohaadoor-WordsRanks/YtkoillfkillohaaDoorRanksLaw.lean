/-
  The walk of quarrylaw03.WordsRanks.
-/
import Derived.Test.YtkoillfkillohaaDoorListKit
namespace Go.Proofs.YtkoillfkillohaaDoor
open Go.RowKit Go.Shelf

set_option maxRecDepth 10000 in
theorem ranks_nat (x R : Nat) (k S : Int) (hx : x < 18446744073709551616) (hR : Hid (rankW x k = R)) (hS : Hid (selW x k = S)) (w : World) (hT : Tab w) (h0 : 0 < w.heap.size) :
    Calls Tryd.prog 3 #[.int .u64 (x : Int), .int .i64 k] w fun e w' => e = .returned (.bool true) ∧ Below w.heap.size w w' := by
  go_enter Tryd.func3, Tryd.ntmps3
  go_wp2_with fail
  refine (rank_calls x R k hx hR _).mono ?_
  rintro e w1 ⟨rfl, rfl⟩
  go_wp2_with fail
  refine (refRank_calls x R k hx hR _).mono ?_
  rintro e w2 ⟨rfl, rfl⟩
  go_wp2_with fail
  refine (select_calls x k S hx hS _ hT h0).mono ?_
  rintro e w3 ⟨rfl, hb3⟩
  go_wp2_with fail
  refine (refSelect_calls x k S hx hS _).mono ?_
  rintro e w4 ⟨rfl, hb4⟩
  have hb := hb3.trans (hb4.mono hb3.size)
  go_wp2_with fail
  refine (rank_calls 1 1 1 (by decide) (by show _ = _; decide) _).mono ?_
  rintro e w5 ⟨rfl, rfl⟩
  go_wp2
  go_ret
  exact ⟨rfl, hb⟩

theorem wordsRanks_walk (x : Int) (hx : (Lit.int .u64 x).wf = true) (k : Int) (_ : (Lit.int .i64 k).wf = true) (w : World) (hT : Tab w) (h0 : 0 < w.heap.size) :
    Calls Tryd.prog 3 #[.int .u64 x, .int .i64 k] w fun e w' => e = .returned (.bool true) ∧ Below w.heap.size w w' := by
  obtain ⟨c0, c1⟩ := wf_u64 hx
  obtain ⟨X, rfl⟩ := Int.eq_ofNat_of_zero_le c0
  exact ranks_nat X _ k _ (by omega) rfl rfl w hT h0
end Go.Proofs.YtkoillfkillohaaDoor
