/-
  What quarryref03.Rank answers.
-/
import Derived.Test.YtkoillfkillohaaDoorRankWalk
import Derived.Test.YtkoillfkillohaaDoorHasWalk
namespace Go.Proofs.YtkoillfkillohaaDoor
open Go.RowKit

set_option maxRecDepth 10000 in
theorem refRank_calls (x R : Nat) (i : Int) (hx : x < 18446744073709551616) (hR : Hid (rankW x i = R)) (w : World) :
    Calls Tryd.prog 8 #[.int .u64 (x : Int), .int .i64 i] w fun e w' => e = .returned (.int .i64 (R : Int)) ∧ w' = w := by
  go_enter Tryd.func8, Tryd.ntmps8
  go_wp2
  go_loop [5, 6] (fun n k => ∃ K C : Nat, Hid (C = cnt x K) ∧ K ≤ min i.toNat 64 ∧ C ≤ K ∧ n = .int .i64 (C : Int) ∧ k = .int .i64 (K : Int)) (fun _ k => 64 - (intOf k).toNat)
  case atStart => exact ⟨0, 0, rfl, Nat.zero_le _, Nat.le_refl _, rfl, rfl⟩
  case round =>
    obtain ⟨K, C, hC, hK, hCK, rfl, rfl⟩ := hrel
    by_cases hlt : K < min i.toNat 64
    · have h1 : (K : Int) < 64 := by omega
      have h2 : (K : Int) < i := by omega
      go_wp2_with fail
      refine (has_calls x K hx (by omega) _).mono ?_
      rintro e w' ⟨rfl, rfl⟩
      cases hb : x.testBit K
      · go_wp2
        go_round
        case rel => exact ⟨K + 1, C, by show _ = _; rw [cnt_succ, hb, ← hC.out]; rfl, hlt, by omega, rfl, by simp⟩
        case measure => simp [intOf]; omega
      · go_wp2
        go_round
        case rel => exact ⟨K + 1, C + 1, by show _ = _; rw [cnt_succ, hb, ← hC.out]; rfl, hlt, by omega, by simp, by simp⟩
        case measure => simp [intOf]; omega
    · have hKe : K = min i.toNat 64 := by omega
      have hCR : C = R := by rw [hC.out, ← hR.out, rankW, hKe]
      subst hCR
      by_cases h1 : K < 64
      · have h2 : ¬ (K : Int) < i := by omega
        have h3 : (K : Int) < 64 := by omega
        clear hKe hlt hK
        go_wp2
        go_ret
        exact ⟨rfl, rfl⟩
      · have h3 : ¬ (K : Int) < 64 := by omega
        clear hKe hlt hK
        go_wp2
        go_ret
        exact ⟨rfl, rfl⟩
end Go.Proofs.YtkoillfkillohaaDoor
