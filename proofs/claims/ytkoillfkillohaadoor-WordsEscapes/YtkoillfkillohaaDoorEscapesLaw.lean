/-
  What quarryref03.Escaped answers, and the walk of quarrylaw03.WordsEscapes.
-/
import Derived.Test.YtkoillfkillohaaDoorEscapedWalk
import Derived.Test.YtkoillfkillohaaDoorHasWalk
namespace Go.Proofs.YtkoillfkillohaaDoor
open Go.RowKit Go.Shelf

set_option maxRecDepth 10000 in
theorem refEscaped_calls (x S : Nat) (c C : Bool) (hx : x < 18446744073709551616) (hS : Hid (escW x c = S ∧ escC x c 64 = C)) (w : World) :
    Calls Tryd.prog 12 #[.int .u64 (x : Int), .bool c] w fun e w' => e = .returned (.tuple #[.int .u64 (S : Int), .bool C]) ∧ w' = w := by
  go_enter Tryd.func12, Tryd.ntmps12
  go_wp2
  go_loop [1, 6, 7] (fun d o i => ∃ n X : Nat, ∃ b : Bool, Hid (n ≤ 64 ∧ X = sumBits (escC x c) n ∧ b = escC x c n) ∧ o = .int .u64 (X : Int) ∧ d = .bool b ∧ i = .int .i64 (n : Int)) (fun _ _ i => 64 - (intOf i).toNat)
  case atStart => exact ⟨0, 0, c, ⟨by decide, rfl, rfl⟩, rfl, rfl, rfl⟩
  case round =>
    obtain ⟨n, X, b, hk, rfl, rfl, rfl⟩ := hrel
    have hX : X < 2 ^ n := by rw [hk.out.2.1]; exact sumBits_lt _ _
    by_cases hlt : n < 64
    · obtain ⟨e1, e2, e3⟩ := put_bit hX hlt
      have hnext : escC x c (n + 1) = (x.testBit n && !b) := by rw [escC_succ, hk.out.2.2]
      cases b
      · go_wp2_with fail
        refine (has_calls x n hx hlt _).mono ?_
        rintro e w' ⟨rfl, rfl⟩
        cases hb : x.testBit n <;> go_wp2
        all_goals go_round
        all_goals first
          | (simp [intOf]; omega; done)
          | exact ⟨n + 1, X, _, ⟨hlt, next_f hk.out.2.1 hk.out.2.2.symm, (hnext.trans (by rw [hb]; rfl)).symm⟩, rfl, rfl, by simp⟩
      · go_wp2_with fail
        refine (has_calls x n hx hlt _).mono ?_
        rintro e w' ⟨rfl, rfl⟩
        cases hb : x.testBit n <;> go_wp2
        all_goals go_round
        all_goals first
          | (simp [intOf]; omega; done)
          | exact ⟨n + 1, X + 2 ^ n, _, ⟨hlt, next_t hk.out.2.1 hk.out.2.2.symm, (hnext.trans (by rw [hb]; rfl)).symm⟩, by simp, rfl, by simp⟩
    · have hn : n = 64 := by have := hk.out.1; omega
      subst hn
      have hXS : X = S := hk.out.2.1.trans hS.out.1
      have hdC : b = C := hk.out.2.2.trans hS.out.2
      subst hXS hdC
      go_wp2
      go_ret2
      exact ⟨rfl, rfl⟩

theorem esc_one : escW 1 false = 2 ∧ escC 1 false 64 = false := by decide +kernel

set_option maxRecDepth 10000 in
theorem escapes_nat (x S : Nat) (c C : Bool) (hx : x < 18446744073709551616) (hS : Hid (escW x c = S ∧ escC x c 64 = C)) (w : World) (hT : Tab w) (h0 : 0 < w.heap.size) :
    Calls Tryd.prog 4 #[.int .u64 (x : Int), .bool c] w fun e w' => e = .returned (.bool true) ∧ Below w.heap.size w w' := by
  go_enter Tryd.func4, Tryd.ntmps4
  go_wp2_with fail
  refine (escaped_calls x S c C hx hS _ hT h0).mono ?_
  rintro e w1 ⟨rfl, hb1⟩
  have hT1 := hT.below hb1 h0
  have h1 : 0 < w1.heap.size := Nat.lt_of_lt_of_le h0 hb1.size
  go_wp2_with fail
  refine (refEscaped_calls x S c C hx hS _).mono ?_
  rintro e w2 ⟨rfl, rfl⟩
  go_wp2_with fail
  refine (escaped_calls 1 2 false false (by decide) esc_one _ hT1 h1).mono ?_
  rintro e w3 ⟨rfl, hb3⟩
  have hb := hb1.trans (hb3.mono hb1.size)
  go_wp2
  go_ret
  exact ⟨rfl, hb⟩

theorem wordsEscapes_walk (x : Int) (hx : (Lit.int .u64 x).wf = true) (c : Bool) (w : World) (hT : Tab w) (h0 : 0 < w.heap.size) :
    Calls Tryd.prog 4 #[.int .u64 x, .bool c] w fun e w' => e = .returned (.bool true) ∧ Below w.heap.size w w' := by
  obtain ⟨c0, c1⟩ := wf_u64 hx
  obtain ⟨X, rfl⟩ := Int.eq_ofNat_of_zero_le c0
  exact escapes_nat X _ c _ (by omega) ⟨rfl, rfl⟩ w hT h0
end Go.Proofs.YtkoillfkillohaaDoor
