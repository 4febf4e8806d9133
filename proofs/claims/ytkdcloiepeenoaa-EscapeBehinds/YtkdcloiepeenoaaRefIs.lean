/-
  What quarryref06.Odd, Is and Behind answer.
-/
import Derived.Test.YtkdcloiepeenoaaOddWalk
namespace Go.Proofs.Ytkdcloiepeenoaa
open Go.RowKit

set_option maxRecDepth 10000 in
set_option maxHeartbeats 1000000 in
theorem refOdd_nat (s : ByteArray) (a f : Nat) (o : Bool) (hs : s.size ≤ 9223372036854775807) (ha : a ≤ s.size) (hf : Hid (a - runE (slash s) a = f ∧ decide (runE (slash s) a % 2 = 1) = o)) (w : World) :
    Calls Try.prog 8 #[.string s, .int .i64 (a : Int)] w fun e w' => e = .returned (.tuple #[.int .i64 (f : Int), .bool o]) ∧ w' = w := by
  go_enter Try.func8, Try.ntmps8
  have e0 : decide ((a : Int) < 0) = false := by simp
  have e1 : decide ((s.size : Int) < (a : Int)) = false := by simp; omega
  go_wp2
  go_loop [6] (fun ff => ∃ i n : Nat, i + n = a ∧ ff = .int .i64 (n : Int) ∧ Hid (∀ j, i ≤ j → j < a → slash s j = true)) (fun ff => a - (intOf ff).toNat)
  case atStart => exact ⟨a, 0, by omega, rfl, fun j h1 h2 => by omega⟩
  case round =>
    obtain ⟨i, n, hi, rfl, hall⟩ := hrel
    have fin : Hid (i = 0 ∨ slash s (i - 1) = false → a - n = f ∧ ((n : Int) % 2 == 1) = o) := by
      intro h
      have hr := runE_of (q := slash s) (n := a) (k := n) (by omega) (fun j h1 h2 => hall.out j (by omega) h2) (by
        rcases h with h | h
        · exact .inl (by omega)
        · by_cases h0 : n = a
          · exact .inl h0
          · exact .inr (by rw [show a - n - 1 = i - 1 by omega]; exact h))
      obtain ⟨h1, h2⟩ := hf.out
      rw [hr] at h1 h2
      refine ⟨h1, ?_⟩
      rw [← h2, show ((n : Int) % 2) = ((n % 2 : Nat) : Int) by simp]
      rcases Nat.mod_two_eq_zero_or_one n with h | h <;> simp [h]
    clear hf
    have hfe : Hid (a - n = f → (a : Int) - (n : Int) = (f : Int)) := by intro h; omega
    by_cases h0 : i = 0
    · obtain ⟨h1, h2⟩ := fin.out (.inl h0)
      have e2 : decide ((n : Int) < (a : Int)) = false := by simp; omega
      have h3 := hfe.out h1
      have hna : ¬ n < a := by omega
      clear h1 fin hall e0 e1 hi h0 hfe
      go_wp2
      refine bodyPost_ret (results_tmp2 rfl _ _ _) rfl ?_
      exact ⟨rfl, rfl⟩
    · have hp : decide ((n : Int) < (a : Int)) = true := by simp; omega
      have hlt : i - 1 < s.size := by omega
      have hx := slash_at s (i - 1) hlt
      obtain ⟨j, rfl⟩ : ∃ j, i = j + 1 := ⟨i - 1, by omega⟩
      have ej : (a : Int) - (n : Int) - 1 = (j : Int) := by omega
      simp only [Nat.add_sub_cancel] at hlt hx
      have hjl : (j : Int) < (s.size : Int) := by omega
      obtain ⟨x, hxe⟩ : ∃ x, s[j].toNat = x := ⟨_, rfl⟩
      rw [hxe] at hx
      have hna : n < a := by omega
      have hi' := hid hi
      clear hi
      by_cases h92 : x = 92
      · subst h92
        have hall' := hall
        clear hall fin hfe e0 e1
        have hx' := hid hx
        clear hx
        go_wp2
        go_round
        case rel => exact ⟨j, n + 1, by have := hi'.out; omega, by simp, fun k h1 h2 => by
                      by_cases hk : k = j
                      · rw [hk, hx'.out]; rfl
                      · exact hall'.out k (by omega) h2⟩
        case measure => simp [intOf]; omega
      · have hne : ((x : Int) == 92) = false := by simp; omega
        rw [decide_eq_false h92] at hx
        obtain ⟨h1, h2⟩ := fin.out (.inr hx)
        have h3 := hfe.out h1
        have ej2 : (f : Int) - 1 = (j : Int) := by omega
        clear h1 fin hfe hall e0 e1 hx ej
        go_wp2
        refine bodyPost_ret (results_tmp2 rfl _ _ _) rfl ?_
        exact ⟨rfl, rfl⟩

set_option maxRecDepth 10000 in
theorem refOdd_out (s : ByteArray) (a : Int) (ha : ¬ (0 ≤ a ∧ a ≤ s.size)) (w : World) :
    Calls Try.prog 8 #[.string s, .int .i64 a] w fun e w' => e = .returned (.tuple #[.int .i64 0, .bool false]) ∧ w' = w := by
  go_enter Try.func8, Try.ntmps8
  by_cases h0 : a < 0
  · have e0 : decide (a < 0) = true := by simp; omega
    clear ha h0
    go_wp2
    refine bodyPost_ret (results_tmp2 rfl _ _ _) rfl ?_
    exact ⟨rfl, rfl⟩
  · have e0 : decide (a < 0) = false := by simp; omega
    have e1 : decide ((s.size : Int) < a) = true := by simp; omega
    clear ha h0
    go_wp2
    refine bodyPost_ret (results_tmp2 rfl _ _ _) rfl ?_
    exact ⟨rfl, rfl⟩
end Go.Proofs.Ytkdcloiepeenoaa
