/-
 What package texts' small functions answer: plain, digit, numbered, single, meaning.
-/
import Derived.Test.YtlhbgfhmcjaabaaGreatDoorRefTx3
namespace Go.Proofs.YtlhbgfhmcjaabaaGreatDoor
open Go.RowKit Go.Shelf
/-- May a byte stand for itself? -/
def plB (c : Nat) : Bool := decide (32 ≤ c ∧ c ≠ 34 ∧ c ≠ 92)
/-- How many bytes stand ahead of the first one that may not. -/
def IsPl (s : ByteArray) (k : Nat) : Prop := k ≤ s.size ∧ (∀ i, i < k → plB (bAt s i) = true) ∧ (k < s.size → plB (bAt s k) = false)
theorem pl_ex (s : ByteArray) : ∃ k, IsPl s k := by
 have h : ∀ n, n ≤ s.size → (∃ k, IsPl s k) ∨ ∀ i, i < n → plB (bAt s i) = true := by
  intro n
  induction n with
  | zero => exact fun _ => .inr (fun i hi => by omega)
  | succ n ih =>
   intro hn
   rcases ih (by omega) with h | h
   ·exact .inl h
   ·cases hp : plB (bAt s n) with
    | false => exact .inl ⟨n, by omega, h, fun _ => hp⟩
    | true => exact .inr (fun i hi => by
      by_cases e : i = n
      ·subst e; exact hp
      ·exact h i (by omega))
 rcases h s.size (Nat.le_refl _) with h | h
 ·exact h
 ·exact ⟨s.size, Nat.le_refl _, h, fun h => by omega⟩
set_option maxRecDepth 10000 in
theorem plainP_calls (s : ByteArray) (hs : s.size ≤ 4611686018427387904) (k : Nat) (hk : Hid (IsPl s k)) (w : World) : Calls Tryz.prog 74 #[.string s] w fun e w' => e = .returned (.int .i64 (k : Int)) ∧ w' = w := by
 have hks : k ≤ s.size := hk.out.1
 have hsi : (s.size : Int) ≤ 4611686018427387904 := by omega
 go_enter Tryz.func74, Tryz.ntmps74
 go_wp2
 go_loopw [3, 4, 7] (fun _ _ ii wr => ∃ i : Nat, i ≤ k ∧ ii = .int .i64 (i : Int) ∧ wr = w) (fun _ _ ii _ => s.size - (intOf ii).toNat)
 case atStart => exact ⟨0, Nat.zero_le _, rfl, rfl⟩
 case round =>
  obtain ⟨i, hi, rfl, rfl⟩ := hrel
  by_cases hlt : i < s.size
  ·have hli : (i : Int) < (s.size : Int) := by omega
   have hx := bAt_at s i hlt
   obtain ⟨x, hX⟩ : ∃ x, Hid (bAt s i = x) := ⟨_, rfl⟩
   rw [hX.out] at hx
   have hxl : x < 256 := by rw [← hX.out]; exact bAt_lt s i
   by_cases hp : plB x = true
   ·have hik : i < k := by
     by_cases e : i = k
     ·subst e
      have := hk.out.2.2 hlt
      rw [hX.out, hp] at this
      cases this
     ·omega
    unfold plB at hp
    simp only [decide_eq_true_eq] at hp
    have m32 : decide ((x : Int) < 32) = false := by simp; omega
    have m34 : ((x : Int) == 34) = false := by simp; omega
    have m92 : ((x : Int) == 92) = false := by simp; omega
    have n32 : decide (x < 32) = false := by simp; omega
    clear hp
    go_wp2
    go_roundw
    case rel => exact ⟨i + 1, by omega, by simp, trivial⟩
    case measure => simp [intOf]; omega
   ·have hik : k = i := by
     by_cases e : i = k
     ·exact e.symm
     ·have := hk.out.2.1 i (by omega)
      rw [hX.out] at this
      exact absurd this hp
    subst hik
    unfold plB at hp
    simp only [decide_eq_true_eq] at hp
    by_cases a1 : x < 32
    ·have b1 : (x : Int) < 32 := by omega
     clear hp
     go_wp2
     go_ret
     exact ⟨rfl, rfl⟩
    ·have m32 : decide ((x : Int) < 32) = false := by simp; omega
     have n32 : decide (x < 32) = false := by simp; omega
     by_cases a2 : x = 34
     ·subst a2
      clear hp
      go_wp2
      go_ret
      exact ⟨rfl, rfl⟩
     ·have m34 : ((x : Int) == 34) = false := by simp; omega
      obtain rfl : x = 92 := by omega
      clear hp
      go_wp2
      go_ret
      exact ⟨rfl, rfl⟩
  ·obtain rfl : i = s.size := by omega
   obtain rfl : k = s.size := by omega
   go_wp2
   go_ret
   exact ⟨rfl, rfl⟩
end Go.Proofs.YtlhbgfhmcjaabaaGreatDoor
