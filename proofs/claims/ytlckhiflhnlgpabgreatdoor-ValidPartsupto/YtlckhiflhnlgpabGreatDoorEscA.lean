/-
  EscText, OddWalk.
-/
import Derived.Test.YtlckhiflhnlgpabGreatDoorKit
import Derived.Test.YtlckhiflhnlgpabGreatDoorKitA
/-
  Of no program: the backslashes of a text; which bytes are escaped; rows of backslashes.
-/
namespace Go.Proofs.YtlckhiflhnlgpabGreatDoor

/-- Is the byte i a backslash? -/
def slash (s : ByteArray) (i : Nat) : Bool := decide ((s.data[i]?.getD 0).toNat = 92)
theorem slash_at (s : ByteArray) (i : Nat) (h : i < s.size) : slash s i = decide ((s[i]'h).toNat = 92) := by
  unfold slash
  rw [Array.getElem?_eq_getElem (show i < s.data.size from h)]
  rfl
theorem slash_out (s : ByteArray) (i : Nat) (h : s.size ≤ i) : slash s i = false := by
  unfold slash
  rw [Array.getElem?_eq_none (show s.data.size ≤ i from h)]
  rfl

/-- Is the byte n escaped, where q tells the backslashes, and c whether the byte 0 is? -/
def escG (q : Nat → Bool) (c : Bool) : Nat → Bool
  | 0 => c
  | n + 1 => q n && !escG q c n
theorem escG_succ (q : Nat → Bool) (c : Bool) (n : Nat) : escG q c (n + 1) = (q n && !escG q c n) := rfl
theorem escG_add (q : Nat → Bool) (c : Bool) (a n : Nat) : escG q c (a + n) = escG (fun i => q (a + i)) (escG q c a) n := by
  induction n with
  | zero => rfl
  | succ n ih => rw [← Nat.add_assoc, escG_succ, escG_succ, ih]
theorem escG_congr {q r : Nat → Bool} (c : Bool) {n : Nat} (h : ∀ i, i < n → q i = r i) : escG q c n = escG r c n := by
  induction n with
  | zero => rfl
  | succ n ih => rw [escG_succ, escG_succ, ih (fun i hi => h i (by omega)), h n (by omega)]

/-- How many backslashes end right ahead of n. -/
def runE (q : Nat → Bool) : Nat → Nat
  | 0 => 0
  | n + 1 => if q n then runE q n + 1 else 0
theorem runE_succ (q : Nat → Bool) (n : Nat) : runE q (n + 1) = if q n then runE q n + 1 else 0 := rfl
theorem runE_le (q : Nat → Bool) (n : Nat) : runE q n ≤ n := by
  induction n with
  | zero => exact Nat.le_refl _
  | succ n ih => rw [runE_succ]; split <;> omega
theorem runE_of {q : Nat → Bool} {n k : Nat} (hk : k ≤ n) (h : ∀ j, n - k ≤ j → j < n → q j = true) (he : k = n ∨ q (n - k - 1) = false) : runE q n = k := by
  induction n generalizing k with
  | zero => simp [runE]; omega
  | succ n ih =>
    rw [runE_succ]
    cases k with
    | zero =>
      rcases he with he | he
      · omega
      · simp at he
        rw [he]; rfl
    | succ k =>
      rw [h n (by omega) (by omega), if_pos rfl, ih (k := k) (by omega) (fun j h1 h2 => h j (by omega) (by omega))]
      rcases he with he | he
      · exact .inl (by omega)
      · exact .inr (by rw [← he]; congr 1; omega)
theorem runE_all (q : Nat → Bool) (n : Nat) : ∀ j, n - runE q n ≤ j → j < n → q j = true := by
  induction n with
  | zero => intro j _ h; omega
  | succ n ih =>
    intro j h1 h2
    rw [runE_succ] at h1
    by_cases hq : q n = true
    · rw [if_pos hq] at h1
      by_cases hj : j = n
      · rw [hj, hq]
      · exact ih j (by omega) (by omega)
    · rw [if_neg hq] at h1; omega
theorem runE_end (q : Nat → Bool) (n : Nat) (h : runE q n < n) : q (n - runE q n - 1) = false := by
  induction n with
  | zero => omega
  | succ n ih =>
    rw [runE_succ] at h ⊢
    by_cases hq : q n = true
    · rw [if_pos hq] at h ⊢
      have := ih (by omega)
      rw [show n + 1 - (runE q n + 1) - 1 = n - runE q n - 1 by omega]
      exact this
    · rw [if_neg hq]
      simpa using hq
theorem odd_succ (r : Nat) : decide ((r + 1) % 2 = 1) = !decide (r % 2 = 1) := by
  by_cases h : r % 2 = 1
  · have : ¬ (r + 1) % 2 = 1 := by omega
    simp [h, this]
  · have : (r + 1) % 2 = 1 := by omega
    simp [h, this]
theorem escG_run (q : Nat → Bool) (c : Bool) (n : Nat) : escG q c n = (decide (runE q n % 2 = 1) != (decide (runE q n = n) && c)) := by
  induction n with
  | zero => simp [escG, runE]
  | succ n ih =>
    rw [escG_succ, ih, runE_succ]
    by_cases hq : q n = true
    · rw [if_pos hq, hq, odd_succ]
      have e : decide (runE q n + 1 = n + 1) = decide (runE q n = n) := by congr 1; simp
      rw [e]
      generalize decide (runE q n % 2 = 1) = x
      generalize (decide (runE q n = n) && c) = y
      revert x y; decide
    · rw [if_neg hq]
      rw [Bool.not_eq_true] at hq
      simp [hq]
theorem escG_odd (q : Nat → Bool) (n : Nat) : escG q false n = decide (runE q n % 2 = 1) := by rw [escG_run]; simp
theorem runE_lt_iff (q : Nat → Bool) (n : Nat) : runE q n = n ∨ runE q n < n := by have := runE_le q n; omega
end Go.Proofs.YtlckhiflhnlgpabGreatDoor

/-
  What escape.Odd answers.
-/
namespace Go.Proofs.YtlckhiflhnlgpabGreatDoor
open Go.RowKit

/-- Does a text end so that the next byte is escaped, where c says it of its first one? -/
def behindS (s : ByteArray) (c : Bool) : Bool := escG (slash s) c s.size
end Go.Proofs.YtlckhiflhnlgpabGreatDoor
