/-
  EscText, OddWalk.
-/
import Derived.Test.YtlckhiflhnlgpaaGreatDoorKit
import Derived.Test.YtlckhiflhnlgpaaGreatDoorKitA
/-
  Of no program: the backslashes of a text; which bytes are escaped; rows of backslashes.
-/
namespace Go.Proofs.YtlckhiflhnlgpaaGreatDoor

/-- Is the byte i a backslash? -/
def slash (s : ByteArray) (i : Nat) : Bool := decide ((s.data[i]?.getD 0).toNat = 92)
theorem slash_at (s : ByteArray) (i : Nat) (h : i < s.size) : slash s i = decide ((s[i]'h).toNat = 92) := by
  unfold slash
  rw [Array.getElem?_eq_getElem (show i < s.data.size from h)]
  rfl
theorem slash_out (s : ByteArray) (i : Nat) (h : s.size ≤ i) : slash s i = false := by
  unfold slash
  rw [Array.getElem?_eq_none (show s.data.size ≤ i from h)]
  rfl

/-- Is the byte n escaped, where q tells the backslashes, and c whether the byte 0 is? -/
def escG (q : Nat → Bool) (c : Bool) : Nat → Bool
  | 0 => c
  | n + 1 => q n && !escG q c n
theorem escG_succ (q : Nat → Bool) (c : Bool) (n : Nat) : escG q c (n + 1) = (q n && !escG q c n) := rfl
theorem escG_add (q : Nat → Bool) (c : Bool) (a n : Nat) : escG q c (a + n) = escG (fun i => q (a + i)) (escG q c a) n := by
  induction n with
  | zero => rfl
  | succ n ih => rw [← Nat.add_assoc, escG_succ, escG_succ, ih]
theorem escG_congr {q r : Nat → Bool} (c : Bool) {n : Nat} (h : ∀ i, i < n → q i = r i) : escG q c n = escG r c n := by
  induction n with
  | zero => rfl
  | succ n ih => rw [escG_succ, escG_succ, ih (fun i hi => h i (by omega)), h n (by omega)]

end Go.Proofs.YtlckhiflhnlgpaaGreatDoor

/-
  What escape.Odd answers.
-/
namespace Go.Proofs.YtlckhiflhnlgpaaGreatDoor
open Go.RowKit

/-- Does a text end so that the next byte is escaped, where c says it of its first one? -/
def behindS (s : ByteArray) (c : Bool) : Bool := escG (slash s) c s.size
end Go.Proofs.YtlckhiflhnlgpaaGreatDoor
