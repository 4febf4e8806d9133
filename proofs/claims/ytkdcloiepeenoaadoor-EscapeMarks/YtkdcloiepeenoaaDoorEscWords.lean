/-
  Of no program: the words of the row of escaped bytes.
-/
import Derived.Test.YtkdcloiepeenoaaDoorPack1
import Derived.Test.YtkdcloiepeenoaaDoorPack2
import Derived.Test.YtkdcloiepeenoaaDoorBlockAwake
import Derived.Test.YtkdcloiepeenoaaDoorBlockSeq
namespace Go.Proofs.YtkdcloiepeenoaaDoor

/-- Which bytes of a text are escaped. -/
def escS (s : ByteArray) : Nat → Bool := escG (slash s) false
theorem escC_G (x : Nat) (c : Bool) (n : Nat) : escC x c n = escG x.testBit c n := by
  induction n with
  | zero => rfl
  | succ n ih => rw [escC_succ, escG_succ, ih]
/-- The backslashes of the block r, as a word. -/
def slashW (s : ByteArray) (r : Nat) : Nat := mk (fun i => isB 92 (cutF s ((64 * r : Nat) : Int) 0 i)) 64
theorem slashW_lt (s : ByteArray) (r : Nat) : slashW s r < 18446744073709551616 := mk_lt64 _ 64 (by decide)
theorem slashW_bit (s : ByteArray) (r i : Nat) (hi : i < 64) : (slashW s r).testBit i = slash s (64 * r + i) := by
  unfold slashW
  rw [mk_bit, decide_eq_true hi, Bool.true_and]
  unfold cutF isB
  by_cases h : 64 * r + i < s.size
  · rw [if_pos ⟨by omega, by omega⟩]
    rfl
  · rw [if_neg (by omega), slash_out s _ (by omega)]
    rfl
theorem escW_word (s : ByteArray) (r n : Nat) (hn : n ≤ 64) : escC (slashW s r) (escS s (64 * r)) n = escS s (64 * r + n) := by
  unfold escS
  rw [escC_G, escG_add]
  exact escG_congr _ fun i hi => slashW_bit s r i (by omega)
theorem escW_row (s : ByteArray) (r : Nat) : escW (slashW s r) (escS s (64 * r)) &&& lowm ((s.size : Int) - 64 * (r : Int)) = rowOf (escS s) s.size r :=
  turn_row (escW_lt _ _) fun i hi => by rw [escW_bit _ _ hi, escW_word s r i (by omega)]
theorem escC_none (n : Nat) : escC 0 false n = false := by
  cases n with
  | zero => rfl
  | succ n => rw [escC_succ]; simp
theorem escW_none : escW 0 false = 0 := by
  refine (zero_iff (escW_lt _ _)).2 fun r hr => ?_
  rw [escW_bit _ _ hr, escC_none]
/-- Where a block has no backslash and nothing is carried. -/
theorem esc_skip (s : ByteArray) (r : Nat) (h : slashW s r = 0) (hc : escS s (64 * r) = false) : rowOf (escS s) s.size r = 0 ∧ escS s (64 * (r + 1)) = false := by
  refine ⟨?_, ?_⟩
  · rw [← escW_row, h, hc, escW_none]; exact Nat.zero_and _
  · rw [Nat.mul_succ, ← escW_word s r 64 (by decide), h, hc, escC_none]
theorem esc_next (s : ByteArray) (r : Nat) : escC (slashW s r) (escS s (64 * r)) 64 = escS s (64 * (r + 1)) := by
  rw [escW_word s r 64 (by decide), Nat.mul_succ]

/-- The row as far as its first r words are told; no bit behind them. -/
def escTo (s : ByteArray) (r : Nat) (j : Nat) : Nat := if j < r then rowOf (escS s) s.size j else 0
theorem escTo_lt (s : ByteArray) (r j : Nat) : escTo s r j < 18446744073709551616 := by
  unfold escTo
  split
  · exact rowOf_lt _ _ _
  · decide
theorem escTo_skip (s : ByteArray) (r j : Nat) (h : rowOf (escS s) s.size r = 0) : escTo s r j = escTo s (r + 1) j := by
  unfold escTo
  by_cases hj : j < r
  · rw [if_pos hj, if_pos (by omega)]
  · rw [if_neg hj]
    by_cases hr : j = r
    · rw [if_pos (by omega), hr, h]
    · rw [if_neg (by omega)]
theorem escTo_set (s : ByteArray) (r j : Nat) : (if j = r then rowOf (escS s) s.size r else escTo s r j) = escTo s (r + 1) j := by
  unfold escTo
  by_cases hr : j = r
  · rw [if_pos hr, if_pos (by omega), hr]
  · rw [if_neg hr]
    by_cases hj : j < r
    · rw [if_pos hj, if_pos (by omega)]
    · rw [if_neg hj, if_neg (by omega)]
end Go.Proofs.YtkdcloiepeenoaaDoor
