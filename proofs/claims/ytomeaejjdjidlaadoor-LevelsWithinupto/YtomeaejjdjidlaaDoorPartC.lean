/-
  What marks.parts answers.
-/
import Derived.Test.YtomeaejjdjidlaaDoorPartB
namespace Go.Proofs.YtomeaejjdjidlaaDoor
open Go.RowKit Go.Shelf

attribute [local go_sem] Oper.semAt_some

/-! The words of a part. -/
/-- The field f of the part j. -/
def ptV (s : ByteArray) (j f : Nat) : Nat :=
  if f = 0 then rowOf (strS s) s.size j else if f = 1 then rowOf (blankS s) s.size j else if f = 2 then rowOf (wordS s) s.size j else if f = 3 then rowOf (opnS s) s.size j else rowOf (firS s) s.size j
theorem ptV_lt (s : ByteArray) (j f : Nat) : ptV s j f < 18446744073709551616 := by
  unfold ptV
  split
  · exact rowOf_lt _ _ _
  · split
    · exact rowOf_lt _ _ _
    · split
      · exact rowOf_lt _ _ _
      · split <;> exact rowOf_lt _ _ _
/-- The cells of the parts, as far as r of them are told. -/
def ptUp (s : ByteArray) (r i : Nat) : Nat := if i / 5 < r then ptV s (i / 5) (i % 5) else 0
/-- All of them. -/
def ptZ (s : ByteArray) (i : Nat) : Nat := ptV s (i / 5) (i % 5)
theorem ptUp_set (s : ByteArray) (j i : Nat) :
    (if i = j * 5 + 4 then ptV s j 4 else if i = j * 5 + 3 then ptV s j 3 else if i = j * 5 + 2 then ptV s j 2 else if i = j * 5 + 1 then ptV s j 1 else if i = j * 5 then ptV s j 0 else ptUp s j i) = ptUp s (j + 1) i := by
  unfold ptUp
  by_cases h : i / 5 = j
  · rw [if_pos (show i / 5 < j + 1 by omega), h]
    have h5 : i % 5 < 5 := Nat.mod_lt _ (by decide)
    have hi : i = j * 5 + i % 5 := by omega
    obtain e | e | e | e | e : i % 5 = 0 ∨ i % 5 = 1 ∨ i % 5 = 2 ∨ i % 5 = 3 ∨ i % 5 = 4 := by omega
    · rw [e] at hi ⊢
      rw [if_neg (by omega), if_neg (by omega), if_neg (by omega), if_neg (by omega), if_pos (by omega)]
    · rw [e] at hi ⊢
      rw [if_neg (by omega), if_neg (by omega), if_neg (by omega), if_pos (by omega)]
    · rw [e] at hi ⊢
      rw [if_neg (by omega), if_neg (by omega), if_pos (by omega)]
    · rw [e] at hi ⊢
      rw [if_neg (by omega), if_pos (by omega)]
    · rw [e] at hi ⊢
      rw [if_pos (by omega)]
  · rw [if_neg (by omega), if_neg (by omega), if_neg (by omega), if_neg (by omega), if_neg (by omega)]
    by_cases h2 : i / 5 < j
    · rw [if_pos h2, if_pos (by omega)]
    · rw [if_neg h2, if_neg (by omega)]
/-- Does the place right ahead of the block j stand in a word? -/
def cyS (s : ByteArray) (j : Nat) : Nat := if decide (0 < j) && wordS s (64 * j - 1) then 1 else 0
theorem cyS_le (s : ByteArray) (j : Nat) : cyS s j ≤ 1 := by unfold cyS; split <;> omega
theorem cut_out (s : ByteArray) (j k : Nat) (G : Nat → Bool) (hG : ∀ i, i < s.size → (kB (byteAt s i) == k && outS s i) = G i) : kdW (cutF s ((64 * j : Nat) : Int) 0) k 64 &&& rowOf (outS s) s.size j = rowOf G s.size j :=
  rowOf_eq (Nat.lt_of_le_of_lt Nat.and_le_right (rowOf_lt _ _ _)) fun r hr => by
    rw [Nat.testBit_and, kdW, mk_bit, rowOf_test _ _ _ _ hr, decide_eq_true hr, Bool.true_and]
    by_cases hl : 64 * j + r < s.size
    · rw [decide_eq_true hl, Bool.true_and, Bool.true_and, ← hG _ hl]
      congr 3
      unfold cutF
      rw [if_pos (by omega)]
      congr 1
    · rw [decide_eq_false hl]; simp
theorem cut_str (s : ByteArray) (j : Nat) : kdW (cutF s ((64 * j : Nat) : Int) 0) 1 64 &&& rowOf (outS s) s.size j = ptV s j 0 :=
  cut_out s j 1 (strS s) fun i _ => by rw [kB_str, strS, Bool.and_comm]
theorem cut_blk (s : ByteArray) (j : Nat) : kdW (cutF s ((64 * j : Nat) : Int) 0) 2 64 &&& rowOf (outS s) s.size j = ptV s j 1 :=
  cut_out s j 2 (blankS s) fun i _ => by rw [kB_blk, blankS, Bool.and_comm]
theorem cut_word (s : ByteArray) (j : Nat) : kdW (cutF s ((64 * j : Nat) : Int) 0) 0 64 &&& rowOf (outS s) s.size j = ptV s j 2 :=
  cut_out s j 0 (wordS s) fun i _ => by rw [kB_word, wordS, Bool.and_comm]
theorem word_test (s : ByteArray) (j r : Nat) (hr : r < 64) : (ptV s j 2).testBit r = wordS s (64 * j + r) := by
  show (rowOf (wordS s) s.size j).testBit r = _
  rw [rowOf_test _ _ _ _ hr]
  by_cases hl : 64 * j + r < s.size
  · rw [decide_eq_true hl]; rfl
  · rw [decide_eq_false hl, wordS_out (by omega)]; rfl
theorem dbl_bit (x r : Nat) (hr : r < 64) : (x * 2 % 18446744073709551616).testBit r = (decide (0 < r) && x.testBit (r - 1)) := by
  rw [show (18446744073709551616 : Nat) = 2 ^ 64 from rfl, Nat.testBit_mod_two_pow, decide_eq_true hr, Bool.true_and, show x * 2 = x * 2 ^ 1 from rfl, Nat.testBit_mul_two_pow]
  congr 1
theorem cy_bit (c r : Nat) (hc : c ≤ 1) : c.testBit r = (decide (r = 0) && decide (c = 1)) := by
  obtain rfl | rfl : c = 0 ∨ c = 1 := by omega
  · simp
  · cases r with
    | zero => rfl
    | succ r => simp [Nat.testBit_succ]
/-- The word right behind each place of a word. -/
theorem ahead_bit (s : ByteArray) (j r : Nat) (hr : r < 64) : ((ptV s j 2 * 2 % 18446744073709551616) ||| cyS s j).testBit r = (decide (0 < 64 * j + r) && wordS s (64 * j + r - 1)) := by
  rw [Nat.testBit_or, dbl_bit _ _ hr, cy_bit _ _ (cyS_le s j)]
  by_cases h0 : r = 0
  · subst h0
    rw [decide_eq_false (by omega), decide_eq_true rfl, Bool.false_and, Bool.false_or, Bool.true_and]
    unfold cyS
    cases j with
    | zero => simp
    | succ j =>
      rw [decide_eq_true (show 0 < j + 1 by omega), decide_eq_true (show 0 < 64 * (j + 1) + 0 by omega)]
      cases wordS s (64 * (j + 1) - 1) <;> simp
  · rw [decide_eq_true (show 0 < r by omega), word_test s j (r - 1) (by omega), decide_eq_false h0, decide_eq_true (show 0 < 64 * j + r by omega), show 64 * j + (r - 1) = 64 * j + r - 1 by omega]
    simp
theorem ahead_lt (s : ByteArray) (j : Nat) : ((ptV s j 2 * 2 % 18446744073709551616) ||| cyS s j) < 18446744073709551616 :=
  Nat.or_lt_two_pow (n := 64) (Nat.mod_lt _ (by decide)) (Nat.lt_of_le_of_lt (cyS_le s j) (by decide))
theorem first_row (s : ByteArray) (j : Nat) : ptV s j 2 &&& (18446744073709551615 - ((ptV s j 2 * 2 % 18446744073709551616) ||| cyS s j)) = ptV s j 4 :=
  rowOf_eq (andNot_lt (ptV_lt s j 2)) fun r hr => by
    rw [andNot_bit (ahead_lt s j) hr, ahead_bit s j r hr, word_test s j r hr]
    unfold firS
    by_cases hl : 64 * j + r < s.size
    · rw [decide_eq_true hl]; rfl
    · rw [decide_eq_false hl, wordS_out (by omega)]; rfl
theorem cy_next (s : ByteArray) (j : Nat) : ptV s j 2 / 9223372036854775808 = cyS s (j + 1) := by
  have h := word_test s j 63 (by decide)
  have hl := ptV_lt s j 2
  rw [Nat.testBit_eq_decide_div_mod_eq] at h
  unfold cyS
  rw [show 64 * (j + 1) - 1 = 64 * j + 63 by omega, ← h, decide_eq_true (show 0 < j + 1 by omega), Bool.true_and]
  generalize ptV s j 2 = x at *
  simp only [Nat.reducePow, decide_eq_true_eq]
  split <;> omega
end Go.Proofs.YtomeaejjdjidlaaDoor
