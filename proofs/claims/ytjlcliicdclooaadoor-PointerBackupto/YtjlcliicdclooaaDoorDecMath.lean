/-
 What a number's text is, and what decimal it is of (mathematics alone).
-/
import Derived.Test.YtjlcliicdclooaaDoorKitA
import Derived.Lib.TrimByte
namespace Go.Proofs.YtjlcliicdclooaaDoor
open Go.RowKit
/-- The byte at a place; 0 beyond the end. -/
def lk (s : ByteArray) (i : Nat) : Nat := if h : i < s.size then (s[i]'h).toNat else 0
theorem lk_at (s : ByteArray) (i : Nat) (h : i < s.size) : lk s i = (s[i]'h).toNat := dif_pos h
theorem lk_out (s : ByteArray) (i : Nat) (h : s.size ≤ i) : lk s i = 0 := dif_neg (by omega)
theorem lk_in {s : ByteArray} {i : Nat} (h : 0 < lk s i) : i < s.size := by
 rcases Nat.lt_or_ge i s.size with h1 | h1
 ·exact h1
 ·rw [lk_out s i h1] at h; omega
/-- Is it a digit? -/
def dgB (x : Nat) : Bool := decide (48 ≤ x ∧ x ≤ 57)
theorem dgB_iff (x : Nat) : dgB x = true ↔ 48 ≤ x ∧ x ≤ 57 := by simp [dgB]
def rnF (s : ByteArray) : Nat → Nat → Nat
 | 0, a => a
 | n + 1, a => if dgB (lk s a) then rnF s n (a + 1) else a
/-- The place behind all digits from a place on. -/
def rn (s : ByteArray) (a : Nat) : Nat := rnF s (s.size - a) a
theorem rnF_ge (s : ByteArray) : ∀ n a, a ≤ rnF s n a
 | 0, a => Nat.le_refl a
 | n + 1, a => by
  unfold rnF
  split
  ·have := rnF_ge s n (a + 1); omega
  ·exact Nat.le_refl a
theorem rnF_le (s : ByteArray) : ∀ n a, rnF s n a ≤ a + n
 | 0, a => Nat.le_refl a
 | n + 1, a => by
  unfold rnF
  split
  ·have := rnF_le s n (a + 1); omega
  ·omega
theorem rnF_dig (s : ByteArray) : ∀ n a i, a ≤ i → i < rnF s n a → dgB (lk s i) = true
 | 0, a, i, h1, h2 => by unfold rnF at h2; omega
 | n + 1, a, i, h1, h2 => by
  unfold rnF at h2
  split at h2
  ·rename_i h
   rcases Nat.eq_or_lt_of_le h1 with rfl | h3
   ·exact h
   ·exact rnF_dig s n (a + 1) i h3 h2
  ·omega
theorem rnF_end (s : ByteArray) : ∀ n a, s.size ≤ a + n → dgB (lk s (rnF s n a)) = false
 | 0, a, h => by
  unfold rnF
  rw [lk_out s a (by omega)]
  rfl
 | n + 1, a, h => by
  unfold rnF
  split
  ·exact rnF_end s n (a + 1) (by omega)
  ·rename_i h1
   simpa using h1
theorem rn_ge (s : ByteArray) (a : Nat) : a ≤ rn s a := rnF_ge s _ a
theorem rn_le (s : ByteArray) (a : Nat) (h : a ≤ s.size) : rn s a ≤ s.size := by have := rnF_le s (s.size - a) a; unfold rn; omega
theorem rn_dig (s : ByteArray) (a i : Nat) (h1 : a ≤ i) (h2 : i < rn s a) : dgB (lk s i) = true := rnF_dig s _ a i h1 h2
theorem rn_end (s : ByteArray) (a : Nat) : dgB (lk s (rn s a)) = false := rnF_end s _ a (by omega)
theorem rn_lt (s : ByteArray) (a : Nat) (h : dgB (lk s a) = true) : a < rn s a := by
 rcases Nat.eq_or_lt_of_le (rn_ge s a) with h1 | h1
 ·have := rn_end s a
  rw [← h1, h] at this
  cases this
 ·exact h1
/-- The parts of a number's text. -/
structure Num where
 neg : Bool
 wh : ByteArray
 be : ByteArray
 dn : Bool
 pw : ByteArray
/-- Where the whole part begins and ends; where the part behind the point ends; where the exponent's digits begin. -/
def scA (s : ByteArray) (p : Nat) : Nat := if lk s p = 45 then p + 1 else p
def scB (s : ByteArray) (p : Nat) : Nat := if lk s (scA s p) = 48 then scA s p + 1 else rn s (scA s p)
def scC (s : ByteArray) (p : Nat) : Nat := if lk s (scB s p) = 46 then rn s (scB s p + 1) else scB s p
def scF (s : ByteArray) (p : Nat) : Nat := if lk s (scC s p + 1) = 43 ∨ lk s (scC s p + 1) = 45 then scC s p + 2 else scC s p + 1
/-- Is there an exponent? -/
def scX (s : ByteArray) (p : Nat) : Bool := decide (lk s (scC s p) = 101 ∨ lk s (scC s p) = 69)
def scH (s : ByteArray) (p : Nat) : Nat := if scX s p then rn s (scF s p) else scC s p
def scNeg (s : ByteArray) (p : Nat) : Bool := decide (lk s p = 45)
def scDn (s : ByteArray) (p : Nat) : Bool := scX s p && decide (lk s (scC s p + 1) = 45)
def scBe (s : ByteArray) (p : Nat) : ByteArray := if lk s (scB s p) = 46 then s.extract (scB s p + 1) (scC s p) else ⟨#[]⟩
def scPw (s : ByteArray) (p : Nat) : ByteArray := if scX s p then s.extract (scF s p) (scH s p) else ⟨#[]⟩
/-- The parts (none: something is wanting), and the place behind them (the place of the byte that can't stand there). -/
def scanS (s : ByteArray) (p : Nat) : Option Num × Nat :=
 if dgB (lk s (scA s p)) = false then (none, scA s p)
 else if lk s (scB s p) = 46 ∧ dgB (lk s (scB s p + 1)) = false then (none, scB s p + 1)
 else if scX s p = true ∧ dgB (lk s (scF s p)) = false then (none, scF s p)
 else (some ⟨scNeg s p, s.extract (scA s p) (scB s p), scBe s p, scDn s p, scPw s p⟩, scH s p)
/-- The number that some digits are. -/
def pwN (l : List UInt8) : Nat := l.foldl (fun n b => 10 * n + (b.toNat - 48)) 0
/-- A decimal: its sign, digits, exponent. -/
structure Dec where
 neg : Bool
 ds : List UInt8
 ex : Int
/-- Its digits, without the noughts ahead. -/
def allS (n : Num) : List UInt8 := Lib.trimLeftB (n.wh.data.toList ++ n.be.data.toList) 48
def digS (n : Num) : List UInt8 := Lib.trimRightB (allS n) 48
def powS (n : Num) : Int := if n.dn then -(pwN n.pw.data.toList : Int) else pwN n.pw.data.toList
def expS (n : Num) : Int := powS n - (n.be.size : Int) + (((allS n).length - (digS n).length : Nat) : Int)
def inB (x : Int) : Bool := decide (-1073741824 ≤ x ∧ x ≤ 1073741824)
/-- The decimal of a number's parts; none: too big. -/
def worthS (n : Num) : Option Dec :=
 if allS n = [] then some ⟨n.neg, [], 0⟩
 else if inB (expS n) then some ⟨n.neg, digS n, expS n⟩ else none
def zeroD : Dec := ⟨false, [], 0⟩
/-- What Read answers: the decimal, the end, the number of the refusal. -/
def readS (s : ByteArray) (p : Nat) : Dec × Nat × Nat :=
 match (scanS s p).1 with
 | none => (zeroD, (scanS s p).2, 110)
 | some n => match worthS n with
  | none => (zeroD, (scanS s p).2, 111)
  | some d => (d, (scanS s p).2, 0)
def ofS (s : ByteArray) : Dec × Nat := if (readS s 0).2.1 = s.size then ((readS s 0).1, (readS s 0).2.2) else (zeroD, 110)
def decV (d : Dec) : Value := .agg #[.bool d.neg, .string ⟨d.ds.toArray⟩, .int .i64 d.ex]
theorem trimL_length (l : List UInt8) (c : UInt8) : (Lib.trimLeftB l c).length ≤ l.length := by
 unfold Lib.trimLeftB
 exact (List.dropWhile_sublist _).length_le
theorem trimR_length (l : List UInt8) (c : UInt8) : (Lib.trimRightB l c).length ≤ l.length := by
 unfold Lib.trimRightB
 rw [List.length_reverse]
 have := (List.dropWhile_sublist (fun x => x == c) (l := l.reverse)).length_le
 rwa [List.length_reverse] at this
/-- Noughts cut off twice are noughts cut off. -/
theorem trimL_twice (a b : List UInt8) (c : UInt8) : Lib.trimLeftB (Lib.trimLeftB a c ++ b) c = Lib.trimLeftB (a ++ b) c := by
 unfold Lib.trimLeftB
 induction a with
 | nil => rfl
 | cons x r ih =>
  by_cases h : (x == c) = true
  ·simp only [List.dropWhile_cons, h, if_true, List.cons_append]
   exact ih
  ·simp only [List.dropWhile_cons, h, List.cons_append]
   simp [h]
end Go.Proofs.YtjlcliicdclooaaDoor
