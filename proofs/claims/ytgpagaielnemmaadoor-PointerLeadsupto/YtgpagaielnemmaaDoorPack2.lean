/-
  Texts of mine that others lean on, one behind the other.
-/
import Derived.Test.YtgpagaielnemmaaDoorPack1
import Derived.Lib.ItoaNum
import Derived.Lib.TrimByte
import Derived.Lib.OthersKept
import Derived.Lib.SpaceUEq
import Derived.Laws.AppendOwn
import Derived.ArgAppend
import Derived.RangeFuncBox
import Derived.Lib.Builder
import Derived.Lib.AppendStr
import Derived.Lib.UnsafeStr
import Derived.Laws.Externs
import Derived.Shelf.RegionOpenPlain
/-
 The parts of a value in the order in which tree.Walk tells them, each with its pointer.
-/
namespace Go.Proofs.YtgpagaielnemmaaDoor
open Go.RowKit Go.Shelf
/-- How a pointer tells one of the Kids. -/
def stpK (k : Int) (ks : List ByteArray) (i : Nat) : List UInt8 := if k = 5 then Lib.itoa (i : Int) else wrN ((ks[i]?).getD ⟨#[]⟩).data.toList
mutual
/-- A value and its parts, each with its pointer. -/
def prV (p : List UInt8) : Vt → List (List UInt8 × Vt)
 | .mk k b r t ks vs => (p, .mk k b r t ks vs) :: prL p k ks 0 vs
def prL (p : List UInt8) (k : Int) (ks : List ByteArray) : Nat → List Vt → List (List UInt8 × Vt)
 | _, [] => []
 | i, v :: vs => prV (p ++ [47] ++ stpK k ks i) v ++ prL p k ks (i + 1) vs
end
theorem prL_app (p : List UInt8) (k : Int) (ks : List ByteArray) : ∀ (a b : List Vt) (i : Nat), prL p k ks i (a ++ b) = prL p k ks i a ++ prL p k ks (i + a.length) b
 | [], b, i => by simp [prL]
 | v :: a, b, i => by
  rw [List.cons_append, prL, prL, prL_app p k ks a b (i + 1), List.length_cons, show i + 1 + a.length = i + (a.length + 1) by omega]
  exact (List.append_assoc _ _ _).symm
theorem prL_take {p : List UInt8} {k : Int} {ks : List ByteArray} {vs : List Vt} {i : Nat} {u : Vt} (h : vs[i]? = some u) :
  prL p k ks 0 (vs.take (i + 1)) = prL p k ks 0 (vs.take i) ++ prV (p ++ [47] ++ stpK k ks i) u := by
 have hi : i < vs.length := (List.getElem?_eq_some_iff.1 h).1
 rw [List.take_add_one, h, Option.toList_some, prL_app, List.length_take, Nat.min_eq_left (by omega), Nat.zero_add]
 simp [prL]
mutual
theorem prV_len : ∀ (t : Vt) (p : List UInt8), (prV p t).length = cntV t
 | .mk k b r t ks vs, p => by rw [prV, List.length_cons, prL_len vs p k ks 0, cntV]
theorem prL_len : ∀ (vs : List Vt) (p : List UInt8) (k : Int) (ks : List ByteArray) (i : Nat), (prL p k ks i vs).length = cntL vs
 | [], _, _, _, _ => by simp [prL, cntL]
 | v :: vs, p, k, ks, i => by rw [prL, List.length_append, prV_len v, prL_len vs, cntL]
end
/-- What stands in a list from a place on. -/
def PartAt (L : List (List UInt8 × Vt)) (r : Nat) (M : List (List UInt8 × Vt)) : Prop := ∀ (i : Nat) (x : List UInt8 × Vt), M[i]? = some x → L[r + i]? = some x
theorem PartAt.head {L : List (List UInt8 × Vt)} {r : Nat} {p : List UInt8} {k : Int} {b : Bool} {rw' t : ByteArray} {ks : List ByteArray} {vs : List Vt} (h : PartAt L r (prV p (.mk k b rw' t ks vs))) : L[r]? = some (p, .mk k b rw' t ks vs) := by
 have := h 0 (p, .mk k b rw' t ks vs) (by rw [prV]; rfl)
 simpa using this
theorem PartAt.kid {L : List (List UInt8 × Vt)} {r : Nat} {p : List UInt8} {k : Int} {b : Bool} {rw' t : ByteArray} {ks : List ByteArray} {vs : List Vt} (h : PartAt L r (prV p (.mk k b rw' t ks vs))) {i : Nat} {u : Vt} (hu : vs[i]? = some u) :
  PartAt L (r + 1 + (prL p k ks 0 (vs.take i)).length) (prV (p ++ [47] ++ stpK k ks i) u) := by
 intro j x hx
 have := h (1 + (prL p k ks 0 (vs.take i)).length + j) x ?_
 ·rw [← this]; congr 1; omega
 ·rw [prV, show 1 + (prL p k ks 0 (vs.take i)).length + j = ((prL p k ks 0 (vs.take i)).length + j) + 1 by omega, List.getElem?_cons_succ]
  have e : vs = vs.take i ++ (u :: vs.drop (i + 1)) := by
   conv => lhs; rw [← List.take_append_drop i vs, List.drop_eq_getElem_cons (List.getElem?_eq_some_iff.1 hu).1, (List.getElem?_eq_some_iff.1 hu).2]
  have hi : i < vs.length := (List.getElem?_eq_some_iff.1 hu).1
  have hl : (vs.take i).length = i := by rw [List.length_take]; omega
  have e2 : prL p k ks 0 vs = prL p k ks 0 (vs.take i) ++ (prV (p ++ [47] ++ stpK k ks i) u ++ prL p k ks (i + 1) (vs.drop (i + 1))) := by
   conv => lhs; rw [e, prL_app, hl, Nat.zero_add, prL]
  have hj : j < (prV (p ++ [47] ++ stpK k ks i) u).length := (List.getElem?_eq_some_iff.1 hx).1
  rw [e2, List.getElem?_append_right (by omega), show (prL p k ks 0 (vs.take i)).length + j - (prL p k ks 0 (vs.take i)).length = j by omega, List.getElem?_append_left hj]
  exact hx
mutual
/-- Each part of it can be told by a pointer. -/
def okP : Vt → Prop
 | .mk k _ _ _ ks vs => (∀ i, i < vs.length → k = 5 ∨ (k ≠ 5 ∧ ∃ s, ks[i]? = some s ∧ s.size ≤ 1073741820)) ∧ vs.length ≤ 1099511627776 ∧ okPL vs
def okPL : List Vt → Prop
 | [] => True
 | v :: vs => okP v ∧ okPL vs
end
theorem okPL_get : ∀ {vs : List Vt} {i : Nat} {u : Vt}, okPL vs → vs[i]? = some u → okP u
 | [], i, u, _, h => by simp at h
 | v :: vs, i, u, hs, h => by
  unfold okPL at hs
  cases i with
  | zero => simp at h; subst h; exact hs.1
  | succ i => exact okPL_get hs.2 (by simpa using h)
end Go.Proofs.YtgpagaielnemmaaDoor

/-
 What a number's text is, and what decimal it is of (mathematics alone).
-/
namespace Go.Proofs.YtgpagaielnemmaaDoor
open Go.RowKit
/-- The byte at a place; 0 beyond the end. -/
def lk (s : ByteArray) (i : Nat) : Nat := if h : i < s.size then (s[i]'h).toNat else 0
theorem lk_at (s : ByteArray) (i : Nat) (h : i < s.size) : lk s i = (s[i]'h).toNat := dif_pos h
theorem lk_out (s : ByteArray) (i : Nat) (h : s.size ≤ i) : lk s i = 0 := dif_neg (by omega)
theorem lk_in {s : ByteArray} {i : Nat} (h : 0 < lk s i) : i < s.size := by
 rcases Nat.lt_or_ge i s.size with h1 | h1
 ·exact h1
 ·rw [lk_out s i h1] at h; omega
/-- Is it a digit? -/
def dgB (x : Nat) : Bool := decide (48 ≤ x ∧ x ≤ 57)
theorem dgB_iff (x : Nat) : dgB x = true ↔ 48 ≤ x ∧ x ≤ 57 := by simp [dgB]
def rnF (s : ByteArray) : Nat → Nat → Nat
 | 0, a => a
 | n + 1, a => if dgB (lk s a) then rnF s n (a + 1) else a
/-- The place behind all digits from a place on. -/
def rn (s : ByteArray) (a : Nat) : Nat := rnF s (s.size - a) a
theorem rnF_ge (s : ByteArray) : ∀ n a, a ≤ rnF s n a
 | 0, a => Nat.le_refl a
 | n + 1, a => by
  unfold rnF
  split
  ·have := rnF_ge s n (a + 1); omega
  ·exact Nat.le_refl a
theorem rnF_le (s : ByteArray) : ∀ n a, rnF s n a ≤ a + n
 | 0, a => Nat.le_refl a
 | n + 1, a => by
  unfold rnF
  split
  ·have := rnF_le s n (a + 1); omega
  ·omega
theorem rnF_dig (s : ByteArray) : ∀ n a i, a ≤ i → i < rnF s n a → dgB (lk s i) = true
 | 0, a, i, h1, h2 => by unfold rnF at h2; omega
 | n + 1, a, i, h1, h2 => by
  unfold rnF at h2
  split at h2
  ·rename_i h
   rcases Nat.eq_or_lt_of_le h1 with rfl | h3
   ·exact h
   ·exact rnF_dig s n (a + 1) i h3 h2
  ·omega
theorem rnF_end (s : ByteArray) : ∀ n a, s.size ≤ a + n → dgB (lk s (rnF s n a)) = false
 | 0, a, h => by
  unfold rnF
  rw [lk_out s a (by omega)]
  rfl
 | n + 1, a, h => by
  unfold rnF
  split
  ·exact rnF_end s n (a + 1) (by omega)
  ·rename_i h1
   simpa using h1
theorem rn_ge (s : ByteArray) (a : Nat) : a ≤ rn s a := rnF_ge s _ a
theorem rn_le (s : ByteArray) (a : Nat) (h : a ≤ s.size) : rn s a ≤ s.size := by have := rnF_le s (s.size - a) a; unfold rn; omega
theorem rn_dig (s : ByteArray) (a i : Nat) (h1 : a ≤ i) (h2 : i < rn s a) : dgB (lk s i) = true := rnF_dig s _ a i h1 h2
theorem rn_end (s : ByteArray) (a : Nat) : dgB (lk s (rn s a)) = false := rnF_end s _ a (by omega)
theorem rn_lt (s : ByteArray) (a : Nat) (h : dgB (lk s a) = true) : a < rn s a := by
 rcases Nat.eq_or_lt_of_le (rn_ge s a) with h1 | h1
 ·have := rn_end s a
  rw [← h1, h] at this
  cases this
 ·exact h1
/-- The parts of a number's text. -/
structure Num where
 neg : Bool
 wh : ByteArray
 be : ByteArray
 dn : Bool
 pw : ByteArray
/-- Where the whole part begins and ends; where the part behind the point ends; where the exponent's digits begin. -/
def scA (s : ByteArray) (p : Nat) : Nat := if lk s p = 45 then p + 1 else p
def scB (s : ByteArray) (p : Nat) : Nat := if lk s (scA s p) = 48 then scA s p + 1 else rn s (scA s p)
def scC (s : ByteArray) (p : Nat) : Nat := if lk s (scB s p) = 46 then rn s (scB s p + 1) else scB s p
def scF (s : ByteArray) (p : Nat) : Nat := if lk s (scC s p + 1) = 43 ∨ lk s (scC s p + 1) = 45 then scC s p + 2 else scC s p + 1
/-- Is there an exponent? -/
def scX (s : ByteArray) (p : Nat) : Bool := decide (lk s (scC s p) = 101 ∨ lk s (scC s p) = 69)
def scH (s : ByteArray) (p : Nat) : Nat := if scX s p then rn s (scF s p) else scC s p
def scNeg (s : ByteArray) (p : Nat) : Bool := decide (lk s p = 45)
def scDn (s : ByteArray) (p : Nat) : Bool := scX s p && decide (lk s (scC s p + 1) = 45)
def scBe (s : ByteArray) (p : Nat) : ByteArray := if lk s (scB s p) = 46 then s.extract (scB s p + 1) (scC s p) else ⟨#[]⟩
def scPw (s : ByteArray) (p : Nat) : ByteArray := if scX s p then s.extract (scF s p) (scH s p) else ⟨#[]⟩
/-- The parts (none: something is wanting), and the place behind them (the place of the byte that can't stand there). -/
def scanS (s : ByteArray) (p : Nat) : Option Num × Nat :=
 if dgB (lk s (scA s p)) = false then (none, scA s p)
 else if lk s (scB s p) = 46 ∧ dgB (lk s (scB s p + 1)) = false then (none, scB s p + 1)
 else if scX s p = true ∧ dgB (lk s (scF s p)) = false then (none, scF s p)
 else (some ⟨scNeg s p, s.extract (scA s p) (scB s p), scBe s p, scDn s p, scPw s p⟩, scH s p)
/-- The number that some digits are. -/
def pwN (l : List UInt8) : Nat := l.foldl (fun n b => 10 * n + (b.toNat - 48)) 0
/-- A decimal: its sign, digits, exponent. -/
structure Dec where
 neg : Bool
 ds : List UInt8
 ex : Int
/-- Its digits, without the noughts ahead. -/
def allS (n : Num) : List UInt8 := Lib.trimLeftB (n.wh.data.toList ++ n.be.data.toList) 48
def digS (n : Num) : List UInt8 := Lib.trimRightB (allS n) 48
def powS (n : Num) : Int := if n.dn then -(pwN n.pw.data.toList : Int) else pwN n.pw.data.toList
def expS (n : Num) : Int := powS n - (n.be.size : Int) + (((allS n).length - (digS n).length : Nat) : Int)
def inB (x : Int) : Bool := decide (-1073741824 ≤ x ∧ x ≤ 1073741824)
/-- The decimal of a number's parts; none: too big. -/
def worthS (n : Num) : Option Dec :=
 if allS n = [] then some ⟨n.neg, [], 0⟩
 else if inB (expS n) then some ⟨n.neg, digS n, expS n⟩ else none
def zeroD : Dec := ⟨false, [], 0⟩
/-- What Read answers: the decimal, the end, the number of the refusal. -/
def readS (s : ByteArray) (p : Nat) : Dec × Nat × Nat :=
 match (scanS s p).1 with
 | none => (zeroD, (scanS s p).2, 110)
 | some n => match worthS n with
  | none => (zeroD, (scanS s p).2, 111)
  | some d => (d, (scanS s p).2, 0)
def ofS (s : ByteArray) : Dec × Nat := if (readS s 0).2.1 = s.size then ((readS s 0).1, (readS s 0).2.2) else (zeroD, 110)
def decV (d : Dec) : Value := .agg #[.bool d.neg, .string ⟨d.ds.toArray⟩, .int .i64 d.ex]
theorem trimL_length (l : List UInt8) (c : UInt8) : (Lib.trimLeftB l c).length ≤ l.length := by
 unfold Lib.trimLeftB
 exact (List.dropWhile_sublist _).length_le
theorem trimR_length (l : List UInt8) (c : UInt8) : (Lib.trimRightB l c).length ≤ l.length := by
 unfold Lib.trimRightB
 rw [List.length_reverse]
 have := (List.dropWhile_sublist (fun x => x == c) (l := l.reverse)).length_le
 rwa [List.length_reverse] at this
/-- Noughts cut off twice are noughts cut off. -/
theorem trimL_twice (a b : List UInt8) (c : UInt8) : Lib.trimLeftB (Lib.trimLeftB a c ++ b) c = Lib.trimLeftB (a ++ b) c := by
 unfold Lib.trimLeftB
 induction a with
 | nil => rfl
 | cons x r ih =>
  by_cases h : (x == c) = true
  ·simp only [List.dropWhile_cons, h, if_true, List.cons_append]
   exact ih
  ·simp only [List.dropWhile_cons, h, List.cons_append]
   simp [h]
end Go.Proofs.YtgpagaielnemmaaDoor

/-
 A name as a place: what the reference says.
-/
namespace Go.Proofs.YtgpagaielnemmaaDoor
open Go.RowKit Go.Shelf
/-- The number of the first digits. -/
def plN (s : ByteArray) : Nat → Nat
 | 0 => 0
 | i + 1 => plN s i * 10 + (lk s i - 48)
/-- Is a name a place? -/
def plB (s : ByteArray) : Bool := decide (1 ≤ s.size ∧ s.size ≤ 18 ∧ (lk s 0 = 48 → s.size = 1)) && decide (∀ i, i < s.size → 48 ≤ lk s i ∧ lk s i ≤ 57)
def plV (s : ByteArray) : Int := if plB s = true then (plN s s.size : Int) else 0
theorem plN_lt (s : ByteArray) : ∀ i, (∀ j, j < i → lk s j ≤ 57) → plN s i < 10 ^ i
 | 0, _ => by simp [plN]
 | i + 1, h => by
  have h1 := plN_lt s i (fun j hj => h j (by omega))
  have h2 := h i (by omega)
  rw [plN, Nat.pow_succ]
  omega
theorem plN_17 (s : ByteArray) (i : Nat) (hi : i ≤ 17) (h : ∀ j, j < i → lk s j ≤ 57) : plN s i < 100000000000000000 := by
 have h1 := plN_lt s i h
 have h2 : 10 ^ i ≤ 10 ^ 17 := Nat.pow_le_pow_right (by decide) hi
 exact Nat.lt_of_lt_of_le h1 h2
theorem plB_no {s : ByteArray} (h : ¬ (1 ≤ s.size ∧ s.size ≤ 18 ∧ (lk s 0 = 48 → s.size = 1))) : plB s = false := by unfold plB; rw [decide_eq_false h]; rfl
theorem plB_bad {s : ByteArray} {i : Nat} (hi : i < s.size) (h : ¬ (48 ≤ lk s i ∧ lk s i ≤ 57)) : plB s = false := by
 unfold plB
 rw [show decide (∀ i, i < s.size → 48 ≤ lk s i ∧ lk s i ≤ 57) = false from decide_eq_false (fun h' => h (h' i hi)), Bool.and_false]
theorem plB_yes {s : ByteArray} (h1 : 1 ≤ s.size) (h2 : s.size ≤ 18) (h3 : lk s 0 = 48 → s.size = 1) (h : ∀ i, i < s.size → 48 ≤ lk s i ∧ lk s i ≤ 57) : plB s = true := by
 unfold plB
 rw [decide_eq_true (show 1 ≤ s.size ∧ s.size ≤ 18 ∧ (lk s 0 = 48 → s.size = 1) from ⟨h1, h2, h3⟩), decide_eq_true h]
 rfl
theorem plV_no {s : ByteArray} (h : plB s = false) : plV s = 0 := by unfold plV; rw [h]; rfl
theorem plV_yes {s : ByteArray} (h : plB s = true) : plV s = (plN s s.size : Int) := by unfold plV; rw [h]; rfl
end Go.Proofs.YtgpagaielnemmaaDoor

/-
 A name as a place: what the program says (a range over a text).
-/
namespace Go.Proofs.YtgpagaielnemmaaDoor
open Go.RowKit Go.Shelf
theorem dec_low (s : ByteArray) (i : Nat) (h : i < s.size) (h1 : lk s i < 128) : Utf8.decode s i = (lk s i, 1) := by rw [lk_at s i h] at h1 ⊢; exact decode_ascii s i h h1
theorem dec_high (s : ByteArray) (i : Nat) (h : i < s.size) (h1 : 128 ≤ lk s i) : 128 ≤ (Utf8.decode s i).1 ∧ 1 ≤ (Utf8.decode s i).2 := by rw [lk_at s i h] at h1; exact decode_high s i h h1
theorem dec_pos (s : ByteArray) (i : Nat) (h : i < s.size) : 1 ≤ (Utf8.decode s i).2 := by
 by_cases h1 : lk s i < 128
 ·rw [dec_low s i h h1]; exact Nat.le_refl _
 ·exact (dec_high s i h (by omega)).2
/-- Behind the first byte of a character there are no bytes below 128. -/
theorem lk_get20 (s : ByteArray) (i : Nat) : (s.get! i).toNat = lk s i := by
 unfold lk
 by_cases h : i < s.size
 ·rw [dif_pos h, ← get_at s i h]; rfl
 ·rw [dif_neg h]
  have : s.get! i = 0 := by
   show s.data[i]! = 0
   rw [getElem!_neg s.data i (by simpa using h)]
   rfl
  rw [this]; rfl
theorem dec_conts (s : ByteArray) (i : Nat) (h : i < s.size) : i + (Utf8.decode s i).2 ≤ s.size ∧ ∀ j, i < j → j < i + (Utf8.decode s i).2 → 128 ≤ lk s j := by
 have hc := Lib.decodeN_conts (s.size - i) (s.get! i).toNat (s.get! (i + 1)).toNat (s.get! (i + 2)).toNat (s.get! (i + 3)).toNat
 rw [← Lib.decode_at s i, lk_get20, lk_get20, lk_get20] at hc
 obtain ⟨c1, c2, c3, c4⟩ := hc
 obtain ⟨D, hD⟩ : ∃ D, (Utf8.decode s i).2 = D := ⟨_, rfl⟩
 rw [hD] at c1 c2 c3 c4 ⊢
 refine ⟨?_, fun j hj1 hj2 => ?_⟩
 ·rcases Nat.lt_or_ge D 2 with h2 | h2
  ·omega
  ·have := (c1 h2).2
   rcases Nat.lt_or_ge D 3 with h3 | h3
   ·omega
   ·have := (c2 h3).2
    rcases Nat.lt_or_ge D 4 with h4 | h4
    ·omega
    ·have := (c3 h4).2
     omega
 ·have hj : j = i + 1 ∨ j = i + 2 ∨ j = i + 3 := by omega
  rcases hj with rfl | rfl | rfl
  ·have := (c1 (by omega)).1; omega
  ·have := (c2 (by omega)).1; omega
  ·have := (c3 (by omega)).1; omega
theorem eq_const (s : ByteArray) (l : List UInt8) : (s.toList == l) = decide (s.data.toList = l) := by
 rw [Lib.toList_data]
 cases h : decide (s.data.toList = l)
 ·exact beq_eq_false_iff_ne.2 (of_decide_eq_false h)
 ·exact beq_iff_eq.2 (of_decide_eq_true h)
set_option maxRecDepth 10000 in
set_option maxHeartbeats 2000000 in
theorem plc_calls (s : ByteArray) (hs : s.size ≤ 9223372036854775807) (w : World) : Calls Tryd.prog 43 #[.string s] w fun e w' => e = .returned (.tuple #[.int .i64 (plV s), .bool (plB s)]) ∧ Below w.heap.size w w' := by
 by_cases h1 : s.size < 1
 ·have hb := hid (plB_no (s := s) (fun h => by omega))
  obtain rfl : s = ByteArray.empty := by
   apply ByteArray.ext
   apply Array.eq_empty_of_size_eq_zero
   have : s.data.size = s.size := rfl
   omega
  clear h1
  go_enter Tryd.func43, Tryd.ntmps43
  go_wp2
  go_ret2
  exact ⟨by rw [plV_no hb.out, hb.out]; rfl, Below.refl _ _⟩
 have h0 : 0 < s.size := by omega
 have e0 := lk_at s 0 h0
 have hne : (s.toList == []) = false := by
  have := eq_const s []
  rw [this]
  apply decide_eq_false
  intro h
  have h2 := congrArg List.length h
  rw [Array.length_toList] at h2
  have h3 : s.data.size = 0 := h2
  have h4 : s.data.size = s.size := rfl
  omega
 by_cases h2 : s = (⟨#[48]⟩ : ByteArray)
 ·subst h2
  have hb := hid (show plB (⟨#[48]⟩ : ByteArray) = true by decide)
  have hv := hid (show plV (⟨#[48]⟩ : ByteArray) = 0 by rw [plV_yes hb.out]; decide)
  clear hne e0 h0 h1 hs
  go_enter Tryd.func43, Tryd.ntmps43
  go_wp2
  go_ret2
  exact ⟨by rw [hv.out, hb.out]; rfl, Below.refl _ _⟩
 have hn2 : (s.toList == [48]) = false := by
  have := eq_const s [48]
  rw [this]
  apply decide_eq_false
  intro h
  exact h2 (ByteArray.ext (Array.toList_inj.1 h))
 by_cases h3 : (s[0]'h0).toNat = 48
 ·have hz : 1 < s.size := by
   rcases Nat.lt_or_ge 1 s.size with h | h
   ·exact h
   ·exfalso
    apply h2
    apply ByteArray.ext
    have hs1 : s.data.size = 1 := by have : s.data.size = s.size := rfl; omega
    apply Array.ext
    ·exact hs1
    ·intro i hi1 hi2
     obtain rfl : i = 0 := by simp at hi2; omega
     show (s[0]'h0) = 48
     exact UInt8.toNat_inj.1 h3
  have hb := hid (plB_no (s := s) (fun h => by have := h.2.2 (by rw [e0]; exact h3); omega))
  clear e0 h2
  go_enter Tryd.func43, Tryd.ntmps43
  go_wp2
  go_ret2
  exact ⟨by rw [plV_no hb.out, hb.out]; rfl, Below.refl _ _⟩
 by_cases h4 : 18 < s.size
 ·have hb := hid (plB_no (s := s) (fun h => by omega))
  clear e0 h2
  go_enter Tryd.func43, Tryd.ntmps43
  go_wp2
  go_ret2
  exact ⟨by rw [plV_no hb.out, hb.out]; rfl, Below.refl _ _⟩
 have hs18 : s.size ≤ 18 := by omega
 have h0' := hid (show lk s 0 = 48 → s.size = 1 from fun h => by rw [e0] at h; omega)
 have b1 : (((s[0]'h0).toNat : Int) == 48) = false := beq_eq_false_iff_ne.2 (by omega)
 have b2 : decide ((18 : Int) < (s.size : Int)) = false := decide_eq_false (by omega)
 clear e0 h2
 go_enter Tryd.func43, Tryd.ntmps43
 go_wp2
 go_loopw [4] (fun nn wr => ∃ q : Nat, q ≤ s.size ∧ nn = .int .i64 ((plN s q : Nat) : Int) ∧ Hid (wr.heap[w.heap.size]? = some (.stringIter s q)) ∧ Hid (∀ j, j < q → 48 ≤ lk s j ∧ lk s j ≤ 57) ∧ Hid (Below w.heap.size w wr)) (fun _ wr => s.size - wr.iterPos w.heap.size)
 case atStart => exact ⟨0, Nat.zero_le _, rfl, hid (World.iter_heap w s 0), hid (fun j hj => by omega), hid ((Below.refl _ w).alloc (Nat.le_refl _) _)⟩
 case round =>
  obtain ⟨q, hqN, rfl, hI, hD, hB⟩ := hrel
  by_cases hq : q < s.size
  ·have hnx := fun ty => Lib.run_next_any_at (P := Tryd.prog) wr w.heap.size s q ty hI.out hq
   have hwd := dec_pos s q hq
   have hI2 := hid (Lib.iterAt_heap wr w.heap.size s q (q + (Utf8.decode s q).2) hI.out)
   have hB2 := hid (Lib.below_iterAt hB.out (k := w.heap.size) (Nat.le_refl _) s (q + (Utf8.decode s q).2))
   by_cases hd : 48 ≤ lk s q ∧ lk s q ≤ 57
   ·obtain ⟨hd1, hd2⟩ := hd
    have hN := plN_17 s q (by omega) (fun j hj => (hD.out j hj).2)
    have hnn : plN s (q + 1) = plN s q * 10 + (lk s q - 48) := rfl
    have hdec := dec_low s q hq (by omega)
    rw [hdec] at hnx hI2 hB2
    obtain ⟨c, hc⟩ : ∃ c, lk s q = c := ⟨_, rfl⟩
    obtain ⟨n, hn⟩ : ∃ n, plN s q = n := ⟨_, rfl⟩
    have hc' := hid hc
    rw [hn] at hN hnn ⊢
    rw [hc] at hnx hd1 hd2 hnn
    have hnn' := hid hnn
    clear hnn hn hc hdec
    go_wp2
    go_roundw
    case rel => exact ⟨q + 1, by omega, by rw [hnn'.out]; congr 1; omega, hI2, hid (fun j hj => by
     by_cases e : j = q
     ·subst e; rw [hc'.out]; exact ⟨hd1, hd2⟩
     ·exact hD.out j (by omega)), hB2⟩
    case measure => simp only [World.iterPos, hI2.out, hI.out]; omega
   ·have hb := hid (plB_bad hq hd)
    obtain ⟨c, hc⟩ : ∃ c, (Utf8.decode s q).1 = c := ⟨_, rfl⟩
    have hcb : c < 48 ∨ (48 ≤ c ∧ 57 < c) := by
     by_cases hl : lk s q < 128
     ·rw [dec_low s q hq hl] at hc; simp at hc; omega
     ·have := (dec_high s q hq (by omega)).1; omega
    rw [hc] at hnx
    clear hd hc
    rcases hcb with h | ⟨h, h'⟩
    ·go_wp2
     go_ret2
     exact ⟨by rw [plV_no hb.out, hb.out]; rfl, hB2.out⟩
    ·go_wp2
     go_ret2
     exact ⟨by rw [plV_no hb.out, hb.out]; rfl, hB2.out⟩
  ·obtain rfl : q = s.size := by omega
   have hnx := fun ty => Lib.run_next_end_at (P := Tryd.prog) wr w.heap.size s s.size ty hI.out (by omega)
   have hb := hid (plB_yes (by omega) hs18 h0'.out hD.out)
   go_wp2
   go_ret2
   exact ⟨by rw [plV_yes hb.out, hb.out]; rfl, hB.out⟩
end Go.Proofs.YtgpagaielnemmaaDoor

/-
 HeldKit2, LstKit, AppendApart, one behind the other.
-/
/- A range over an iterator whose caller has a row of its own that grows while the rounds go on: which blocks are not that row is told by a word 'Safe'. -/
namespace Go.Proofs.YtgpagaielnemmaaDoor
open Go.RowKit Go.Shelf
/-- What a round must leave alone: all below n0; of what lies from B on, and of block Bx, what is no cells, and the cells that are safe; they stay safe. -/
def HeldS (Safe : Nat → World → Prop) (n0 B Bx : Nat) (W W' : World) : Prop := Below n0 W W' ∧ W.heap.size ≤ W'.heap.size ∧ (∀ k o, B ≤ k → o.isCells = false → W.heap[k]? = some o → W'.heap[k]? = some o) ∧
 ∀ b cs t, (B ≤ b ∨ b = Bx) → Safe b W → At W b cs t → At W' b cs t ∧ Safe b W'
theorem HeldS.trans {Safe : Nat → World → Prop} {n0 B Bx : Nat} {X Y Z : World} (h : HeldS Safe n0 B Bx X Y) (k : HeldS Safe n0 B Bx Y Z) : HeldS Safe n0 B Bx X Z :=
 ⟨h.1.trans k.1, Nat.le_trans h.2.1 k.2.1, fun i o hi hc ho => k.2.2.1 i o hi hc (h.2.2.1 i o hi hc ho), fun b cs t hb hs ha => let ⟨h1, h2⟩ := h.2.2.2 b cs t hb hs ha; k.2.2.2 b cs t hb h2 h1⟩
theorem HeldS.from {Safe : Nat → World → Prop} {n0 B Bx : Nat} {W W' : World} (h : HeldS Safe n0 B Bx W W') {D : Nat} (hD : B ≤ D) : KeepsFrom D W W' := ⟨h.2.1, fun k o hk ho hc => h.2.2.1 k o (by omega) hc ho⟩
theorem Held.safe {n0 B Bx : Nat} {W W' : World} (h : Held n0 B Bx W W') : HeldS (fun _ _ => True) n0 B Bx W W' := ⟨h.1, h.2.1, fun k o hk _ ho => h.2.2 k o (.inl hk) ho, fun b _ _ hb _ ha => ⟨h.2.2 b _ hb ha, trivial⟩⟩
end Go.Proofs.YtgpagaielnemmaaDoor
/- A list of numbers that a call has made: what is read of it, and what keeps it. -/
namespace Go.Proofs.YtgpagaielnemmaaDoor
open Go.RowKit Go.Shelf
/-- The slice v is of just these numbers; they lie in a block from B on and below G. -/
def Lst (W : World) (v : Value) (B G : Nat) (L : List Nat) : Prop :=
 ∃ (ao : Option Addr) (cap : Nat), v = .slice ao L.length cap ∧ ∀ j p, L[j]? = some p → ∃ g, ao = some ⟨g, 0, none⟩ ∧ B ≤ g ∧ g < G ∧ W.cell? ⟨g, j, none⟩ = some (.int .i64 ((p : Nat) : Int))
theorem Lst.of {W W' : World} {v : Value} {B G : Nat} {L : List Nat} (h : Lst W v B G L) (hh : ∀ g, B ≤ g → g < G → (∃ o, W.heap[g]? = some o ∧ o.isCells = true) → W'.heap[g]? = W.heap[g]?) : Lst W' v B G L := by
 obtain ⟨ao, cap, hv, hc⟩ := h
 refine ⟨ao, cap, hv, fun j p hj => ?_⟩
 obtain ⟨g, h1, h2, h3, h4⟩ := hc j p hj
 have hcell : ∃ o, W.heap[g]? = some o ∧ o.isCells = true := by
  unfold World.cell? at h4
  cases ho : W.heap[g]? with
  | none => simp [ho] at h4
  | some o => exact ⟨o, rfl, by cases o <;> simp_all [Obj.isCells]⟩
 refine ⟨g, h1, h2, h3, ?_⟩
 rw [← h4]
 simp only [World.cell?, hh g h2 h3 hcell]
theorem Lst.kept {W W' : World} {v : Value} {B G n : Nat} {L : List Nat} (h : Lst W v B G L) (hb : Below n W W') (hn : G ≤ n) : Lst W' v B G L := h.of fun g _ hg _ => hb.block g (by omega)
theorem Lst.other {W : World} {v : Value} {B G : Nat} {L : List Nat} (h : Lst W v B G L) {b : Nat} (hb : b < B ∨ G ≤ b) (u : Value) : Lst (W.setCell ⟨b, 0, none⟩ u) v B G L :=
 h.of fun g h1 h2 _ => Below.heap_setCell W ⟨b, 0, none⟩ u g (by show g ≠ b; omega)
theorem Lst.own {W W' : World} {v : Value} {B G : Nat} {L : List Nat} (h : Lst W v B G L) (hG : G ≤ W.heap.size) {row : Option Nat} (hg : W.grownBy W' row) (hr : ∀ r, row = some r → ∃ o : Obj, W.heap[r]? = some o ∧ o.isCells = false) : Lst W' v B G L :=
 h.of fun g _ h2 ⟨o, ho, hc⟩ => hg.block g (by omega) (fun e => by
  obtain ⟨o', ho', hc'⟩ := hr g e.symm
  rw [ho] at ho'; cases ho'; rw [hc] at hc'; cases hc')
theorem Lst.wide {W : World} {v : Value} {B G B' G' : Nat} {L : List Nat} (h : Lst W v B G L) (hB : B' ≤ B) (hG : G ≤ G') : Lst W v B' G' L := by
 obtain ⟨ao, cap, hv, hc⟩ := h
 refine ⟨ao, cap, hv, fun j p hj => ?_⟩
 obtain ⟨g, h1, h2, h3, h4⟩ := hc j p hj
 exact ⟨g, h1, by omega, by omega, h4⟩
end Go.Proofs.YtgpagaielnemmaaDoor
/- An append to a row of numbers: its row is the same block, or a new one; in a fence; a variable that gathers numbers while rounds go on. -/
namespace Go.Proofs.YtgpagaielnemmaaDoor
open Go.RowKit Go.Shelf
section
variable {W W' : World} {m B : Nat} {L : List Nat}
end
end Go.Proofs.YtgpagaielnemmaaDoor

/-
 strings.Builder, as package marks takes it: copyCheck, WriteString, String.
-/
namespace Go.Proofs.YtgpagaielnemmaaDoor
open Go.RowKit Go.Shelf
theorem sizeBd : (Tryd.prog.info? 60).map (·.size) = some 2 := by kernel_rfl
theorem liesBd : liesAt Tryd.prog Tryd.prog.depth 60 (2 / Tryd.prog.cellsOf 60) 0 60 1 = true := by kernel_rfl
theorem infoBy : (Tryd.prog.info? 5).map (fun i => (i.zero, i.size, i.bytes)) = some (some (.int .u8 0), 1, 1) := by kernel_rfl
theorem cellsBy : Tryd.prog.cellsOf 5 = 1 := by kernel_rfl
theorem shapeBd {w : World} {m : Nat} {p v : Value} (h : At w m #[p, v] 60) : w.shape? m = some (60, 2) := by
 have h' : w.heap[m]? = some (.cells #[p, v] 60) := h
 simp [World.shape?, h']
set_option maxRecDepth 100000 in
set_option maxHeartbeats 1000000 in
theorem bcheck_used (m : Nat) (v : Value) (w : World) (h : At w m #[.pointer (some ⟨m, 0, none⟩), v] 60) :
  Calls Tryd.prog 52 #[.pointer (some ⟨m, 0, none⟩)] w fun e w' => e = .returned (.tuple #[]) ∧ w' = w := by
 obtain ⟨j, hj, -⟩ := Option.map_eq_some_iff.1 sizeBd
 have c0 := h.cell 0
 simp only [List.getElem?_toArray, List.getElem?_cons_zero] at c0
 go_enter Tryd.func52, Tryd.ntmps52
 go_wp2
 rw [Lib.run_neq_ptr_same w _ Tryd.underlying57 hj]
 go_wp2
 go_end0
 exact ⟨rfl, rfl⟩
set_option maxRecDepth 100000 in
set_option maxHeartbeats 1000000 in
theorem bcheck_fresh (m : Nat) (v : Value) (w : World) (h : At w m #[.pointer none, v] 60) :
  Calls Tryd.prog 52 #[.pointer (some ⟨m, 0, none⟩)] w fun e w' => e = .returned (.tuple #[]) ∧ w' = w.setCell ⟨m, 0, none⟩ (.pointer (some ⟨m, 0, none⟩)) := by
 obtain ⟨j, hj, hjs⟩ := Option.map_eq_some_iff.1 sizeBd
 have hsh := shapeBd h
 have c0 := h.cell 0
 have f0 := h.frozen 0
 simp only [List.getElem?_toArray, List.getElem?_cons_zero] at c0
 go_enter Tryd.func52, Tryd.ntmps52
 go_wp2
 rw [Lib.run_to_unsafe w ⟨m, 0, none⟩ Tryd.underlying57 Tryd.underlying101 hj (by rw [hjs]; decide) hsh (Nat.zero_lt_succ 1)]
 simp only [Result.andThen]
 rw [Oper.upon_value]
 go_wp2
 rw [run_callFunc_extern Tryd.func60 (by kernel_rfl) (by kernel_rfl) (by kernel_rfl) (e := Extern.AbiNoEscape.same) (by kernel_rfl)]
 rw [Lib.run_noEscape]
 simp only [Result.andThen]
 rw [Oper.upon_value]
 go_wp2
 rw [Lib.run_from_unsafe w ⟨m, 0, none⟩ Tryd.underlying101 Tryd.underlying57 hj hsh liesBd]
 simp only [Result.andThen]
 rw [Oper.upon_value]
 go_wp2
 go_end0
 exact ⟨rfl, rfl⟩
/-- The builder in block m holds these bytes; their row lies from B on. -/
def BdI (W : World) (m B : Nat) (l : List UInt8) : Prop := ∃ p v, At W m #[p, v] 60 ∧ (p = .pointer none ∨ p = .pointer (some ⟨m, 0, none⟩)) ∧ W.ownsRow B 5 1 v l.length (Lib.byteCells l)
/-- Its row isn't block b. -/
def SafeB (m b : Nat) (W : World) : Prop := ∃ p v, At W m #[p, v] 60 ∧ v.ownBlock ≠ some b
section
variable {W W' : World} {m B : Nat} {l : List UInt8}
theorem rowY_block {v : Value} {n : Nat} {xs : List Value} (h : W.ownsRow B 5 1 v n xs) : v.ownBlock = none ∨ ∃ g cur, v.ownBlock = some g ∧ B ≤ g ∧ W.heap[g]? = some (.cells cur 5 (0, 0)) := by
 rcases h.2 with ⟨rfl, _⟩ | ⟨g, cap, cur, rfl, hb, hgb, _⟩
 ·exact .inl rfl
 ·exact .inr ⟨g, cur, rfl, hb, hgb⟩
theorem BdI.kept (h : BdI W m B l) (hb : Below W.heap.size W W') : BdI W' m B l := by
 obtain ⟨p, v, h1, hp, h2⟩ := h
 refine ⟨p, v, h1.keptAll hb, hp, h2.kept (grown_of_below hb) ?_⟩
 rcases rowY_block h2 with e | ⟨g, cur, e, _⟩
 ·exact .inl e
 ·exact .inr (by rw [e]; simp)
theorem BdI.own (h : BdI W m B l) {row : Option Nat} (hg : W.grownBy W' row) (hr : ∀ r, row = some r → ∃ o : Obj, W.heap[r]? = some o ∧ o.isCells = false) : BdI W' m B l := by
 obtain ⟨p, v, h1, hp, h2⟩ := h
 refine ⟨p, v, h1.own hg hr, hp, h2.kept hg ?_⟩
 rcases rowY_block h2 with e | ⟨g, cur, e, _, hgb⟩
 ·exact .inl e
 ·refine .inr fun e' => ?_
  obtain ⟨o, ho, hc⟩ := hr g (by rw [← e', e])
  rw [hgb] at ho
  cases ho
  cases hc
theorem BdI.good (h : BdI W m B l) {g : Nat} (hg : g < B) : (∀ o, SafeB m W.heap.size (W.alloc o)) ∧ SafeB m g W := by
 obtain ⟨p, v, h1, -, h2⟩ := h
 refine ⟨fun o => ⟨p, v, h1.alloc o, fun e => ?_⟩, p, v, h1, fun e => ?_⟩
 ·have := (h2.lt _ e).2; omega
 ·have := (h2.lt _ e).1; omega
theorem BdI.other (h : BdI W m B l) {q : Nat} (hq : q ≠ m) (hqB : q < B) (x : Value) : BdI (W.setCell ⟨q, 0, none⟩ x) m B l := by
 obtain ⟨p, v, h1, hp, h2⟩ := h
 exact ⟨p, v, h1.other (p := ⟨q, 0, none⟩) (fun e => hq e.symm) x, hp, ownsRow_setCell_below h2 (a := ⟨q, 0, none⟩) hqB x⟩
end
/-- What a write does to other blocks. -/
theorem bwrite_core {W w2 : World} {m B n0 Bh g : Nat} {v v' : Value} {n k : Nat} {xs ys : List Value} (hv : At W m #[.pointer (some ⟨m, 0, none⟩), v] 60) (hrow : W.ownsRow B 5 1 v n xs) (hm : m < B) (hn0 : n0 ≤ m) (hBh : m < Bh) (hgm : g ≠ m)
  (hown' : w2.ownsRow B 5 1 v' k ys) (hg : W.grownBy w2 v.ownBlock) (hap : v'.ownBlock = v.ownBlock ∨ ∃ g, v'.ownBlock = some g ∧ W.heap.size ≤ g) :
  At w2 m #[.pointer (some ⟨m, 0, none⟩), v] 60 ∧ At (w2.setCell ⟨m, 1, none⟩ v') m #[.pointer (some ⟨m, 0, none⟩), v'] 60 ∧ (w2.setCell ⟨m, 1, none⟩ v').ownsRow B 5 1 v' k ys ∧ HeldS (SafeB m) n0 Bh g W (w2.setCell ⟨m, 1, none⟩ v') := by
 have hmv : v.ownBlock ≠ some m := fun e => by have := (hrow.lt m e).1; omega
 have hmv' : v'.ownBlock ≠ some m := fun e => by have := (hown'.lt m e).1; omega
 have a1 : At w2 m #[.pointer (some ⟨m, 0, none⟩), v] 60 := (hg.block m hv.lt (fun e => hmv e.symm)).trans hv
 have a2 : At (w2.setCell ⟨m, 1, none⟩ v') m #[.pointer (some ⟨m, 0, none⟩), v'] 60 := by have := a1.set 1 v'; simpa using this
 have hgs := grownBy_setCell' w2 m v'
 have blk : ∀ b, b < W.heap.size → b ≠ m → v.ownBlock ≠ some b → (w2.setCell ⟨m, 1, none⟩ v').heap[b]? = W.heap[b]? := fun b hb hbm hbv =>
  (Below.heap_setCell w2 ⟨m, 1, none⟩ v' b hbm).trans (hg.block b hb (fun e => hbv e.symm))
 have hsz : W.heap.size ≤ (w2.setCell ⟨m, 1, none⟩ v').heap.size := Nat.le_trans hg.size (KeepsOthers.setCell w2 ⟨m, 1, none⟩ v').1
 refine ⟨a1, a2, ownsRow_setCell_below hown' (a := ⟨m, 1, none⟩) hm v', ⟨?_, hsz, fun k o _ hc ho => ?_, fun b cs t hb hs ha => ?_⟩⟩
 ·exact ((Below.refl n0 W).grown hg (by have := hv.lt; omega) (fun b e => by have := (hrow.lt b e).1; omega)).setCell (p := ⟨m, 1, none⟩) hn0 _
 ·have hkl := (Array.getElem?_eq_some_iff.1 ho).1
  rw [blk k hkl (fun e => ?_) (fun e => ?_), ho]
  ·subst e
   have hv' : W.heap[k]? = some (.cells #[.pointer (some ⟨k, 0, none⟩), v] 60) := hv
   rw [ho] at hv'
   cases hv'
   cases hc
  ·rcases rowY_block hrow with e' | ⟨g', cur, e', _, hgb⟩
   ·rw [e'] at e; cases e
   ·rw [e'] at e
    cases e
    rw [ho] at hgb
    cases hgb
    cases hc
 ·obtain ⟨p, u, hu1, hu2⟩ := hs
  have huv : u = v := by
   have h1 : W.heap[m]? = some (.cells #[p, u] 60) := hu1
   have h2 : W.heap[m]? = some (.cells #[.pointer (some ⟨m, 0, none⟩), v] 60) := hv
   rw [h1] at h2
   simp at h2
   exact h2.2
  subst huv
  have hbm : b ≠ m := by rcases hb with h | h <;> omega
  refine ⟨(blk b ha.lt hbm hu2).trans ha, _, v', a2, ?_⟩
  rcases hap with e | ⟨g', e, hle⟩
  ·rw [e]; exact hu2
  ·rw [e]
   intro h
   have := ha.lt
   simp at h
   omega
theorem rowY_slice {W : World} {B n : Nat} {v : Value} {xs : List Value} (h : W.ownsRow B 5 1 v n xs) : ∃ so c, v = .slice so n c := by
 rcases h.2 with ⟨rfl, rfl⟩ | ⟨g, cap, cur, rfl, _⟩
 ·exact ⟨_, _, rfl⟩
 ·exact ⟨_, _, rfl⟩
theorem append_str {w : World} {base n : Nat} {ty : TypeId} {v : Value} {xs : List Value} (hown : w.ownsRow base 5 1 v n xs) (s : ByteArray) (hn : n + s.size ≤ 140737488355328) (hbase : base ≤ w.heap.size) :
  ∃ v' w', (Builtin.append_ #[58, 9] ty #[v, .string s]).run Tryd.prog w = .ok v' w' ∧ w'.ownsRow base 5 1 v' (n + s.size) (xs ++ Lib.strCells s) ∧ w.grownBy w' v.ownBlock ∧ (v'.ownBlock = v.ownBlock ∨ ∃ g, v'.ownBlock = some g ∧ w.heap.size ≤ g) := by
 obtain ⟨i0, hi, hz0, hz1, hz2⟩ := info_parts infoBy
 have hm : n + s.size ≤ maxLen := by unfold maxLen; omega
 obtain ⟨v', w', hr, r1, r2, -⟩ := Lib.run_append_own_string (P := Tryd.prog) w base 58 9 ty 5 i0 Tryd.underlying58 Tryd.underlying9 hi hz0 hz1 hz2 v n xs hown s hm (by omega) hbase
 refine ⟨v', w', hr, r1, r2, ?_⟩
 have new : ∀ {v'' : Value} {w'' : World} {k : Nat} {ys : List Value}, w''.ownsRow w.heap.size 5 1 v'' k ys → v' = v'' → v'.ownBlock = none ∨ ∃ g, v'.ownBlock = some g ∧ w.heap.size ≤ g := by
  rintro v'' w'' k ys ⟨-, ⟨rfl, -⟩ | ⟨g, cap, cur, rfl, hg, -⟩⟩ rfl
  ·exact .inl rfl
  ·exact .inr ⟨g, rfl, hg⟩
 rcases hown.2 with ⟨rfl, rfl⟩ | ⟨g, cap, cur, rfl, hb, hg, hnc, hcm, hcs, htk⟩
 ·obtain ⟨v'', w'', hr2, s1, -, -⟩ := Lib.run_append_own_string (P := Tryd.prog) w w.heap.size 58 9 ty 5 i0 Tryd.underlying58 Tryd.underlying9 hi hz0 hz1 hz2 (.slice none 0 0) 0 [] (World.ownsRow_nil w _ _ _) s hm (by omega) (Nat.le_refl _)
  rw [hr] at hr2
  obtain ⟨rfl, rfl⟩ : v' = v'' ∧ w' = w'' := by simpa using hr2
  exact new s1 rfl
 ·by_cases hgr : n + s.size ≤ cap
  ·have hr2 := Lib.run_append_room_string (P := Tryd.prog) w 58 9 ty 5 i0 Tryd.underlying58 Tryd.underlying9 hi hz1 g n cap cur hg s hgr (by omega)
   rw [hr] at hr2
   obtain ⟨rfl, -⟩ : v' = _ ∧ w' = _ := by simpa using hr2
   exact .inl rfl
  ·have hr2 := Lib.run_append_grow_string (P := Tryd.prog) w 58 9 ty 5 i0 (.int .u8 0) Tryd.underlying58 Tryd.underlying9 hi hz0 ⟨g, 0, none⟩ n cap xs (by rw [hz1]; exact hown.1) (hown.cells (g := g) rfl) s (by omega) (by omega) (by rw [hz2]; have := nextslicecap_le (need := n + s.size) (old := cap) (by omega); omega)
   rw [hr] at hr2
   obtain ⟨rfl, -⟩ : v' = _ ∧ w' = _ := by simpa using hr2
   exact .inr ⟨_, rfl, Nat.le_refl _⟩
theorem wpList_append_str {ops : Array Oper} {rest : List Oper} {o : Oper} {a : Act} {w : World} {Q : Exit → Act → World → Prop} (hgd : o.guard = none) (sl x : Operand)
  (ho : o.op = .call { callee := .builtin .append, args := #[sl, x], argTypes := #[58, 9] }) (base : Nat) (v : Value) (n : Nat) (xs : List Value) (hs : a.eval sl = v) (hown : w.ownsRow base 5 1 v n xs) (s : ByteArray) (hx : a.eval x = .string s)
  (hn : n + s.size ≤ 140737488355328) (hbase : base ≤ w.heap.size)
  (h : ∀ v' w', w'.ownsRow base 5 1 v' (n + s.size) (xs ++ Lib.strCells s) → w.grownBy w' v.ownBlock → (v'.ownBlock = v.ownBlock ∨ ∃ g, v'.ownBlock = some g ∧ w.heap.size ≤ g) → wpList Tryd.prog ops Q rest (a.put o.dst v') w') : wpList Tryd.prog ops Q (o :: rest) a w := by
 refine wpList_plain hgd fun K hK => ?_
 obtain ⟨v', w', hr, h2, h3, h4⟩ := append_str (ty := o.type) hown s hn hbase
 unfold Oper.wp execOp
 simp only [ho, resolve, invoke, builtin, Sem.run_bind, Sem.run_pure, Result.andThen_ok, List.map_toArray, List.map_cons, List.map_nil, hs, hx, hr]
 exact hK _ _ (h v' w' h2 h3 h4)
theorem HeldS.refl_set {m n0 Bh g : Nat} {W : World} {q : Value} (hn0 : n0 ≤ m) (hBh : m < Bh) (hgm : g ≠ m) : HeldS (SafeB m) n0 Bh g W (W.setCell ⟨m, 0, none⟩ q) := by
 refine ⟨(Below.refl n0 W).setCell (p := ⟨m, 0, none⟩) hn0 _, (KeepsOthers.setCell W ⟨m, 0, none⟩ q).1, fun k o hk hc ho => (Below.heap_setCell W ⟨m, 0, none⟩ q k (by show k ≠ m; omega)).trans ho, fun b cs t hb hs ha => ?_⟩
 have hbm : b ≠ m := by rcases hb with h | h <;> omega
 obtain ⟨p', u, hu1, hu2⟩ := hs
 refine ⟨ha.other (p := ⟨m, 0, none⟩) hbm q, q, u, ?_, hu2⟩
 have := hu1.set 0 q
 simpa using this
set_option maxRecDepth 100000 in
set_option maxHeartbeats 2000000 in
theorem bwrite_used (m B : Nat) (v : Value) (l : List UInt8) (s : ByteArray) (hm : m < B) (hn : l.length + s.size ≤ 140737488355328) (w : World) (w0 : World) (h : At w m #[.pointer (some ⟨m, 0, none⟩), v] 60) (hrow : w.ownsRow B 5 1 v l.length (Lib.byteCells l)) (hB : B ≤ w.heap.size)
  (hck : Calls Tryd.prog 52 #[.pointer (some ⟨m, 0, none⟩)] w0 fun e w' => e = .returned (.tuple #[]) ∧ w' = w) (hh : ∀ n0 Bh g, n0 ≤ m → m < Bh → g ≠ m → HeldS (SafeB m) n0 Bh g w0 w) :
  Calls Tryd.prog 35 #[.pointer (some ⟨m, 0, none⟩), .string s] w0 fun e w' => e = .returned (.tuple #[.int .i64 (s.size : Int), .nilIface]) ∧ BdI w' m B (l ++ s.data.toList) ∧ ∀ n0 Bh g, n0 ≤ m → m < Bh → g ≠ m → HeldS (SafeB m) n0 Bh g w0 w' := by
 have hck' := hid hck
 have hh' := hid hh
 have c0 := h.cell 0
 have c1 := h.cell 1
 simp only [List.getElem?_toArray, List.getElem?_cons_zero, List.getElem?_cons_succ] at c0 c1
 have h' := hid h
 have hrow' := hid hrow
 clear hck h hrow hh
 go_enter Tryd.func35, Tryd.ntmps35
 go_wp2_with fail
 refine Calls.mono hck'.out ?_
 rintro e w1 ⟨rfl, hw1⟩
 obtain rfl := hw1.symm
 go_wp2_with (at_builtin; refine wpList_append_str rfl _ _ rfl B v _ _ rfl hrow'.out s rfl hn hB ?_; intro v' w2 hown2 hg hap; obtain ⟨a1, a2, a3, -⟩ := bwrite_core (n0 := m) (Bh := m + 1) (g := m + 1) h'.out hrow'.out hm (Nat.le_refl _) (Nat.lt_succ_self _) (Nat.succ_ne_self _) hown2 hg hap; have a4 := fun n0 Bh g (e1 : n0 ≤ m) (e2 : m < Bh) (e3 : g ≠ m) => (bwrite_core (n0 := n0) (Bh := Bh) (g := g) h'.out hrow'.out hm e1 e2 e3 hown2 hg hap).2.2.2; have d1 := a1.cell 1; have g1 := a1.frozen 1; have d0 := a1.cell 0; simp only [List.getElem?_toArray, List.getElem?_cons_zero, List.getElem?_cons_succ] at d1 d0; have b2 := hid a2; have b3 := hid a3; have b4 := hid a4; obtain ⟨so', c', rfl⟩ := rowY_slice hown2; clear a1 a2 a3 a4 hg hap hown2 c0 c1)
 refine bodyPost_ret (v := .tuple #[.int .i64 (s.size : Int), .nilIface]) (by simp [results, Tryd.results35, go_sem]) rfl ?_
 refine ⟨rfl, ⟨_, _, b2.out, .inr rfl, ?_⟩, fun n0 Bh g e1 e2 e3 => (hh'.out n0 Bh g e1 e2 e3).trans (b4.out n0 Bh g e1 e2 e3)⟩
 have h3 := b3.out
 rw [Lib.strCells_eq, ← Lib.byteCells_append] at h3
 rw [show (l ++ s.data.toList).length = l.length + s.size by rw [List.length_append, Array.length_toList]; rfl]
 exact h3
theorem bwrite_calls (m B : Nat) (l : List UInt8) (s : ByteArray) (hm : m < B) (hn : l.length + s.size ≤ 140737488355328) (w : World) (h : BdI w m B l) (hB : B ≤ w.heap.size) :
  Calls Tryd.prog 35 #[.pointer (some ⟨m, 0, none⟩), .string s] w fun e w' => e = .returned (.tuple #[.int .i64 (s.size : Int), .nilIface]) ∧ BdI w' m B (l ++ s.data.toList) ∧ ∀ n0 Bh g, n0 ≤ m → m < Bh → g ≠ m → HeldS (SafeB m) n0 Bh g w w' := by
 obtain ⟨p, v, h1, rfl | rfl, h2⟩ := h
 ·have a1 : At (w.setCell ⟨m, 0, none⟩ (.pointer (some ⟨m, 0, none⟩))) m #[.pointer (some ⟨m, 0, none⟩), v] 60 := by have := h1.set 0 (.pointer (some ⟨m, 0, none⟩)); simpa using this
  exact bwrite_used m B v l s hm hn _ w a1 (ownsRow_setCell_below h2 (a := ⟨m, 0, none⟩) hm _) (Nat.le_trans hB (KeepsOthers.setCell w ⟨m, 0, none⟩ (.pointer (some ⟨m, 0, none⟩))).1) (bcheck_fresh m v w h1) (fun _ _ _ e1 e2 e3 => HeldS.refl_set e1 e2 e3)
 ·exact bwrite_used m B v l s hm hn w w h1 h2 hB (bcheck_used m v w h1) (fun _ _ _ _ _ _ => ⟨Below.refl _ _, Nat.le_refl _, fun _ _ _ _ h => h, fun _ _ _ _ hs ha => ⟨ha, hs⟩⟩)
theorem freeze_other (w : World) (p : Addr) (n D : Nat) (h : D ≠ p.block) : (w.freeze p n).heap[D]? = w.heap[D]? := by
 unfold World.freeze
 split
 ·rfl
 ·simp [Array.getElem?_modify, Ne.symm h]
set_option maxRecDepth 100000 in
set_option maxHeartbeats 2000000 in
theorem bstring_nil (m n0 : Nat) (p : Value) (w : World) (h : At w m #[p, .slice none 0 0] 60) :
  Calls Tryd.prog 37 #[.pointer (some ⟨m, 0, none⟩)] w fun e w' => e = .returned (.string ⟨#[]⟩) ∧ Below n0 w w' ∧ ∀ (D : Nat) (o : Obj), o.isCells = false → w.heap[D]? = some o → w'.heap[D]? = some o := by
 have hUS := fun (W : World) (q : Option Addr) => Lib.run_unsafeString_none (P := Tryd.prog) W 88 3 9 q
 have c1 : w.cell? ⟨m, 1, none⟩ = some (.slice none 0 0) := h.cell 1
 have c1' : w.drew.cell? ⟨m, 1, none⟩ = some (.slice none 0 0) := c1
 have hSD : (Builtin.unsafeSliceData_ #[58] 88 #[.slice none 0 0]).run Tryd.prog w.drew = .ok (.pointer none) w.drew := rfl
 go_enter Tryd.func37, Tryd.ntmps37
 go_wp2
 go_region
 all_goals (go_wp2; go_ret; exact ⟨rfl, Below.drew (Below.refl n0 w), fun _ _ _ h => h⟩)
set_option maxRecDepth 100000 in
set_option maxHeartbeats 2000000 in
theorem bstring_room (m n0 g cap : Nat) (p : Value) (hc0 : cap ≠ 0) (w : World) (h : At w m #[p, .slice (some ⟨g, 0, none⟩) 0 cap] 60) :
  Calls Tryd.prog 37 #[.pointer (some ⟨m, 0, none⟩)] w fun e w' => e = .returned (.string ⟨#[]⟩) ∧ Below n0 w w' ∧ ∀ (D : Nat) (o : Obj), o.isCells = false → w.heap[D]? = some o → w'.heap[D]? = some o := by
 have hUS := fun (W : World) (q : Option Addr) => Lib.run_unsafeString_none (P := Tryd.prog) W 88 3 9 q
 have c1 : w.cell? ⟨m, 1, none⟩ = some (.slice (some ⟨g, 0, none⟩) 0 cap) := h.cell 1
 have c1' : w.drew.cell? ⟨m, 1, none⟩ = some (.slice (some ⟨g, 0, none⟩) 0 cap) := c1
 have hSD : (Builtin.unsafeSliceData_ #[58] 88 #[.slice (some ⟨g, 0, none⟩) 0 cap]).run Tryd.prog w.drew = .ok (.pointer (some ⟨g, 0, none⟩)) w.drew := Lib.run_unsafeSliceData_row _ _ _ _ _ _ hc0
 clear hc0
 go_enter Tryd.func37, Tryd.ntmps37
 go_wp2
 go_region
 all_goals (go_wp2; go_ret; exact ⟨rfl, Below.drew (Below.refl n0 w), fun _ _ _ h => h⟩)
set_option maxRecDepth 100000 in
set_option maxHeartbeats 2000000 in
theorem bstring_noroom (m n0 g : Nat) (p : Value) (cur : Array Value) (w : World) (hB : n0 ≤ w.heap.size) (h : At w m #[p, .slice (some ⟨g, 0, none⟩) 0 0] 60) (hg : w.heap[g]? = some (.cells cur 5 (0, 0))) :
  Calls Tryd.prog 37 #[.pointer (some ⟨m, 0, none⟩)] w fun e w' => e = .returned (.string ⟨#[]⟩) ∧ Below n0 w w' ∧ ∀ (D : Nat) (o : Obj), o.isCells = false → w.heap[D]? = some o → w'.heap[D]? = some o := by
 have hUS := fun (W : World) (q : Option Addr) => Lib.run_unsafeString_none (P := Tryd.prog) W 88 3 9 q
 have hlt := h.lt
 have c1 : w.cell? ⟨m, 1, none⟩ = some (.slice (some ⟨g, 0, none⟩) 0 0) := h.cell 1
 have c1' : w.drew.cell? ⟨m, 1, none⟩ = some (.slice (some ⟨g, 0, none⟩) 0 0) := c1
 have hSD : (Builtin.unsafeSliceData_ #[58] 88 #[.slice (some ⟨g, 0, none⟩) 0 0]).run Tryd.prog w.drew = .ok (.pointer (some ⟨w.drew.heap.size, 0, none⟩)) (w.drew.alloc (.view ⟨g, 0, none⟩ 5)) :=
  Lib.run_unsafeSliceData_zero w.drew _ _ 5 Tryd.underlying88 ⟨g, 0, none⟩ 0 (5, cur.size) (by have hg' : w.drew.heap[g]? = some (.cells cur 5 (0, 0)) := hg; simp [World.shape?, hg'])
 have c2 : (w.drew.alloc (.view ⟨g, 0, none⟩ 5)).cell? ⟨m, 1, none⟩ = some (.slice (some ⟨g, 0, none⟩) 0 0) := (h.drew.alloc (.view ⟨g, 0, none⟩ 5)).cell 1
 have c3 : (w.alloc (.view ⟨g, 0, none⟩ 5)).drew.cell? ⟨m, 1, none⟩ = some (.slice (some ⟨g, 0, none⟩) 0 0) := c2
 clear h hg
 go_enter Tryd.func37, Tryd.ntmps37
 go_wp2
 go_region
 all_goals (go_wp2; go_ret; exact ⟨rfl, (Below.drew (Below.refl n0 w)).alloc hB _, fun D o _ h => (Below.heap_alloc w.drew _ D (Array.getElem?_eq_some_iff.1 h).1).trans h⟩)
set_option maxRecDepth 100000 in
set_option maxHeartbeats 2000000 in
theorem bstring_some (m B n0 : Nat) (p v : Value) (l : List UInt8) (h0 : l ≠ []) (w : World) (h : At w m #[p, v] 60) (hown : w.ownsRow B 5 1 v l.length (Lib.byteCells l)) (hn0 : n0 ≤ B) :
  Calls Tryd.prog 37 #[.pointer (some ⟨m, 0, none⟩)] w fun e w' => e = .returned (.string ⟨l.toArray⟩) ∧ Below n0 w w' ∧ ∀ (D : Nat) (o : Obj), o.isCells = false → w.heap[D]? = some o → w'.heap[D]? = some o := by
 have hl0 : l.length ≠ 0 := by simpa using h0
 obtain ⟨g, cap, cur, rfl, hbg, hg, hnc, hcm, hcs, htake⟩ : ∃ g cap cur, v = .slice (some ⟨g, 0, none⟩) l.length cap ∧ B ≤ g ∧ w.heap[g]? = some (.cells cur 5 (0, 0)) ∧ l.length ≤ cap ∧ cap ≤ maxLen ∧ cur.size = cap * 1 ∧ cur.toList.take (l.length * 1) = Lib.byteCells l := by
  rcases hown.2 with ⟨_, hz⟩ | ⟨g, cap, cur, hv, r⟩
  ·exact absurd hz hl0
  ·exact ⟨g, cap, cur, hv, r⟩
 have c1 : w.cell? ⟨m, 1, none⟩ = some (.slice (some ⟨g, 0, none⟩) l.length cap) := h.cell 1
 have c1' : w.drew.cell? ⟨m, 1, none⟩ = some (.slice (some ⟨g, 0, none⟩) l.length cap) := c1
 have hSD : (Builtin.unsafeSliceData_ #[58] 88 #[.slice (some ⟨g, 0, none⟩) l.length cap]).run Tryd.prog w.drew = .ok (.pointer (some ⟨g, 0, none⟩)) w.drew := Lib.run_unsafeSliceData_row _ _ _ _ _ _ (by omega)
 have hUS : (Builtin.unsafeString_ #[88, 3] 9 #[.pointer (some ⟨g, 0, none⟩), .int .i64 l.length]).run Tryd.prog w.drew = .ok (.string ⟨l.toArray⟩) (w.drew.freeze ⟨g, 0, none⟩ l.length) := by
  refine Lib.run_unsafeString_row w.drew 88 3 9 5 Tryd.underlying88 cellsBy g cur.size (by have hg' : w.drew.heap[g]? = some (.cells cur 5 (0, 0)) := hg; simp [World.shape?, hg']) l h0 (by omega) (by unfold maxLen at hcm; omega) ?_
  intro j x hx
  exact hown.cells (g := g) rfl j (.int .u8 x.toNat) (by simp [Lib.byteCells, hx])
 have hgn : n0 ≤ g := Nat.le_trans hn0 hbg
 have hg' := hg
 clear h hown hg hcs htake h0 hl0
 go_enter Tryd.func37, Tryd.ntmps37
 go_wp2
 go_region
 all_goals (go_wp2; go_ret; exact ⟨rfl, Lib.below_freeze (Below.drew (Below.refl n0 w)) (p := ⟨g, 0, none⟩) hgn _, fun D o hc h => (freeze_other w.drew ⟨g, 0, none⟩ _ D (fun e => by rw [show D = g from e] at h; rw [h] at hg'; cases hg'; cases hc)).trans h⟩)
theorem bstring_calls (m B n0 : Nat) (l : List UInt8) (w : World) (h : BdI w m B l) (hn0 : n0 ≤ B) (hB : B ≤ w.heap.size) :
  Calls Tryd.prog 37 #[.pointer (some ⟨m, 0, none⟩)] w fun e w' => e = .returned (.string ⟨l.toArray⟩) ∧ Below n0 w w' ∧ ∀ (D : Nat) (o : Obj), o.isCells = false → w.heap[D]? = some o → w'.heap[D]? = some o := by
 obtain ⟨p, v, h1, -, hown⟩ := h
 cases l with
 | nil =>
  rcases hown.2 with ⟨rfl, _⟩ | ⟨g, cap, cur, rfl, hbg, hg, _, _, _, _⟩
  ·exact bstring_nil m n0 p w h1
  ·by_cases hc0 : cap = 0
   ·subst hc0
    exact bstring_noroom m n0 g p cur w (by omega) h1 hg
   ·exact bstring_room m n0 g cap p hc0 w h1
 | cons x r => exact bstring_some m B n0 p v (x :: r) (by simp) w h1 hown hn0
end Go.Proofs.YtgpagaielnemmaaDoor
