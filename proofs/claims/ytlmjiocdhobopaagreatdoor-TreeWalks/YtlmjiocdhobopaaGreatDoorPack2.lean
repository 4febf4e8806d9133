/-
  Texts of mine that others lean on, one behind the other.
-/
import Derived.Test.YtlmjiocdhobopaaGreatDoorPack1
import Derived.Lib.ItoaNum
import Derived.Lib.TrimByte
import Derived.Lib.OthersKept
import Derived.Lib.SpaceUEq
import Derived.Laws.AppendOwn
import Derived.ArgAppend
import Derived.RangeFuncBox
import Derived.Lib.Builder
import Derived.Lib.AppendStr
import Derived.Lib.UnsafeStr
import Derived.Laws.Externs
import Derived.Shelf.RegionOpenPlain
import Derived.Shelf.Strings.Search2
import Derived.Test.YtlmjiocdhobopaaGreatDoorProg
import Derived.KernelRfl
import Derived.Lib.IndexBytes
/-
 The parts of a value in the order in which tree.Walk tells them, each with its pointer.
-/
namespace Go.Proofs.YtlmjiocdhobopaaGreatDoor
open Go.RowKit Go.Shelf
/-- How a pointer tells one of the Kids. -/
def stpK (k : Int) (ks : List ByteArray) (i : Nat) : List UInt8 := if k = 5 then Lib.itoa (i : Int) else wrN ((ks[i]?).getD ⟨#[]⟩).data.toList
mutual
/-- A value and its parts, each with its pointer. -/
def prV (p : List UInt8) : Vt → List (List UInt8 × Vt)
 | .mk k b r t ks vs => (p, .mk k b r t ks vs) :: prL p k ks 0 vs
def prL (p : List UInt8) (k : Int) (ks : List ByteArray) : Nat → List Vt → List (List UInt8 × Vt)
 | _, [] => []
 | i, v :: vs => prV (p ++ [47] ++ stpK k ks i) v ++ prL p k ks (i + 1) vs
end
theorem prL_app (p : List UInt8) (k : Int) (ks : List ByteArray) : ∀ (a b : List Vt) (i : Nat), prL p k ks i (a ++ b) = prL p k ks i a ++ prL p k ks (i + a.length) b
 | [], b, i => by simp [prL]
 | v :: a, b, i => by
  rw [List.cons_append, prL, prL, prL_app p k ks a b (i + 1), List.length_cons, show i + 1 + a.length = i + (a.length + 1) by omega]
  exact (List.append_assoc _ _ _).symm
theorem prL_take {p : List UInt8} {k : Int} {ks : List ByteArray} {vs : List Vt} {i : Nat} {u : Vt} (h : vs[i]? = some u) :
  prL p k ks 0 (vs.take (i + 1)) = prL p k ks 0 (vs.take i) ++ prV (p ++ [47] ++ stpK k ks i) u := by
 have hi : i < vs.length := (List.getElem?_eq_some_iff.1 h).1
 rw [List.take_add_one, h, Option.toList_some, prL_app, List.length_take, Nat.min_eq_left (by omega), Nat.zero_add]
 simp [prL]
mutual
theorem prV_len : ∀ (t : Vt) (p : List UInt8), (prV p t).length = cntV t
 | .mk k b r t ks vs, p => by rw [prV, List.length_cons, prL_len vs p k ks 0, cntV]
theorem prL_len : ∀ (vs : List Vt) (p : List UInt8) (k : Int) (ks : List ByteArray) (i : Nat), (prL p k ks i vs).length = cntL vs
 | [], _, _, _, _ => by simp [prL, cntL]
 | v :: vs, p, k, ks, i => by rw [prL, List.length_append, prV_len v, prL_len vs, cntL]
end
/-- What stands in a list from a place on. -/
def PartAt (L : List (List UInt8 × Vt)) (r : Nat) (M : List (List UInt8 × Vt)) : Prop := ∀ (i : Nat) (x : List UInt8 × Vt), M[i]? = some x → L[r + i]? = some x
theorem PartAt.head {L : List (List UInt8 × Vt)} {r : Nat} {p : List UInt8} {k : Int} {b : Bool} {rw' t : ByteArray} {ks : List ByteArray} {vs : List Vt} (h : PartAt L r (prV p (.mk k b rw' t ks vs))) : L[r]? = some (p, .mk k b rw' t ks vs) := by
 have := h 0 (p, .mk k b rw' t ks vs) (by rw [prV]; rfl)
 simpa using this
theorem PartAt.kid {L : List (List UInt8 × Vt)} {r : Nat} {p : List UInt8} {k : Int} {b : Bool} {rw' t : ByteArray} {ks : List ByteArray} {vs : List Vt} (h : PartAt L r (prV p (.mk k b rw' t ks vs))) {i : Nat} {u : Vt} (hu : vs[i]? = some u) :
  PartAt L (r + 1 + (prL p k ks 0 (vs.take i)).length) (prV (p ++ [47] ++ stpK k ks i) u) := by
 intro j x hx
 have := h (1 + (prL p k ks 0 (vs.take i)).length + j) x ?_
 ·rw [← this]; congr 1; omega
 ·rw [prV, show 1 + (prL p k ks 0 (vs.take i)).length + j = ((prL p k ks 0 (vs.take i)).length + j) + 1 by omega, List.getElem?_cons_succ]
  have e : vs = vs.take i ++ (u :: vs.drop (i + 1)) := by
   conv => lhs; rw [← List.take_append_drop i vs, List.drop_eq_getElem_cons (List.getElem?_eq_some_iff.1 hu).1, (List.getElem?_eq_some_iff.1 hu).2]
  have hi : i < vs.length := (List.getElem?_eq_some_iff.1 hu).1
  have hl : (vs.take i).length = i := by rw [List.length_take]; omega
  have e2 : prL p k ks 0 vs = prL p k ks 0 (vs.take i) ++ (prV (p ++ [47] ++ stpK k ks i) u ++ prL p k ks (i + 1) (vs.drop (i + 1))) := by
   conv => lhs; rw [e, prL_app, hl, Nat.zero_add, prL]
  have hj : j < (prV (p ++ [47] ++ stpK k ks i) u).length := (List.getElem?_eq_some_iff.1 hx).1
  rw [e2, List.getElem?_append_right (by omega), show (prL p k ks 0 (vs.take i)).length + j - (prL p k ks 0 (vs.take i)).length = j by omega, List.getElem?_append_left hj]
  exact hx
mutual
/-- Each part of it can be told by a pointer. -/
def okP : Vt → Prop
 | .mk k _ _ _ ks vs => (∀ i, i < vs.length → k = 5 ∨ (k ≠ 5 ∧ ∃ s, ks[i]? = some s ∧ s.size ≤ 2147483640)) ∧ vs.length ≤ 1099511627776 ∧ okPL vs
def okPL : List Vt → Prop
 | [] => True
 | v :: vs => okP v ∧ okPL vs
end
theorem okPL_get : ∀ {vs : List Vt} {i : Nat} {u : Vt}, okPL vs → vs[i]? = some u → okP u
 | [], i, u, _, h => by simp at h
 | v :: vs, i, u, hs, h => by
  unfold okPL at hs
  cases i with
  | zero => simp at h; subst h; exact hs.1
  | succ i => exact okPL_get hs.2 (by simpa using h)
end Go.Proofs.YtlmjiocdhobopaaGreatDoor

/-
 What a number's text is, and what decimal it is of (mathematics alone).
-/
namespace Go.Proofs.YtlmjiocdhobopaaGreatDoor
open Go.RowKit
/-- The byte at a place; 0 beyond the end. -/
def lk (s : ByteArray) (i : Nat) : Nat := if h : i < s.size then (s[i]'h).toNat else 0
theorem lk_at (s : ByteArray) (i : Nat) (h : i < s.size) : lk s i = (s[i]'h).toNat := dif_pos h
theorem lk_out (s : ByteArray) (i : Nat) (h : s.size ≤ i) : lk s i = 0 := dif_neg (by omega)
theorem lk_in {s : ByteArray} {i : Nat} (h : 0 < lk s i) : i < s.size := by
 rcases Nat.lt_or_ge i s.size with h1 | h1
 ·exact h1
 ·rw [lk_out s i h1] at h; omega
/-- Is it a digit? -/
def dgB (x : Nat) : Bool := decide (48 ≤ x ∧ x ≤ 57)
theorem dgB_iff (x : Nat) : dgB x = true ↔ 48 ≤ x ∧ x ≤ 57 := by simp [dgB]
theorem dg_in {s : ByteArray} {i : Nat} (h : dgB (lk s i) = true) : i < s.size := lk_in (by have := (dgB_iff _).1 h; omega)
def rnF (s : ByteArray) : Nat → Nat → Nat
 | 0, a => a
 | n + 1, a => if dgB (lk s a) then rnF s n (a + 1) else a
/-- The place behind all digits from a place on. -/
def rn (s : ByteArray) (a : Nat) : Nat := rnF s (s.size - a) a
theorem rnF_ge (s : ByteArray) : ∀ n a, a ≤ rnF s n a
 | 0, a => Nat.le_refl a
 | n + 1, a => by
  unfold rnF
  split
  ·have := rnF_ge s n (a + 1); omega
  ·exact Nat.le_refl a
theorem rnF_le (s : ByteArray) : ∀ n a, rnF s n a ≤ a + n
 | 0, a => Nat.le_refl a
 | n + 1, a => by
  unfold rnF
  split
  ·have := rnF_le s n (a + 1); omega
  ·omega
theorem rnF_dig (s : ByteArray) : ∀ n a i, a ≤ i → i < rnF s n a → dgB (lk s i) = true
 | 0, a, i, h1, h2 => by unfold rnF at h2; omega
 | n + 1, a, i, h1, h2 => by
  unfold rnF at h2
  split at h2
  ·rename_i h
   rcases Nat.eq_or_lt_of_le h1 with rfl | h3
   ·exact h
   ·exact rnF_dig s n (a + 1) i h3 h2
  ·omega
theorem rnF_end (s : ByteArray) : ∀ n a, s.size ≤ a + n → dgB (lk s (rnF s n a)) = false
 | 0, a, h => by
  unfold rnF
  rw [lk_out s a (by omega)]
  rfl
 | n + 1, a, h => by
  unfold rnF
  split
  ·exact rnF_end s n (a + 1) (by omega)
  ·rename_i h1
   simpa using h1
theorem rn_ge (s : ByteArray) (a : Nat) : a ≤ rn s a := rnF_ge s _ a
theorem rn_le (s : ByteArray) (a : Nat) (h : a ≤ s.size) : rn s a ≤ s.size := by have := rnF_le s (s.size - a) a; unfold rn; omega
theorem rn_dig (s : ByteArray) (a i : Nat) (h1 : a ≤ i) (h2 : i < rn s a) : dgB (lk s i) = true := rnF_dig s _ a i h1 h2
theorem rn_end (s : ByteArray) (a : Nat) : dgB (lk s (rn s a)) = false := rnF_end s _ a (by omega)
theorem rn_lt (s : ByteArray) (a : Nat) (h : dgB (lk s a) = true) : a < rn s a := by
 rcases Nat.eq_or_lt_of_le (rn_ge s a) with h1 | h1
 ·have := rn_end s a
  rw [← h1, h] at this
  cases this
 ·exact h1
/-- The parts of a number's text. -/
structure Num where
 neg : Bool
 wh : ByteArray
 be : ByteArray
 dn : Bool
 pw : ByteArray
/-- Where the whole part begins and ends; where the part behind the point ends; where the exponent's digits begin. -/
def scA (s : ByteArray) (p : Nat) : Nat := if lk s p = 45 then p + 1 else p
def scB (s : ByteArray) (p : Nat) : Nat := if lk s (scA s p) = 48 then scA s p + 1 else rn s (scA s p)
def scC (s : ByteArray) (p : Nat) : Nat := if lk s (scB s p) = 46 then rn s (scB s p + 1) else scB s p
def scF (s : ByteArray) (p : Nat) : Nat := if lk s (scC s p + 1) = 43 ∨ lk s (scC s p + 1) = 45 then scC s p + 2 else scC s p + 1
/-- Is there an exponent? -/
def scX (s : ByteArray) (p : Nat) : Bool := decide (lk s (scC s p) = 101 ∨ lk s (scC s p) = 69)
def scH (s : ByteArray) (p : Nat) : Nat := if scX s p then rn s (scF s p) else scC s p
def scNeg (s : ByteArray) (p : Nat) : Bool := decide (lk s p = 45)
def scDn (s : ByteArray) (p : Nat) : Bool := scX s p && decide (lk s (scC s p + 1) = 45)
def scBe (s : ByteArray) (p : Nat) : ByteArray := if lk s (scB s p) = 46 then s.extract (scB s p + 1) (scC s p) else ⟨#[]⟩
def scPw (s : ByteArray) (p : Nat) : ByteArray := if scX s p then s.extract (scF s p) (scH s p) else ⟨#[]⟩
/-- The parts (none: something is wanting), and the place behind them (the place of the byte that can't stand there). -/
def scanS (s : ByteArray) (p : Nat) : Option Num × Nat :=
 if dgB (lk s (scA s p)) = false then (none, scA s p)
 else if lk s (scB s p) = 46 ∧ dgB (lk s (scB s p + 1)) = false then (none, scB s p + 1)
 else if scX s p = true ∧ dgB (lk s (scF s p)) = false then (none, scF s p)
 else (some ⟨scNeg s p, s.extract (scA s p) (scB s p), scBe s p, scDn s p, scPw s p⟩, scH s p)
/-- The number that some digits are. -/
def pwN (l : List UInt8) : Nat := l.foldl (fun n b => 10 * n + (b.toNat - 48)) 0
/-- A decimal: its sign, digits, exponent. -/
structure Dec where
 neg : Bool
 ds : List UInt8
 ex : Int
/-- Its digits, without the noughts ahead. -/
def allS (n : Num) : List UInt8 := Lib.trimLeftB (n.wh.data.toList ++ n.be.data.toList) 48
def digS (n : Num) : List UInt8 := Lib.trimRightB (allS n) 48
def powS (n : Num) : Int := if n.dn then -(pwN n.pw.data.toList : Int) else pwN n.pw.data.toList
def expS (n : Num) : Int := powS n - (n.be.size : Int) + (((allS n).length - (digS n).length : Nat) : Int)
def inB (x : Int) : Bool := decide (-1073741824 ≤ x ∧ x ≤ 1073741824)
/-- The decimal of a number's parts; none: too big. -/
def worthS (n : Num) : Option Dec :=
 if allS n = [] then some ⟨n.neg, [], 0⟩
 else if inB (expS n) then some ⟨n.neg, digS n, expS n⟩ else none
def zeroD : Dec := ⟨false, [], 0⟩
/-- What Read answers: the decimal, the end, the number of the refusal. -/
def readS (s : ByteArray) (p : Nat) : Dec × Nat × Nat :=
 match (scanS s p).1 with
 | none => (zeroD, (scanS s p).2, 110)
 | some n => match worthS n with
  | none => (zeroD, (scanS s p).2, 111)
  | some d => (d, (scanS s p).2, 0)
def ofS (s : ByteArray) : Dec × Nat := if (readS s 0).2.1 = s.size then ((readS s 0).1, (readS s 0).2.2) else (zeroD, 110)
def decV (d : Dec) : Value := .agg #[.bool d.neg, .string ⟨d.ds.toArray⟩, .int .i64 d.ex]
theorem trimL_length (l : List UInt8) (c : UInt8) : (Lib.trimLeftB l c).length ≤ l.length := by
 unfold Lib.trimLeftB
 exact (List.dropWhile_sublist _).length_le
theorem trimR_length (l : List UInt8) (c : UInt8) : (Lib.trimRightB l c).length ≤ l.length := by
 unfold Lib.trimRightB
 rw [List.length_reverse]
 have := (List.dropWhile_sublist (fun x => x == c) (l := l.reverse)).length_le
 rwa [List.length_reverse] at this
/-- Noughts cut off twice are noughts cut off. -/
theorem trimL_twice (a b : List UInt8) (c : UInt8) : Lib.trimLeftB (Lib.trimLeftB a c ++ b) c = Lib.trimLeftB (a ++ b) c := by
 unfold Lib.trimLeftB
 induction a with
 | nil => rfl
 | cons x r ih =>
  by_cases h : (x == c) = true
  ·simp only [List.dropWhile_cons, h, if_true, List.cons_append]
   exact ih
  ·simp only [List.dropWhile_cons, h, List.cons_append]
   simp [h]
end Go.Proofs.YtlmjiocdhobopaaGreatDoor

/-
 A name as a place: what the program says (a range over a text).
-/
namespace Go.Proofs.YtlmjiocdhobopaaGreatDoor
open Go.RowKit Go.Shelf
/-- Behind the first byte of a character there are no bytes below 128. -/
theorem lk_get20 (s : ByteArray) (i : Nat) : (s.get! i).toNat = lk s i := by
 unfold lk
 by_cases h : i < s.size
 ·rw [dif_pos h, ← get_at s i h]; rfl
 ·rw [dif_neg h]
  have : s.get! i = 0 := by
   show s.data[i]! = 0
   rw [getElem!_neg s.data i (by simpa using h)]
   rfl
  rw [this]; rfl
theorem dec_conts (s : ByteArray) (i : Nat) (h : i < s.size) : i + (Utf8.decode s i).2 ≤ s.size ∧ ∀ j, i < j → j < i + (Utf8.decode s i).2 → 128 ≤ lk s j := by
 have hc := Lib.decodeN_conts (s.size - i) (s.get! i).toNat (s.get! (i + 1)).toNat (s.get! (i + 2)).toNat (s.get! (i + 3)).toNat
 rw [← Lib.decode_at s i, lk_get20, lk_get20, lk_get20] at hc
 obtain ⟨c1, c2, c3, c4⟩ := hc
 obtain ⟨D, hD⟩ : ∃ D, (Utf8.decode s i).2 = D := ⟨_, rfl⟩
 rw [hD] at c1 c2 c3 c4 ⊢
 refine ⟨?_, fun j hj1 hj2 => ?_⟩
 ·rcases Nat.lt_or_ge D 2 with h2 | h2
  ·omega
  ·have := (c1 h2).2
   rcases Nat.lt_or_ge D 3 with h3 | h3
   ·omega
   ·have := (c2 h3).2
    rcases Nat.lt_or_ge D 4 with h4 | h4
    ·omega
    ·have := (c3 h4).2
     omega
 ·have hj : j = i + 1 ∨ j = i + 2 ∨ j = i + 3 := by omega
  rcases hj with rfl | rfl | rfl
  ·have := (c1 (by omega)).1; omega
  ·have := (c2 (by omega)).1; omega
  ·have := (c3 (by omega)).1; omega
end Go.Proofs.YtlmjiocdhobopaaGreatDoor

/-
 HeldKit2, LstKit, AppendApart, one behind the other.
-/
/- A range over an iterator whose caller has a row of its own that grows while the rounds go on: which blocks are not that row is told by a word 'Safe'. -/
namespace Go.Proofs.YtlmjiocdhobopaaGreatDoor
open Go.RowKit Go.Shelf
/-- What a round must leave alone: all below n0; of what lies from B on, and of block Bx, what is no cells, and the cells that are safe; they stay safe. -/
def HeldS (Safe : Nat → World → Prop) (n0 B Bx : Nat) (W W' : World) : Prop := Below n0 W W' ∧ W.heap.size ≤ W'.heap.size ∧ (∀ k o, B ≤ k → o.isCells = false → W.heap[k]? = some o → W'.heap[k]? = some o) ∧
 ∀ b cs t, (B ≤ b ∨ b = Bx) → Safe b W → At W b cs t → At W' b cs t ∧ Safe b W'
theorem HeldS.trans {Safe : Nat → World → Prop} {n0 B Bx : Nat} {X Y Z : World} (h : HeldS Safe n0 B Bx X Y) (k : HeldS Safe n0 B Bx Y Z) : HeldS Safe n0 B Bx X Z :=
 ⟨h.1.trans k.1, Nat.le_trans h.2.1 k.2.1, fun i o hi hc ho => k.2.2.1 i o hi hc (h.2.2.1 i o hi hc ho), fun b cs t hb hs ha => let ⟨h1, h2⟩ := h.2.2.2 b cs t hb hs ha; k.2.2.2 b cs t hb h2 h1⟩
theorem HeldS.from {Safe : Nat → World → Prop} {n0 B Bx : Nat} {W W' : World} (h : HeldS Safe n0 B Bx W W') {D : Nat} (hD : B ≤ D) : KeepsFrom D W W' := ⟨h.2.1, fun k o hk ho hc => h.2.2.1 k o (by omega) hc ho⟩
theorem Held.safe {n0 B Bx : Nat} {W W' : World} (h : Held n0 B Bx W W') : HeldS (fun _ _ => True) n0 B Bx W W' := ⟨h.1, h.2.1, fun k o hk _ ho => h.2.2 k o (.inl hk) ho, fun b _ _ hb _ ha => ⟨h.2.2 b _ hb ha, trivial⟩⟩
end Go.Proofs.YtlmjiocdhobopaaGreatDoor
/- A list of numbers that a call has made: what is read of it, and what keeps it. -/
namespace Go.Proofs.YtlmjiocdhobopaaGreatDoor
open Go.RowKit Go.Shelf
/-- The numbers as cells. -/
def ints (L : List Nat) : List Value := L.map fun p => .int .i64 ((p : Nat) : Int)
/-- The slice v is of just these numbers; they lie in a block from B on and below G. -/
def Lst (W : World) (v : Value) (B G : Nat) (L : List Nat) : Prop :=
 ∃ (ao : Option Addr) (cap : Nat), v = .slice ao L.length cap ∧ ∀ j p, L[j]? = some p → ∃ g, ao = some ⟨g, 0, none⟩ ∧ B ≤ g ∧ g < G ∧ W.cell? ⟨g, j, none⟩ = some (.int .i64 ((p : Nat) : Int))
theorem Lst.of {W W' : World} {v : Value} {B G : Nat} {L : List Nat} (h : Lst W v B G L) (hh : ∀ g, B ≤ g → g < G → (∃ o, W.heap[g]? = some o ∧ o.isCells = true) → W'.heap[g]? = W.heap[g]?) : Lst W' v B G L := by
 obtain ⟨ao, cap, hv, hc⟩ := h
 refine ⟨ao, cap, hv, fun j p hj => ?_⟩
 obtain ⟨g, h1, h2, h3, h4⟩ := hc j p hj
 have hcell : ∃ o, W.heap[g]? = some o ∧ o.isCells = true := by
  unfold World.cell? at h4
  cases ho : W.heap[g]? with
  | none => simp [ho] at h4
  | some o => exact ⟨o, rfl, by cases o <;> simp_all [Obj.isCells]⟩
 refine ⟨g, h1, h2, h3, ?_⟩
 rw [← h4]
 simp only [World.cell?, hh g h2 h3 hcell]
theorem Lst.kept {W W' : World} {v : Value} {B G n : Nat} {L : List Nat} (h : Lst W v B G L) (hb : Below n W W') (hn : G ≤ n) : Lst W' v B G L := h.of fun g _ hg _ => hb.block g (by omega)
theorem Lst.other {W : World} {v : Value} {B G : Nat} {L : List Nat} (h : Lst W v B G L) {b : Nat} (hb : b < B ∨ G ≤ b) (u : Value) : Lst (W.setCell ⟨b, 0, none⟩ u) v B G L :=
 h.of fun g h1 h2 _ => Below.heap_setCell W ⟨b, 0, none⟩ u g (by show g ≠ b; omega)
theorem Lst.own {W W' : World} {v : Value} {B G : Nat} {L : List Nat} (h : Lst W v B G L) (hG : G ≤ W.heap.size) {row : Option Nat} (hg : W.grownBy W' row) (hr : ∀ r, row = some r → ∃ o : Obj, W.heap[r]? = some o ∧ o.isCells = false) : Lst W' v B G L :=
 h.of fun g _ h2 ⟨o, ho, hc⟩ => hg.block g (by omega) (fun e => by
  obtain ⟨o', ho', hc'⟩ := hr g e.symm
  rw [ho] at ho'; cases ho'; rw [hc] at hc'; cases hc')
theorem Lst.wide {W : World} {v : Value} {B G B' G' : Nat} {L : List Nat} (h : Lst W v B G L) (hB : B' ≤ B) (hG : G ≤ G') : Lst W v B' G' L := by
 obtain ⟨ao, cap, hv, hc⟩ := h
 refine ⟨ao, cap, hv, fun j p hj => ?_⟩
 obtain ⟨g, h1, h2, h3, h4⟩ := hc j p hj
 exact ⟨g, h1, by omega, by omega, h4⟩
end Go.Proofs.YtlmjiocdhobopaaGreatDoor
/- An append to a row of numbers: its row is the same block, or a new one; in a fence; a variable that gathers numbers while rounds go on. -/
namespace Go.Proofs.YtlmjiocdhobopaaGreatDoor
open Go.RowKit Go.Shelf
/-- Variable m's row isn't block b. -/
def SafeI (m b : Nat) (W : World) : Prop := ∃ v, At W m #[v] 88 ∧ v.ownBlock ≠ some b
/-- Variable m gathers these numbers; their row lies from B on. -/
def GathI (W : World) (m B : Nat) (L : List Nat) : Prop := ∃ v, At W m #[v] 88 ∧ W.ownsRow B 3 1 v L.length (ints L)
section
variable {W W' : World} {m B : Nat} {L : List Nat}
theorem rowI_block {v : Value} {n : Nat} {xs : List Value} (h : W.ownsRow B 3 1 v n xs) : v.ownBlock = none ∨ ∃ g cur, v.ownBlock = some g ∧ B ≤ g ∧ W.heap[g]? = some (.cells cur 3 (0, 0)) := by
 rcases h.2 with ⟨rfl, _⟩ | ⟨g, cap, cur, rfl, hb, hgb, _⟩
 ·exact .inl rfl
 ·exact .inr ⟨g, cur, rfl, hb, hgb⟩
theorem GathI.kept (h : GathI W m B L) (hb : Below W.heap.size W W') : GathI W' m B L := by
 obtain ⟨v, h1, h2⟩ := h
 refine ⟨v, h1.keptAll hb, h2.kept (grown_of_below hb) ?_⟩
 rcases rowI_block h2 with e | ⟨g, cur, e, _⟩
 ·exact .inl e
 ·exact .inr (by rw [e]; simp)
theorem GathI.own (h : GathI W m B L) {row : Option Nat} (hg : W.grownBy W' row) (hr : ∀ r, row = some r → ∃ o : Obj, W.heap[r]? = some o ∧ o.isCells = false) : GathI W' m B L := by
 obtain ⟨v, h1, h2⟩ := h
 refine ⟨v, h1.own hg hr, h2.kept hg ?_⟩
 rcases rowI_block h2 with e | ⟨g, cur, e, _, hgb⟩
 ·exact .inl e
 ·refine .inr fun e' => ?_
  obtain ⟨o, ho, hc⟩ := hr g (by rw [← e', e])
  rw [hgb] at ho
  cases ho
  cases hc
/-- New blocks are not the row; nor is one ahead of B. -/
theorem GathI.good (h : GathI W m B L) {g : Nat} (hg : g < B) : (∀ o, SafeI m W.heap.size (W.alloc o)) ∧ SafeI m g W := by
 obtain ⟨v, h1, h2⟩ := h
 refine ⟨fun o => ⟨v, h1.alloc o, fun e => ?_⟩, v, h1, fun e => ?_⟩
 ·have := (h2.lt _ e).2; omega
 ·have := (h2.lt _ e).1; omega
end
end Go.Proofs.YtlmjiocdhobopaaGreatDoor

/-
 strings.Builder, as package marks takes it: copyCheck, WriteString, String.
-/
namespace Go.Proofs.YtlmjiocdhobopaaGreatDoor
open Go.RowKit Go.Shelf
/-- The builder in block m holds these bytes; their row lies from B on. -/
def BdI (W : World) (m B : Nat) (l : List UInt8) : Prop := ∃ p v, At W m #[p, v] 79 ∧ (p = .pointer none ∨ p = .pointer (some ⟨m, 0, none⟩)) ∧ W.ownsRow B 5 1 v l.length (Lib.byteCells l)
/-- Its row isn't block b. -/
def SafeB (m b : Nat) (W : World) : Prop := ∃ p v, At W m #[p, v] 79 ∧ v.ownBlock ≠ some b
section
variable {W W' : World} {m B : Nat} {l : List UInt8}
theorem rowY_block {v : Value} {n : Nat} {xs : List Value} (h : W.ownsRow B 5 1 v n xs) : v.ownBlock = none ∨ ∃ g cur, v.ownBlock = some g ∧ B ≤ g ∧ W.heap[g]? = some (.cells cur 5 (0, 0)) := by
 rcases h.2 with ⟨rfl, _⟩ | ⟨g, cap, cur, rfl, hb, hgb, _⟩
 ·exact .inl rfl
 ·exact .inr ⟨g, cur, rfl, hb, hgb⟩
theorem BdI.kept (h : BdI W m B l) (hb : Below W.heap.size W W') : BdI W' m B l := by
 obtain ⟨p, v, h1, hp, h2⟩ := h
 refine ⟨p, v, h1.keptAll hb, hp, h2.kept (grown_of_below hb) ?_⟩
 rcases rowY_block h2 with e | ⟨g, cur, e, _⟩
 ·exact .inl e
 ·exact .inr (by rw [e]; simp)
theorem BdI.own (h : BdI W m B l) {row : Option Nat} (hg : W.grownBy W' row) (hr : ∀ r, row = some r → ∃ o : Obj, W.heap[r]? = some o ∧ o.isCells = false) : BdI W' m B l := by
 obtain ⟨p, v, h1, hp, h2⟩ := h
 refine ⟨p, v, h1.own hg hr, hp, h2.kept hg ?_⟩
 rcases rowY_block h2 with e | ⟨g, cur, e, _, hgb⟩
 ·exact .inl e
 ·refine .inr fun e' => ?_
  obtain ⟨o, ho, hc⟩ := hr g (by rw [← e', e])
  rw [hgb] at ho
  cases ho
  cases hc
theorem BdI.good (h : BdI W m B l) {g : Nat} (hg : g < B) : (∀ o, SafeB m W.heap.size (W.alloc o)) ∧ SafeB m g W := by
 obtain ⟨p, v, h1, -, h2⟩ := h
 refine ⟨fun o => ⟨p, v, h1.alloc o, fun e => ?_⟩, p, v, h1, fun e => ?_⟩
 ·have := (h2.lt _ e).2; omega
 ·have := (h2.lt _ e).1; omega
theorem BdI.other (h : BdI W m B l) {q : Nat} (hq : q ≠ m) (hqB : q < B) (x : Value) : BdI (W.setCell ⟨q, 0, none⟩ x) m B l := by
 obtain ⟨p, v, h1, hp, h2⟩ := h
 exact ⟨p, v, h1.other (p := ⟨q, 0, none⟩) (fun e => hq e.symm) x, hp, ownsRow_setCell_below h2 (a := ⟨q, 0, none⟩) hqB x⟩
end
end Go.Proofs.YtlmjiocdhobopaaGreatDoor

/-
 strings.Cut at a ~; what a raw name means, by the program: tilde, meant.
-/
namespace Go.Proofs.YtlmjiocdhobopaaGreatDoor
open Go.RowKit Go.Shelf
/-- The text of these bytes. -/
def mkL (l : List UInt8) : ByteArray := ⟨l.toArray⟩
theorem mkL_data (s : ByteArray) : mkL s.data.toList = s := by unfold mkL; simp
theorem mkL_size (l : List UInt8) : (mkL l).size = l.length := by show l.toArray.size = _; simp
theorem data_mkL (l : List UInt8) : (mkL l).data.toList = l := by unfold mkL; simp
theorem lk_mkL (l : List UInt8) (i : Nat) (x : UInt8) (h : l[i]? = some x) : lk (mkL l) i = x.toNat := by
 have hi : i < l.length := (List.getElem?_eq_some_iff.1 h).1
 rw [lk_at _ i (by rw [mkL_size]; exact hi)]
 congr 1
 have h2 := (List.getElem?_eq_some_iff.1 h).2
 exact h2
theorem idx_no : ∀ (l : List UInt8) (c : UInt8), (∀ x ∈ l, x ≠ c) → Lib.indexByte l c = -1
 | [], _, _ => rfl
 | b :: l, c, h => by
  have h1 : (b == c) = false := beq_eq_false_iff_ne.2 (h b (by simp))
  have h2 := idx_no l c (fun x hx => h x (by simp [hx]))
  unfold Lib.indexByte
  rw [h1, h2]
  rfl
theorem idx_yes : ∀ (a : List UInt8) (c : UInt8) (r : List UInt8), (∀ x ∈ a, x ≠ c) → Lib.indexByte (a ++ c :: r) c = (a.length : Int)
 | [], c, r, _ => by
  show Lib.indexByte (c :: r) c = 0
  unfold Lib.indexByte
  rw [beq_self_eq_true]
  rfl
 | b :: a, c, r, h => by
  have h1 : (b == c) = false := beq_eq_false_iff_ne.2 (h b (by simp))
  have h2 := idx_yes a c r (fun x hx => h x (by simp [hx]))
  rw [List.cons_append]
  unfold Lib.indexByte
  rw [h1, h2]
  have h3 : ((a.length : Int) == -1) = false := beq_eq_false_iff_ne.2 (by omega)
  rw [h3]
  simp
/-- What a ~ and the byte behind it mean. -/
def tlC : List UInt8 → Nat × Bool
 | [] => (0, false)
 | d :: _ => if d = 49 then (47, true) else if d = 48 then (126, true) else (0, false)
end Go.Proofs.YtlmjiocdhobopaaGreatDoor
