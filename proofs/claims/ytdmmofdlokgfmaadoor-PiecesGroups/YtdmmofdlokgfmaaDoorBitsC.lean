/-
  JoinWalk, ChangedBad, ChangeWalk, MakeWalk, JoinOps, GivesKit, PrefixOnly, TurnOps, Len64Walk, AskKit.
-/
import Derived.Test.YtdmmofdlokgfmaaDoorBitsB
import Derived.Shelf.Abstract
import Derived.Test.YtdmmofdlokgfmaaDoorKitA
import Derived.Test.YtdmmofdlokgfmaaDoorBitsA
import Derived.Test.YtdmmofdlokgfmaaDoorWordsA
import Derived.Test.YtdmmofdlokgfmaaDoorKit
import Derived.Test.YtdmmofdlokgfmaaDoorRows
import Derived.Lib.Strings
import Derived.Lib.Slices
import Derived.Lib.Small
import Derived.Lib.Walk
import Derived.Lib.BitFns
import Derived.Lib.ItoaNum
import Derived.Test.YtdmmofdlokgfmaaDoorWordsB
/-
  What bitmap.joined, And, Or, Xor and Minus answer.
-/
namespace Go.Proofs.YtdmmofdlokgfmaaDoor
open Go.RowKit

theorem formedB (n : Int) (k : Nat) (X : Nat → Nat) : ∃ B : Bool, Hid (formed n k X ↔ B = true) := by
  by_cases h : formed n k X
  · exact ⟨true, ⟨fun _ => rfl, fun _ => h⟩⟩
  · exact ⟨false, ⟨fun h' => (h h').elim, fun h' => by cases h'⟩⟩

/-- What a call that puts two rows together answers. -/
def Joined (o : Nat → Nat → Nat) (n m : Int) (k l : Nat) (X Y : Nat → Nat) (w : World) (e : Ending) (w' : World) : Prop :=
  Below w.heap.size w w' ∧
    ((¬ (formed n k X ∧ formed m l Y) ∧ e = .returned (.tuple #[bv 0 none 0 0, .int .i64 1])) ∨
     ((formed n k X ∧ formed m l Y) ∧ n ≠ m ∧ e = .returned (.tuple #[bv 0 none 0 0, .int .i64 2])) ∨
     ((formed n k X ∧ formed m l Y) ∧ n = m ∧ ∃ g, w.heap.size ≤ g ∧ At w' g (rowCells k (fun j => o (X j) (Y j))) 22 ∧ e = .returned (.tuple #[bv n (some ⟨g, 0, none⟩) k k, .int .i64 0])))

/-- The function that is handed in puts two words together. -/
def Puts (gf : Nat) (o : Nat → Nat → Nat) : Prop := (∀ args w, (callFunc gf args).run Tryd.prog w = .ok (.enter gf args) w) ∧
  ∀ (x y : Nat) (w : World), x < 18446744073709551616 → y < 18446744073709551616 → Calls Tryd.prog gf #[.int .u64 (x : Int), .int .u64 (y : Int)] w fun e w' => e = .returned (.int .u64 ((o x y : Nat) : Int)) ∧ w' = w

end Go.Proofs.YtdmmofdlokgfmaaDoor

/-
  What bitmap.changed and bitmap.Not answer of a row that isn't one.
-/
namespace Go.Proofs.YtdmmofdlokgfmaaDoor
open Go.RowKit

end Go.Proofs.YtdmmofdlokgfmaaDoor

/-
  What bitmap.changed answers of a row of bits.
-/
namespace Go.Proofs.YtdmmofdlokgfmaaDoor
open Go.RowKit Go.Shelf

/-- The function that is handed in makes of the row's words, one behind the other, these; S is what it keeps, in block m. -/
def Turns (n0 n1 m gf : Nat) (lb : Array Value) (k : Nat) (X C : Nat → Nat) (S : Nat → World → Prop) : Prop := (∀ args w, (callFunc gf args).run Tryd.prog w = .ok (.enter gf args) w) ∧
  (∀ j, j < k → C j < 18446744073709551616) ∧ (∀ j w1 w2, S j w1 → Below n1 w1 w2 → S j w2) ∧
  ∀ (j : Nat) (w1 : World), j < k → S j w1 → n1 ≤ w1.heap.size → Calls Tryd.prog gf (#[.int .u64 ((X j : Nat) : Int)] ++ lb) w1 fun e w' => e = .returned (.int .u64 ((C j : Nat) : Int)) ∧ S (j + 1) w' ∧ Below n0 w1 w' ∧ ∀ b cs t, b ≠ m → At w1 b cs t → At w' b cs t

end Go.Proofs.YtdmmofdlokgfmaaDoor

/-
  What bitmap.Make answers.
-/
namespace Go.Proofs.YtdmmofdlokgfmaaDoor
open Go.RowKit

/-- The places may be set in a row of so many bits. -/
def good (n : Int) (k : Nat) (Z : Nat → Int) : Prop := 0 ≤ n ∧ n ≤ 16777216 ∧ ∀ t, t < k → 0 ≤ Z t ∧ Z t < n
theorem or_pow {x r : Nat} (hx : x < 18446744073709551616) (hr : r < 64) : bits BinOp.or IntKind.u64 (x : Int) (IntKind.u64.wrap ((2 : Int) ^ r)) = ((x ||| 2 ^ r : Nat) : Int) := by
  rw [(put_bit (X := 0) (Nat.pow_pos (by decide)) hr).1]
  exact u64_or_nat x (2 ^ r) hx (by have := Nat.pow_lt_pow_right (a := 2) (by decide) hr; omega)

/-- What Make answers: the row, or a refusal. -/
def Made (w : World) (n : Int) (k : Nat) (Z : Nat → Int) (e : Ending) (w' : World) : Prop :=
  Below w.heap.size w w' ∧ ((¬ good n k Z ∧ e = .returned (.tuple #[bv 0 none 0 0, .int .i64 2])) ∨
    (good n k Z ∧ ∃ g K, Hid (K = need n.toNat) ∧ w.heap.size ≤ g ∧ At w' g (rowCells K (rowOf (setTo Z k) n.toNat)) 22 ∧ e = .returned (.tuple #[bv n (some ⟨g, 0, none⟩) K K, .int .i64 0])))

end Go.Proofs.YtdmmofdlokgfmaaDoor

/-
  What bitmap.And, Or, Xor and Minus answer.
-/
namespace Go.Proofs.YtdmmofdlokgfmaaDoor
open Go.RowKit Go.Shelf

end Go.Proofs.YtdmmofdlokgfmaaDoor

/-
  What calls that answer a row of bits and an error number leave: the row lies in a block of its own.
-/
namespace Go.Proofs.YtdmmofdlokgfmaaDoor
open Go.RowKit

/-- The slice's words lie in a block of their own, from B on; or there are none. -/
def Own (B : Nat) (w : World) (so : Option Addr) (r : Nat) (Z : Nat → Nat) : Prop := (so = none ∧ r = 0) ∨ ∃ g, so = some ⟨g, 0, none⟩ ∧ B ≤ g ∧ At w g (rowCells r Z) 22
theorem Own.kept {B : Nat} {w w' : World} {so : Option Addr} {r : Nat} {Z : Nat → Nat} (h : Own B w so r Z) (hb : Below w.heap.size w w') : Own B w' so r Z := by
  rcases h with h | ⟨g, h1, h2, h3⟩
  · exact .inl h
  · exact .inr ⟨g, h1, h2, h3.keptAll hb⟩
theorem Own.mono {B B' : Nat} {w : World} {so : Option Addr} {r : Nat} {Z : Nat → Nat} (h : Own B w so r Z) (hB : B' ≤ B) : Own B' w so r Z := by
  rcases h with h | ⟨g, h1, h2, h3⟩
  · exact .inl h
  · exact .inr ⟨g, h1, by omega, h3⟩
theorem Own.wds {B : Nat} {w : World} {so : Option Addr} {r : Nat} {Z : Nat → Nat} (h : Own B w so r Z) (hZ : ∀ j, j < r → Z j < 18446744073709551616) : Wds w so r Z := by
  rcases h with ⟨h1, h2⟩ | ⟨g, rfl, h2, h3⟩
  · intro j hj; omega
  · exact h3.wds hZ (Nat.le_refl _)
theorem Own.other {B : Nat} {w : World} {so : Option Addr} {r : Nat} {Z : Nat → Nat} (h : Own B w so r Z) {p : Addr} (hp : p.block < B) (v : Value) : Own B (w.setCell p v) so r Z := by
  rcases h with h | ⟨g, h1, h2, h3⟩
  · exact .inl h
  · exact .inr ⟨g, h1, h2, h3.other (by omega) v⟩
/-- A row and an error number come back. -/
def Gives (E q : Int) (r : Nat) (Z : Nat → Nat) (w : World) (e : Ending) (w' : World) : Prop := Below w.heap.size w w' ∧ ∃ so, Own w.heap.size w' so r Z ∧ e = .returned (.tuple #[bv q so r r, .int .i64 E])
theorem Gives.congr {E q : Int} {r : Nat} {Z Z' : Nat → Nat} {w w' : World} {e : Ending} (h : Gives E q r Z w e w') (hZ : ∀ j, j < r → Z j = Z' j) : Gives E q r Z' w e w' := by
  obtain ⟨h1, so, h2, h3⟩ := h
  refine ⟨h1, so, ?_, h3⟩
  rcases h2 with h | ⟨g, h4, h5, h6⟩
  · exact .inl h
  · exact .inr ⟨g, h4, h5, rowCells_congr hZ ▸ h6⟩
theorem Joined.gives {o : Nat → Nat → Nat} {n m : Int} {k l : Nat} {X Y : Nat → Nat} {w w' : World} {e : Ending} (h : Joined o n m k l X Y w e w') {E q : Int} {r : Nat} (hE : joinE n m k l X Y E q r) : Gives E q r (fun j => o (X j) (Y j)) w e w' := by
  obtain ⟨hb, h⟩ := h
  refine ⟨hb, ?_⟩
  rcases hE with ⟨h1, rfl, rfl, rfl⟩ | ⟨h1, h2, rfl, rfl, rfl⟩ | ⟨h1, h2, rfl, rfl, rfl⟩ <;> rcases h with ⟨h3, rfl⟩ | ⟨h3, h4, rfl⟩ | ⟨h3, h4, g, hg, hrow, rfl⟩
  · exact ⟨none, .inl ⟨rfl, rfl⟩, rfl⟩
  · exact (h1 h3).elim
  · exact (h1 h3).elim
  · exact (h3 h1).elim
  · exact ⟨none, .inl ⟨rfl, rfl⟩, rfl⟩
  · exact (h2 h4).elim
  · exact (h3 h1).elim
  · exact (h4 h2).elim
  · exact ⟨_, .inr ⟨g, rfl, hg, hrow⟩, rfl⟩
/-- Make's errors. -/
def makeE (n : Int) (k : Nat) (Z : Nat → Int) (E q : Int) (r : Nat) : Prop := (¬ good n k Z ∧ E = 2 ∧ q = 0 ∧ r = 0) ∨ (good n k Z ∧ E = 0 ∧ q = n ∧ r = need n.toNat)
theorem makeE_ex (n : Int) (k : Nat) (Z : Nat → Int) : ∃ E q r, makeE n k Z E q r := by
  by_cases h : good n k Z
  · exact ⟨0, n, need n.toNat, .inr ⟨h, rfl, rfl, rfl⟩⟩
  · exact ⟨2, 0, 0, .inl ⟨h, rfl, rfl, rfl⟩⟩
theorem Made.gives {n : Int} {k : Nat} {Z : Nat → Int} {w w' : World} {e : Ending} (h : Made w n k Z e w') {E q : Int} {r : Nat} (hE : makeE n k Z E q r) : Gives E q r (rowOf (setTo Z k) n.toNat) w e w' := by
  obtain ⟨hb, h⟩ := h
  refine ⟨hb, ?_⟩
  rcases hE with ⟨h1, rfl, rfl, rfl⟩ | ⟨h1, rfl, rfl, rfl⟩ <;> rcases h with ⟨h3, rfl⟩ | ⟨h3, g, K, hK, hg, hrow, rfl⟩
  · exact ⟨none, .inl ⟨rfl, rfl⟩, rfl⟩
  · exact (h1 h3).elim
  · exact (h3 h1).elim
  · obtain rfl := hK.out
    exact ⟨_, .inr ⟨g, rfl, hg, hrow⟩, rfl⟩
end Go.Proofs.YtdmmofdlokgfmaaDoor

/-
  What words.Prefix comes to.
-/
namespace Go.Proofs.YtdmmofdlokgfmaaDoor
open Go.RowKit

theorem bits_xor_nat (a b : Nat) (ha : a < 18446744073709551616) (hb : b < 18446744073709551616) : bits .xor .u64 (a : Int) (b : Int) = ((a ^^^ b : Nat) : Int) := by
  have hx : a ^^^ b < 2 ^ 64 := Nat.xor_lt_two_pow (n := 64) ha hb
  have h1 : (BitVec.ofInt 64 (a : Int)).toNat = a := by
    rw [BitVec.ofInt_natCast, BitVec.toNat_ofNat]; exact Nat.mod_eq_of_lt ha
  have h2 : (BitVec.ofInt 64 (b : Int)).toNat = b := by
    rw [BitVec.ofInt_natCast, BitVec.toNat_ofNat]; exact Nat.mod_eq_of_lt hb
  show IntKind.u64.wrap ((BitVec.ofInt 64 (a : Int) ^^^ BitVec.ofInt 64 (b : Int)).toNat : Int) = _
  rw [BitVec.toNat_xor, h1, h2, IntKind.wrap_u64]
  omega
end Go.Proofs.YtdmmofdlokgfmaaDoor

/-
  What bitmap.Not and bitmap.Prefix answer.
-/
namespace Go.Proofs.YtdmmofdlokgfmaaDoor
open Go.RowKit Go.Shelf

theorem not_eq {x : Nat} (h : x < 18446744073709551616) : bits BinOp.xor IntKind.u64 (if IntKind.u64.signed = true then -1 else IntKind.u64.max) (x : Int) = ((18446744073709551615 ^^^ x : Nat) : Int) := by
  rw [show (if IntKind.u64.signed = true then (-1 : Int) else IntKind.u64.max) = ((18446744073709551615 : Nat) : Int) by decide]
  exact bits_xor_nat 18446744073709551615 x (by decide) h
theorem not_bit (v i : Nat) (hi : i < 64) : (18446744073709551615 ^^^ v).testBit i = !v.testBit i := by
  rw [Nat.testBit_xor, show (18446744073709551615 : Nat) = 2 ^ 64 - 1 by decide, Nat.testBit_two_pow_sub_one]
  simp [hi]

/-- What Prefix has kept behind j words. -/
def odW (X : Nat → Nat) (j : Nat) : Nat := if oddB X (64 * j) then 18446744073709551615 else 0
theorem odW_lt (X : Nat → Nat) (j : Nat) : odW X j < 18446744073709551616 := by unfold odW; split <;> decide
theorem odW_bit (X : Nat → Nat) (j r : Nat) (hr : r < 64) : (odW X j).testBit r = oddB X (64 * j) := by
  unfold odW
  split
  · rename_i h
    rw [show (18446744073709551615 : Nat) = 2 ^ 64 - 1 by decide, Nat.testBit_two_pow_sub_one, h]
    simp [hr]
  · rename_i h
    have : oddB X (64 * j) = false := by simpa using h
    rw [this]; simp
theorem prefC_bit (X : Nat → Nat) (j r : Nat) (hr : r < 64) : (prefW (X j) ^^^ odW X j).testBit r = oddB X (64 * j + r + 1) := by
  rw [Nat.testBit_xor, prefW_bit _ _ hr, odW_bit _ _ _ hr, show 64 * j + r + 1 = 64 * j + (r + 1) by omega, oddB_word X j (r + 1) (by omega), Bool.xor_comm]
theorem odW_next {X : Nat → Nat} {j p : Nat} (hp : prefW (X j) ^^^ odW X j = p) : IntKind.u64.wrap (-((p : Int) / 2 ^ 63)) = ((odW X (j + 1) : Nat) : Int) := by
  have hl : p < 18446744073709551616 := hp ▸ Nat.xor_lt_two_pow (n := 64) (prefW_lt _) (odW_lt _ _)
  have hb := prefC_bit X j 63 (by decide)
  rw [hp, show 64 * j + 63 + 1 = 64 * (j + 1) by omega, Nat.testBit_eq_decide_div_mod_eq] at hb
  have e : ((p : Int) / 2 ^ 63) = ((p / 2 ^ 63 : Nat) : Int) := by simp
  rw [e, IntKind.wrap_u64, odW, ← hb]
  simp only [Nat.reducePow, decide_eq_true_eq]
  split <;> omega

end Go.Proofs.YtdmmofdlokgfmaaDoor

/-
  What math/bits.Len64 answers.
-/
namespace Go.Proofs.YtdmmofdlokgfmaaDoor

/-- The rest's length, and how far it was moved. -/
theorem len_part (s : Nat) {x y : Int} (h0 : 0 ≤ x) (hx : x < 18446744073709551616) (hs : s = 0 ∨ (2 : Int) ^ s ≤ x) (hy : y = x / 2 ^ s) (hy1 : y < 256) : (s : Int) + Lib.len8 y = (Lib.bitLen x.toNat : Int) ∧ 0 ≤ Lib.len8 y ∧ Lib.len8 y ≤ 8 := by
  obtain ⟨X, rfl⟩ := Int.eq_ofNat_of_zero_le h0
  obtain ⟨Y, hY⟩ : ∃ Y, Y = X / 2 ^ s := ⟨_, rfl⟩
  have e : y = (Y : Int) := by rw [hy, hY]; simp
  subst e
  have l8 := Lib.bitLen_le8' (Y : Int) (by omega) (by omega)
  rw [Lib.len8_of _ (by omega) (by omega)]
  rw [Int.toNat_natCast] at l8
  rw [Int.toNat_natCast, Int.toNat_natCast]
  refine ⟨?_, by omega, by omega⟩
  rw [hY]
  rcases hs with rfl | h
  · simp
  · have hn : 2 ^ s ≤ X := by
      have : ((2 ^ s : Nat) : Int) ≤ (X : Int) := by simpa using h
      exact Int.ofNat_le.1 this
    have := Lib.bitLen_shift s X hn (by omega)
    omega
/-- Where the highest set bit is. -/
theorem len_high {x K : Nat} (hK : Lib.bitLen x = K) (h0 : x ≠ 0) (hx : x < 18446744073709551616) : 1 ≤ K ∧ 2 ^ (K - 1) ≤ x ∧ x < 2 ^ (K - 1 + 1) := by
  have h := Lib.bitLenAux_bounds 64 x hx h0
  have e : Lib.bitLenAux 64 x = K := hK
  rw [e] at h
  exact ⟨h.1, h.2.1, by rw [show K - 1 + 1 = K by omega]; exact h.2.2⟩
end Go.Proofs.YtdmmofdlokgfmaaDoor

/-
  What the calls that ask a row of bits have in common.
-/
namespace Go.Proofs.YtdmmofdlokgfmaaDoor
open Go.RowKit Go.Shelf

end Go.Proofs.YtdmmofdlokgfmaaDoor
