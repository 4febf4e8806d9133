/-
  BlockMath, BlockClass, BlockOnly, BlockOf.
-/
import Derived.Test.YtlckhiflhnlgpaaGreatDoorRows
import Derived.WalkKit
import Derived.WalkSpells
import Derived.WalkLawsBesides
import Derived.BigQuiet
import Derived.Deep.QuietTactic
import Derived.Outline
import Derived.Test.YtlckhiflhnlgpaaGreatDoorKit
import Derived.Deep.RegionHeld3
import Derived.Test.YtlckhiflhnlgpaaGreatDoorKitA
/-
  Plain facts on words as rows of bits: no program, no memory.
-/
namespace Go.Proofs.YtlckhiflhnlgpaaGreatDoor

/-- The word of n bits of which bit i says whether q holds of i. -/
def mk (q : Nat → Bool) : Nat → Nat
  | 0 => 0
  | n + 1 => mk q n ||| if q n then 2 ^ n else 0
theorem mk_succ (q : Nat → Bool) (n : Nat) : mk q (n + 1) = mk q n ||| if q n then 2 ^ n else 0 := rfl
theorem mk_bit (q : Nat → Bool) (n i : Nat) : (mk q n).testBit i = (decide (i < n) && q i) := by
  induction n with
  | zero => simp [mk]
  | succ n ih =>
    rw [mk_succ, Nat.testBit_or, ih]
    by_cases hq : q n = true
    · rw [if_pos hq, Nat.testBit_two_pow]
      by_cases h : n = i
      · subst h; simp [hq]
      · by_cases h2 : i < n
        · simp [h2, h, Nat.lt_succ_of_lt h2]
        · have h3 : ¬ i < n + 1 := by omega
          simp [h2, h, h3]
    · rw [if_neg hq]
      by_cases h : i = n
      · subst h; simp [hq]
      · by_cases h2 : i < n
        · simp [h2, Nat.lt_succ_of_lt h2]
        · have h3 : ¬ i < n + 1 := by omega
          simp [h2, h3]
theorem mk_lt (q : Nat → Bool) (n : Nat) : mk q n < 2 ^ n := by
  apply Nat.lt_pow_two_of_testBit
  intro i hi
  rw [mk_bit]
  simp; omega
theorem mk_lt64 (q : Nat → Bool) (n : Nat) (h : n ≤ 64) : mk q n < 18446744073709551616 :=
  Nat.lt_of_lt_of_le (mk_lt q n) (by have : (2 : Nat) ^ n ≤ 2 ^ 64 := Nat.pow_le_pow_right (by decide) h; simpa using this)
theorem mk_congr (q r : Nat → Bool) (n : Nat) (h : ∀ i, i < n → q i = r i) : mk q n = mk r n := by
  induction n with
  | zero => rfl
  | succ n ih => rw [mk_succ, mk_succ, ih (fun i hi => h i (by omega)), h n (by omega)]

end Go.Proofs.YtlckhiflhnlgpaaGreatDoor

/-
  What block.only, block.Join, block.Minus and block.Not answer.
-/
namespace Go.Proofs.YtlckhiflhnlgpaaGreatDoor
open Go.RowKit

/-- Four cells that hold a class's words. -/
def clsArr (c : Nat → Nat) : Array Value := Array.ofFn (n := 4) fun j => .int .u64 ((c j.val : Nat) : Int)
theorem clsArr_lit (c : Nat → Nat) : clsArr c = #[.int .u64 ((c 0 : Nat) : Int), .int .u64 ((c 1 : Nat) : Int), .int .u64 ((c 2 : Nat) : Int), .int .u64 ((c 3 : Nat) : Int)] := rfl
/-- The first k words done, the others as they were. -/
def part (f c : Nat → Nat) (k j : Nat) : Nat := if j < k then f j else c j
end Go.Proofs.YtlckhiflhnlgpaaGreatDoor

/-
  What block.only, block.Has and block.Of answer.
-/
namespace Go.Proofs.YtlckhiflhnlgpaaGreatDoor
open Go.RowKit

end Go.Proofs.YtlckhiflhnlgpaaGreatDoor

/-
  What block.Of answers.
-/
namespace Go.Proofs.YtlckhiflhnlgpaaGreatDoor
open Go.RowKit

/-- Byte i of a text. -/
def byteAt (s : ByteArray) (i : Nat) : Nat := (s.data[i]?.getD 0).toNat
theorem byteAt_eq (s : ByteArray) (i : Nat) (h : i < s.size) : (s[i]'h).toNat = byteAt s i := by
  have h2 : i < s.data.size := h
  unfold byteAt
  rw [Array.getElem?_eq_getElem h2]
  rfl
theorem byteAt_lt (s : ByteArray) (i : Nat) : byteAt s i < 256 := UInt8.toNat_lt _

/-- A class laid over a class. -/
theorem At.put {w : World} {b : Nat} {c : Nat → Nat} {t : TypeId} (h : At w b (clsArr c) t) (d : Nat → Nat) :
    At ((((w.setCell ⟨b, 0, none⟩ (.int .u64 ((d 0 : Nat) : Int))).setCell ⟨b, 1, none⟩ (.int .u64 ((d 1 : Nat) : Int))).setCell ⟨b, 2, none⟩ (.int .u64 ((d 2 : Nat) : Int))).setCell ⟨b, 3, none⟩ (.int .u64 ((d 3 : Nat) : Int))) b (clsArr d) t := by
  have h4 := (((h.set 0 (.int .u64 ((d 0 : Nat) : Int))).set 1 (.int .u64 ((d 1 : Nat) : Int))).set 2 (.int .u64 ((d 2 : Nat) : Int))).set 3 (.int .u64 ((d 3 : Nat) : Int))
  have e : ((((clsArr c).setIfInBounds 0 (.int .u64 ((d 0 : Nat) : Int))).setIfInBounds 1 (.int .u64 ((d 1 : Nat) : Int))).setIfInBounds 2 (.int .u64 ((d 2 : Nat) : Int))).setIfInBounds 3 (.int .u64 ((d 3 : Nat) : Int)) = clsArr d := by
    rw [clsArr_lit c, clsArr_lit d]; rfl
  rwa [e] at h4

end Go.Proofs.YtlckhiflhnlgpaaGreatDoor
