/-
  What block.only, block.Join, block.Minus and block.Not answer.
-/
import Derived.Test.YtkdcloiepeenoaaDoorRows
import Derived.Test.YtkdcloiepeenoaaDoorBlockMath
import Derived.WalkKit
import Derived.WalkSpells
import Derived.WalkLawsBesides
import Derived.BigQuiet
import Derived.Deep.QuietTactic
import Derived.Outline
namespace Go.Proofs.YtkdcloiepeenoaaDoor
open Go.RowKit

/-- Four cells that hold a class's words. -/
def clsArr (c : Nat → Nat) : Array Value := Array.ofFn (n := 4) fun j => .int .u64 ((c j.val : Nat) : Int)
theorem clsArr_at (c : Nat → Nat) (k : Nat) (h : k < 4) : (clsArr c)[k]? = some (.int .u64 ((c k : Nat) : Int)) := by
  simp [clsArr, h]
theorem clsArr_lit (c : Nat → Nat) : clsArr c = #[.int .u64 ((c 0 : Nat) : Int), .int .u64 ((c 1 : Nat) : Int), .int .u64 ((c 2 : Nat) : Int), .int .u64 ((c 3 : Nat) : Int)] := rfl
theorem clsArr_zero : clsArr (fun _ => 0) = #[.int .u64 0, .int .u64 0, .int .u64 0, .int .u64 0] := rfl
theorem clsArr_congr {c d : Nat → Nat} (h : ∀ j, j < 4 → c j = d j) : clsArr c = clsArr d := by
  rw [clsArr_lit, clsArr_lit, h 0 (by decide), h 1 (by decide), h 2 (by decide), h 3 (by decide)]
theorem clsArr_set (c : Nat → Nat) (k v : Nat) : (clsArr c).setIfInBounds k (.int .u64 ((v : Nat) : Int)) = clsArr (fun j => if j = k then v else c j) := by
  apply Array.ext
  · simp [clsArr]
  · intro i h1 h2
    have hi : i < 4 := by simpa [clsArr] using h2
    by_cases e : k = i
    · subst e; simp [clsArr]
    · rw [Array.getElem_setIfInBounds_ne (by simp [clsArr]; omega) e]
      simp only [clsArr, Array.getElem_ofFn]
      rw [if_neg (fun h => e h.symm)]
/-- The first k words done, the others as they were. -/
def part (f c : Nat → Nat) (k j : Nat) : Nat := if j < k then f j else c j
theorem part_zero (f c : Nat → Nat) : clsArr (part f c 0) = clsArr c := clsArr_congr fun j _ => by simp [part]
theorem part_full (f c : Nat → Nat) : clsArr (part f c 4) = clsArr f := clsArr_congr fun j hj => by simp [part, hj]
theorem part_at (f c : Nat → Nat) (k : Nat) (h : k < 4) : (clsArr (part f c k))[k]? = some (.int .u64 ((c k : Nat) : Int)) := by
  rw [clsArr_at _ _ h]; simp [part]
theorem part_set (f c : Nat → Nat) (k : Nat) : (clsArr (part f c k)).setIfInBounds k (.int .u64 ((f k : Nat) : Int)) = clsArr (part f c (k + 1)) := by
  rw [clsArr_set]
  refine clsArr_congr fun j _ => ?_
  unfold part
  by_cases e : j = k
  · subst e; simp
  · by_cases l : j < k
    · simp [l, e, Nat.lt_succ_of_lt l]
    · have : ¬ j < k + 1 := by omega
      simp [l, e, this]

theorem flip_int (A : Nat) (ha : A < 18446744073709551616) : bits BinOp.xor IntKind.u64 (if IntKind.u64.signed = true then -1 else IntKind.u64.max) (A : Int) = ((flip A : Nat) : Int) := by
  have e : (if IntKind.u64.signed = true then (-1 : Int) else IntKind.u64.max) = ((18446744073709551615 : Nat) : Int) := by decide
  rw [e, u64_xor_nat _ _ (by decide) ha]
  congr 1
  refine word_ext (xor_lt64 (by decide) ha) (flip_lt64 A) fun i hi => ?_
  rw [Nat.testBit_xor, flip_bit A i ha hi, show (18446744073709551615 : Nat) = 2 ^ 64 - 1 from rfl, Nat.testBit_two_pow_sub_one]
  simp [hi]

/-- A cell of a class that lies below two blocks is set. -/
theorem set_under2 (w : World) (cs : Array Value) (t : TypeId) (o1 o2 : Obj) (i nq : Nat) (v : Value) :
    ((((w.alloc (.cells cs t)).alloc o1).alloc o2).drewN nq).setCell ⟨w.heap.size, i, none⟩ v = (((w.alloc (.cells (cs.setIfInBounds i v) t)).alloc o1).alloc o2).drewN nq := by
  show ((((w.alloc (.cells cs t)).alloc o1).alloc o2).setCell ⟨w.heap.size, i, none⟩ v).drewN nq = _
  rw [World.setCell_alloc_past _ _ _ _ (by simp; omega), World.setCell_alloc_past _ _ _ _ (by simp), World.setCell_alloc_at _ _ _ _ _ rfl]
theorem set_under1 (w : World) (cs : Array Value) (t : TypeId) (o1 : Obj) (i nq : Nat) (v : Value) :
    (((w.alloc (.cells cs t)).alloc o1).drewN nq).setCell ⟨w.heap.size, i, none⟩ v = ((w.alloc (.cells (cs.setIfInBounds i v) t)).alloc o1).drewN nq := by
  show (((w.alloc (.cells cs t)).alloc o1).setCell ⟨w.heap.size, i, none⟩ v).drewN nq = _
  rw [World.setCell_alloc_past _ _ _ _ (by simp), World.setCell_alloc_at _ _ _ _ _ rfl]

end Go.Proofs.YtkdcloiepeenoaaDoor
