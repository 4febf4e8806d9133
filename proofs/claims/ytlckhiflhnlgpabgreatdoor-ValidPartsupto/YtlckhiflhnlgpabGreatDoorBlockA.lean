/-
  BlockMath, BlockClass, BlockOnly, BlockOf.
-/
import Derived.Test.YtlckhiflhnlgpabGreatDoorRows
import Derived.WalkKit
import Derived.WalkSpells
import Derived.WalkLawsBesides
import Derived.BigQuiet
import Derived.Deep.QuietTactic
import Derived.Outline
import Derived.Test.YtlckhiflhnlgpabGreatDoorKit
import Derived.Deep.RegionHeld3
import Derived.Test.YtlckhiflhnlgpabGreatDoorKitA
/-
  Plain facts on words as rows of bits: no program, no memory.
-/
namespace Go.Proofs.YtlckhiflhnlgpabGreatDoor

/-- The word of n bits of which bit i says whether q holds of i. -/
def mk (q : Nat → Bool) : Nat → Nat
  | 0 => 0
  | n + 1 => mk q n ||| if q n then 2 ^ n else 0
theorem mk_succ (q : Nat → Bool) (n : Nat) : mk q (n + 1) = mk q n ||| if q n then 2 ^ n else 0 := rfl
theorem mk_bit (q : Nat → Bool) (n i : Nat) : (mk q n).testBit i = (decide (i < n) && q i) := by
  induction n with
  | zero => simp [mk]
  | succ n ih =>
    rw [mk_succ, Nat.testBit_or, ih]
    by_cases hq : q n = true
    · rw [if_pos hq, Nat.testBit_two_pow]
      by_cases h : n = i
      · subst h; simp [hq]
      · by_cases h2 : i < n
        · simp [h2, h, Nat.lt_succ_of_lt h2]
        · have h3 : ¬ i < n + 1 := by omega
          simp [h2, h, h3]
    · rw [if_neg hq]
      by_cases h : i = n
      · subst h; simp [hq]
      · by_cases h2 : i < n
        · simp [h2, Nat.lt_succ_of_lt h2]
        · have h3 : ¬ i < n + 1 := by omega
          simp [h2, h3]
theorem mk_lt (q : Nat → Bool) (n : Nat) : mk q n < 2 ^ n := by
  apply Nat.lt_pow_two_of_testBit
  intro i hi
  rw [mk_bit]
  simp; omega
theorem mk_lt64 (q : Nat → Bool) (n : Nat) (h : n ≤ 64) : mk q n < 18446744073709551616 :=
  Nat.lt_of_lt_of_le (mk_lt q n) (by have : (2 : Nat) ^ n ≤ 2 ^ 64 := Nat.pow_le_pow_right (by decide) h; simpa using this)
theorem bit_ge (W i : Nat) (h : W < 18446744073709551616) (hi : 64 ≤ i) : W.testBit i = false := by
  apply Nat.testBit_lt_two_pow
  exact Nat.lt_of_lt_of_le h (by have : (2 : Nat) ^ 64 ≤ 2 ^ i := Nat.pow_le_pow_right (by decide) hi; simpa using this)
/-- Words of 64 bits are one where their bits are. -/
theorem word_ext {A B : Nat} (ha : A < 18446744073709551616) (hb : B < 18446744073709551616) (h : ∀ i, i < 64 → A.testBit i = B.testBit i) : A = B := by
  apply Nat.eq_of_testBit_eq
  intro i
  by_cases hi : i < 64
  · exact h i hi
  · rw [bit_ge A i ha (by omega), bit_ge B i hb (by omega)]
theorem mk_ext (q : Nat → Bool) (B : Nat) (hb : B < 18446744073709551616) (h : ∀ i, i < 64 → q i = B.testBit i) : mk q 64 = B := by
  apply word_ext (mk_lt64 q 64 (Nat.le_refl _)) hb
  intro i hi
  rw [mk_bit, ← h i hi]; simp [hi]
theorem mk_congr (q r : Nat → Bool) (n : Nat) (h : ∀ i, i < n → q i = r i) : mk q n = mk r n := by
  induction n with
  | zero => rfl
  | succ n ih => rw [mk_succ, mk_succ, ih (fun i hi => h i (by omega)), h n (by omega)]

theorem or_lt64 {A B : Nat} (ha : A < 18446744073709551616) (hb : B < 18446744073709551616) : A ||| B < 18446744073709551616 :=
  Nat.or_lt_two_pow (n := 64) ha hb
theorem xor_lt64 {A B : Nat} (ha : A < 18446744073709551616) (hb : B < 18446744073709551616) : A ^^^ B < 18446744073709551616 :=
  Nat.xor_lt_two_pow (n := 64) ha hb
/-- A without what is in B. -/
def less (A B : Nat) : Nat := A ^^^ (A &&& B)
theorem less_bit (A B i : Nat) : (less A B).testBit i = (A.testBit i && !B.testBit i) := by
  unfold less
  rw [Nat.testBit_xor, Nat.testBit_and]
  cases A.testBit i <;> cases B.testBit i <;> rfl
theorem less_lt64 {A B : Nat} (ha : A < 18446744073709551616) : less A B < 18446744073709551616 :=
  xor_lt64 ha (Nat.lt_of_le_of_lt Nat.and_le_left ha)
/-- All bits that are not in A. -/
def flip (A : Nat) : Nat := 18446744073709551615 - A
theorem flip_bit (A i : Nat) (ha : A < 18446744073709551616) (hi : i < 64) : (flip A).testBit i = !A.testBit i := by
  have h := Nat.testBit_two_pow_sub_succ (n := 64) (x := A) ha i
  have e : 2 ^ 64 - (A + 1) = flip A := by unfold flip; omega
  rw [e] at h
  rw [h]; simp [hi]
theorem flip_lt64 (A : Nat) : flip A < 18446744073709551616 := by unfold flip; omega

theorem less_eq {A B : Nat} (ha : A < 18446744073709551616) (hb : B < 18446744073709551616) : A &&& (18446744073709551615 - B) = less A B := by
  refine word_ext (Nat.lt_of_le_of_lt Nat.and_le_left ha) (less_lt64 ha) fun i hi => ?_
  have h := flip_bit B i hb hi
  unfold flip at h
  rw [Nat.testBit_and, h, less_bit]

/-- Is the byte x in the class of the words c? -/
def hasC (c : Nat → Nat) (x : Nat) : Bool := (c (x / 64)).testBit (x % 64)
/-- The class of one byte. -/
def onlyC (x j : Nat) : Nat := if j = x / 64 then 2 ^ (x % 64) else 0
/-- The class c with one byte more. -/
def withC (c : Nat → Nat) (x j : Nat) : Nat := if j = x / 64 then c j ||| 2 ^ (x % 64) else c j
/-- The class of the bytes below n of which p holds. -/
def setC (p : Nat → Bool) (n j : Nat) : Nat := mk (fun i => decide (64 * j + i < n) && p (64 * j + i)) 64
/-- A class's words are words. -/
def Cls (c : Nat → Nat) : Prop := ∀ j, c j < 18446744073709551616

theorem pow64 (i : Nat) : 2 ^ (i % 64) < 18446744073709551616 := by
  have h : i % 64 < 64 := Nat.mod_lt _ (by decide)
  have : (2 : Nat) ^ (i % 64) < 2 ^ 64 := Nat.pow_lt_pow_right (by decide) h
  simpa using this
theorem cls_only (x : Nat) : Cls (onlyC x) := by
  intro j; unfold onlyC; split
  · exact pow64 x
  · decide
theorem cls_with {c : Nat → Nat} (hc : Cls c) (x : Nat) : Cls (withC c x) := by
  intro j; unfold withC; split
  · exact or_lt64 (hc j) (pow64 x)
  · exact hc j
theorem cls_set (p : Nat → Bool) (n : Nat) : Cls (setC p n) := fun _ => mk_lt64 _ _ (Nat.le_refl _)
theorem cls_join {c d : Nat → Nat} (hc : Cls c) (hd : Cls d) : Cls (fun j => c j ||| d j) := fun j => or_lt64 (hc j) (hd j)
theorem cls_less {c : Nat → Nat} (hc : Cls c) (d : Nat → Nat) : Cls (fun j => less (c j) (d j)) := fun j => less_lt64 (hc j)
theorem cls_flip (c : Nat → Nat) : Cls (fun j => flip (c j)) := fun j => flip_lt64 (c j)
theorem cls_zero : Cls (fun _ => 0) := fun _ => Nat.zero_lt_succ _

/-- Classes are one where they have the same bytes. -/
theorem cls_ext {c d : Nat → Nat} (hc : Cls c) (hd : Cls d) (h : ∀ x, x < 256 → hasC c x = hasC d x) (j : Nat) (hj : j < 4) : c j = d j := by
  apply word_ext (hc j) (hd j)
  intro i hi
  have h1 := h (64 * j + i) (by omega)
  unfold hasC at h1
  rwa [show (64 * j + i) / 64 = j by omega, show (64 * j + i) % 64 = i by omega] at h1
theorem has_only (x y : Nat) : hasC (onlyC x) y = decide (x = y) := by
  unfold hasC onlyC
  split
  · rename_i h
    rw [Nat.testBit_two_pow]
    by_cases e : x % 64 = y % 64
    · have : x = y := by omega
      simp [this]
    · have : ¬ x = y := fun h2 => e (by rw [h2])
      simp [e, this]
  · rename_i h
    have : ¬ x = y := fun h2 => h (by rw [h2])
    simp [this]
theorem has_with (c : Nat → Nat) (x y : Nat) : hasC (withC c x) y = (hasC c y || decide (x = y)) := by
  unfold hasC withC
  split
  · rename_i h
    rw [Nat.testBit_or, Nat.testBit_two_pow]
    by_cases e : x % 64 = y % 64
    · have : x = y := by omega
      simp [this]
    · have : ¬ x = y := fun h2 => e (by rw [h2])
      simp [e, this]
  · rename_i h
    have : ¬ x = y := fun h2 => h (by rw [h2])
    simp [this]
theorem has_join (c d : Nat → Nat) (x : Nat) : hasC (fun j => c j ||| d j) x = (hasC c x || hasC d x) := by
  simp [hasC, Nat.testBit_or]
theorem has_less (c d : Nat → Nat) (x : Nat) : hasC (fun j => less (c j) (d j)) x = (hasC c x && !hasC d x) := by
  simp [hasC, less_bit]
theorem has_flip {c : Nat → Nat} (hc : Cls c) (x : Nat) : hasC (fun j => flip (c j)) x = !hasC c x := by
  simp only [hasC]
  exact flip_bit _ _ (hc _) (Nat.mod_lt _ (by decide))
theorem has_set (p : Nat → Bool) (n x : Nat) : hasC (setC p n) x = (decide (x < n) && p x) := by
  unfold hasC setC
  rw [mk_bit]
  have h1 : x % 64 < 64 := Nat.mod_lt _ (by decide)
  have h2 : 64 * (x / 64) + x % 64 = x := Nat.div_add_mod x 64
  simp [h1, h2]
/-- To put a byte to a class leaves it just if it is in it. -/
theorem same_iff {c : Nat → Nat} (hc : Cls c) (x : Nat) : (∀ j, j < 4 → c j ||| onlyC x j = c j) ↔ (x < 256 → hasC c x = true) := by
  constructor
  · intro h hx
    have h1 := h (x / 64) (by omega)
    have h2 : (c (x / 64) ||| onlyC x (x / 64)).testBit (x % 64) = true := by
      rw [Nat.testBit_or]
      have := has_only x x
      unfold hasC at this
      rw [this]; simp
    rw [h1] at h2
    exact h2
  · intro h j hj
    by_cases hx : x < 256
    · refine cls_ext (c := fun j => c j ||| onlyC x j) (cls_join hc (cls_only x)) hc ?_ j hj
      intro y _
      rw [has_join, has_only]
      by_cases e : x = y
      · subst e; simp [h hx]
      · simp [e]
    · have : onlyC x j = 0 := by unfold onlyC; rw [if_neg (by omega)]
      rw [this]; simp

/-- Step by step: the class of the bytes below n + 1. -/
theorem set_step (p : Nat → Bool) (n : Nat) (hp : p n = true) (j : Nat) (hj : j < 4) : withC (setC p n) n j = setC p (n + 1) j := by
  refine cls_ext (cls_with (cls_set p n) n) (cls_set p (n + 1)) ?_ j hj
  intro y _
  rw [has_with, has_set, has_set]
  by_cases e : n = y
  · subst e; simp [hp]
  · by_cases l : y < n
    · simp [l, e, Nat.lt_succ_of_lt l]
    · have : ¬ y < n + 1 := by omega
      simp [l, e, this]
theorem set_skip (p : Nat → Bool) (n : Nat) (hp : p n = false) (j : Nat) (hj : j < 4) : setC p n j = setC p (n + 1) j := by
  refine cls_ext (cls_set p n) (cls_set p (n + 1)) ?_ j hj
  intro y _
  rw [has_set, has_set]
  by_cases e : y = n
  · subst e; simp [hp]
  · by_cases l : y < n
    · simp [l, Nat.lt_succ_of_lt l]
    · have : ¬ y < n + 1 := by omega
      simp [l, this]
theorem set_zero (p : Nat → Bool) (j : Nat) : setC p 0 j = 0 := by
  unfold setC
  apply mk_ext _ _ (by decide)
  intro i _; simp
theorem set_all {c : Nat → Nat} (hc : Cls c) (p : Nat → Bool) (h : ∀ x, x < 256 → p x = hasC c x) (j : Nat) (hj : j < 4) : setC p 256 j = c j := by
  refine cls_ext (cls_set p 256) hc ?_ j hj
  intro y hy
  rw [has_set, ← h y hy]; simp [hy]
end Go.Proofs.YtlckhiflhnlgpabGreatDoor

/-
  What block.only, block.Join, block.Minus and block.Not answer.
-/
namespace Go.Proofs.YtlckhiflhnlgpabGreatDoor
open Go.RowKit

/-- Four cells that hold a class's words. -/
def clsArr (c : Nat → Nat) : Array Value := Array.ofFn (n := 4) fun j => .int .u64 ((c j.val : Nat) : Int)
theorem clsArr_at (c : Nat → Nat) (k : Nat) (h : k < 4) : (clsArr c)[k]? = some (.int .u64 ((c k : Nat) : Int)) := by
  simp [clsArr, h]
theorem clsArr_lit (c : Nat → Nat) : clsArr c = #[.int .u64 ((c 0 : Nat) : Int), .int .u64 ((c 1 : Nat) : Int), .int .u64 ((c 2 : Nat) : Int), .int .u64 ((c 3 : Nat) : Int)] := rfl
theorem clsArr_zero : clsArr (fun _ => 0) = #[.int .u64 0, .int .u64 0, .int .u64 0, .int .u64 0] := rfl
theorem clsArr_congr {c d : Nat → Nat} (h : ∀ j, j < 4 → c j = d j) : clsArr c = clsArr d := by
  rw [clsArr_lit, clsArr_lit, h 0 (by decide), h 1 (by decide), h 2 (by decide), h 3 (by decide)]
theorem clsArr_set (c : Nat → Nat) (k v : Nat) : (clsArr c).setIfInBounds k (.int .u64 ((v : Nat) : Int)) = clsArr (fun j => if j = k then v else c j) := by
  apply Array.ext
  · simp [clsArr]
  · intro i h1 h2
    have hi : i < 4 := by simpa [clsArr] using h2
    by_cases e : k = i
    · subst e; simp [clsArr]
    · rw [Array.getElem_setIfInBounds_ne (by simp [clsArr]; omega) e]
      simp only [clsArr, Array.getElem_ofFn]
      rw [if_neg (fun h => e h.symm)]
/-- The first k words done, the others as they were. -/
def part (f c : Nat → Nat) (k j : Nat) : Nat := if j < k then f j else c j
theorem part_zero (f c : Nat → Nat) : clsArr (part f c 0) = clsArr c := clsArr_congr fun j _ => by simp [part]
theorem part_full (f c : Nat → Nat) : clsArr (part f c 4) = clsArr f := clsArr_congr fun j hj => by simp [part, hj]
theorem part_at (f c : Nat → Nat) (k : Nat) (h : k < 4) : (clsArr (part f c k))[k]? = some (.int .u64 ((c k : Nat) : Int)) := by
  rw [clsArr_at _ _ h]; simp [part]
theorem part_set (f c : Nat → Nat) (k : Nat) : (clsArr (part f c k)).setIfInBounds k (.int .u64 ((f k : Nat) : Int)) = clsArr (part f c (k + 1)) := by
  rw [clsArr_set]
  refine clsArr_congr fun j _ => ?_
  unfold part
  by_cases e : j = k
  · subst e; simp
  · by_cases l : j < k
    · simp [l, e, Nat.lt_succ_of_lt l]
    · have : ¬ j < k + 1 := by omega
      simp [l, e, this]

theorem flip_int (A : Nat) (ha : A < 18446744073709551616) : bits BinOp.xor IntKind.u64 (if IntKind.u64.signed = true then -1 else IntKind.u64.max) (A : Int) = ((flip A : Nat) : Int) := by
  have e : (if IntKind.u64.signed = true then (-1 : Int) else IntKind.u64.max) = ((18446744073709551615 : Nat) : Int) := by decide
  rw [e, u64_xor_nat _ _ (by decide) ha]
  congr 1
  refine word_ext (xor_lt64 (by decide) ha) (flip_lt64 A) fun i hi => ?_
  rw [Nat.testBit_xor, flip_bit A i ha hi, show (18446744073709551615 : Nat) = 2 ^ 64 - 1 from rfl, Nat.testBit_two_pow_sub_one]
  simp [hi]

/-- A cell of a class that lies below two blocks is set. -/
theorem set_under2 (w : World) (cs : Array Value) (t : TypeId) (o1 o2 : Obj) (i nq : Nat) (v : Value) :
    ((((w.alloc (.cells cs t)).alloc o1).alloc o2).drewN nq).setCell ⟨w.heap.size, i, none⟩ v = (((w.alloc (.cells (cs.setIfInBounds i v) t)).alloc o1).alloc o2).drewN nq := by
  show ((((w.alloc (.cells cs t)).alloc o1).alloc o2).setCell ⟨w.heap.size, i, none⟩ v).drewN nq = _
  rw [World.setCell_alloc_past _ _ _ _ (by simp; omega), World.setCell_alloc_past _ _ _ _ (by simp), World.setCell_alloc_at _ _ _ _ _ rfl]
theorem set_under1 (w : World) (cs : Array Value) (t : TypeId) (o1 : Obj) (i nq : Nat) (v : Value) :
    (((w.alloc (.cells cs t)).alloc o1).drewN nq).setCell ⟨w.heap.size, i, none⟩ v = ((w.alloc (.cells (cs.setIfInBounds i v) t)).alloc o1).drewN nq := by
  show (((w.alloc (.cells cs t)).alloc o1).setCell ⟨w.heap.size, i, none⟩ v).drewN nq = _
  rw [World.setCell_alloc_past _ _ _ _ (by simp), World.setCell_alloc_at _ _ _ _ _ rfl]

end Go.Proofs.YtlckhiflhnlgpabGreatDoor

/-
  What block.only, block.Has and block.Of answer.
-/
namespace Go.Proofs.YtlckhiflhnlgpabGreatDoor
open Go.RowKit

theorem pow_wrap (x : Nat) : IntKind.u64.wrap (2 ^ (x % 64)) = ((2 ^ (x % 64) : Nat) : Int) := by
  have h := pow64 x
  have e : (2 : Int) ^ (x % 64) = ((2 ^ (x % 64) : Nat) : Int) := by simp
  rw [e, IntKind.wrap_u64]
  generalize 2 ^ (x % 64) = X at *
  omega
theorem only_arr (x : Nat) : #[Value.int .u64 0, .int .u64 0, .int .u64 0, .int .u64 0].setIfInBounds (x / 64) (.int .u64 (IntKind.u64.wrap (2 ^ (x % 64)))) = #[.int .u64 ((onlyC x 0 : Nat) : Int), .int .u64 ((onlyC x 1 : Nat) : Int), .int .u64 ((onlyC x 2 : Nat) : Int), .int .u64 ((onlyC x 3 : Nat) : Int)] := by
  rw [← clsArr_zero, ← clsArr_lit, pow_wrap, clsArr_set]
  rfl

theorem kept4 {w0 wx w1 : World} {B : Nat} {v0 v1 v2 v3 : Value}
    (h : (wx.cell? ⟨B, 0, none⟩ = some v0 ∧ wx.cell? ⟨B, 1, none⟩ = some v1 ∧ wx.cell? ⟨B, 2, none⟩ = some v2 ∧ wx.cell? ⟨B, 3, none⟩ = some v3) ∧ Below w0.heap.size w0 wx)
    (hb : Below wx.heap.size wx w1) :
    (w1.cell? ⟨B, 0, none⟩ = some v0 ∧ w1.cell? ⟨B, 1, none⟩ = some v1 ∧ w1.cell? ⟨B, 2, none⟩ = some v2 ∧ w1.cell? ⟨B, 3, none⟩ = some v3) ∧ Below w0.heap.size w0 w1 := by
  obtain ⟨⟨h0, h1, h2, h3⟩, hw⟩ := h
  have key : ∀ i v, wx.cell? ⟨B, i, none⟩ = some v → w1.cell? ⟨B, i, none⟩ = some v := fun i v hv => by
    rw [hb.cell (p := ⟨B, i, none⟩) (block_lt_of_cell hv)]; exact hv
  exact ⟨⟨key _ _ h0, key _ _ h1, key _ _ h2, key _ _ h3⟩, hw.trans (hb.mono hw.size)⟩
theorem size_word (w : World) : (sizeOf 41).run Tryz.prog w = .ok 1 w := by kernel_rfl
end Go.Proofs.YtlckhiflhnlgpabGreatDoor

/-
  What block.Of answers.
-/
namespace Go.Proofs.YtlckhiflhnlgpabGreatDoor
open Go.RowKit

/-- The class of the first n of some bytes. -/
def ofTo (f : Nat → Nat) : Nat → Nat → Nat
  | 0, _ => 0
  | n + 1, j => ofTo f n j ||| onlyC (f n) j
theorem ofTo_zero (f : Nat → Nat) : ofTo f 0 = fun _ => 0 := rfl
theorem ofTo_succ (f : Nat → Nat) (n : Nat) : ofTo f (n + 1) = fun j => ofTo f n j ||| onlyC (f n) j := rfl
theorem cls_of (f : Nat → Nat) (n : Nat) : Cls (ofTo f n) := by
  induction n with
  | zero => exact cls_zero
  | succ n ih => rw [ofTo_succ]; exact cls_join ih (cls_only _)
theorem with_eq (c : Nat → Nat) (x : Nat) : withC c x = fun j => c j ||| onlyC x j := by
  funext j
  unfold withC onlyC
  split <;> simp
/-- Byte i of a text. -/
def byteAt (s : ByteArray) (i : Nat) : Nat := (s.data[i]?.getD 0).toNat
theorem byteAt_eq (s : ByteArray) (i : Nat) (h : i < s.size) : (s[i]'h).toNat = byteAt s i := by
  have h2 : i < s.data.size := h
  unfold byteAt
  rw [Array.getElem?_eq_getElem h2]
  rfl
theorem byteAt_lt (s : ByteArray) (i : Nat) : byteAt s i < 256 := UInt8.toNat_lt _

theorem At.four {w : World} {b : Nat} {c : Nat → Nat} {t : TypeId} (h : At w b (clsArr c) t) : (w.cell? ⟨b, 0, none⟩ = some (.int .u64 ((c 0 : Nat) : Int)) ∧ w.cell? ⟨b, 1, none⟩ = some (.int .u64 ((c 1 : Nat) : Int)) ∧ w.cell? ⟨b, 2, none⟩ = some (.int .u64 ((c 2 : Nat) : Int)) ∧ w.cell? ⟨b, 3, none⟩ = some (.int .u64 ((c 3 : Nat) : Int))) ∧ (w.frozen? ⟨b, 0, none⟩ = false ∧ w.frozen? ⟨b, 1, none⟩ = false ∧ w.frozen? ⟨b, 2, none⟩ = false ∧ w.frozen? ⟨b, 3, none⟩ = false) :=
  ⟨⟨(h.cell 0).trans (clsArr_at c 0 (by decide)), (h.cell 1).trans (clsArr_at c 1 (by decide)), (h.cell 2).trans (clsArr_at c 2 (by decide)), (h.cell 3).trans (clsArr_at c 3 (by decide))⟩, h.frozen 0, h.frozen 1, h.frozen 2, h.frozen 3⟩
/-- A class laid over a class. -/
theorem At.put {w : World} {b : Nat} {c : Nat → Nat} {t : TypeId} (h : At w b (clsArr c) t) (d : Nat → Nat) :
    At ((((w.setCell ⟨b, 0, none⟩ (.int .u64 ((d 0 : Nat) : Int))).setCell ⟨b, 1, none⟩ (.int .u64 ((d 1 : Nat) : Int))).setCell ⟨b, 2, none⟩ (.int .u64 ((d 2 : Nat) : Int))).setCell ⟨b, 3, none⟩ (.int .u64 ((d 3 : Nat) : Int))) b (clsArr d) t := by
  have h4 := (((h.set 0 (.int .u64 ((d 0 : Nat) : Int))).set 1 (.int .u64 ((d 1 : Nat) : Int))).set 2 (.int .u64 ((d 2 : Nat) : Int))).set 3 (.int .u64 ((d 3 : Nat) : Int))
  have e : ((((clsArr c).setIfInBounds 0 (.int .u64 ((d 0 : Nat) : Int))).setIfInBounds 1 (.int .u64 ((d 1 : Nat) : Int))).setIfInBounds 2 (.int .u64 ((d 2 : Nat) : Int))).setIfInBounds 3 (.int .u64 ((d 3 : Nat) : Int)) = clsArr d := by
    rw [clsArr_lit c, clsArr_lit d]; rfl
  rwa [e] at h4

end Go.Proofs.YtlckhiflhnlgpabGreatDoor
