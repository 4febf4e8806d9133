/-
  What block.Of answers.
-/
import Derived.Test.YtkdcloiepeenoaaDoorBlockOnly
import Derived.Test.YtkdcloiepeenoaaDoorAt
namespace Go.Proofs.YtkdcloiepeenoaaDoor
open Go.RowKit

/-- The class of the first n of some bytes. -/
def ofTo (f : Nat → Nat) : Nat → Nat → Nat
  | 0, _ => 0
  | n + 1, j => ofTo f n j ||| onlyC (f n) j
theorem ofTo_zero (f : Nat → Nat) : ofTo f 0 = fun _ => 0 := rfl
theorem ofTo_succ (f : Nat → Nat) (n : Nat) : ofTo f (n + 1) = fun j => ofTo f n j ||| onlyC (f n) j := rfl
theorem cls_of (f : Nat → Nat) (n : Nat) : Cls (ofTo f n) := by
  induction n with
  | zero => exact cls_zero
  | succ n ih => rw [ofTo_succ]; exact cls_join ih (cls_only _)
theorem with_eq (c : Nat → Nat) (x : Nat) : withC c x = fun j => c j ||| onlyC x j := by
  funext j
  unfold withC onlyC
  split <;> simp
/-- Byte i of a text. -/
def byteAt (s : ByteArray) (i : Nat) : Nat := (s.data[i]?.getD 0).toNat
theorem byteAt_eq (s : ByteArray) (i : Nat) (h : i < s.size) : (s[i]'h).toNat = byteAt s i := by
  have h2 : i < s.data.size := h
  unfold byteAt
  rw [Array.getElem?_eq_getElem h2]
  rfl
theorem byteAt_lt (s : ByteArray) (i : Nat) : byteAt s i < 256 := UInt8.toNat_lt _

theorem At.four {w : World} {b : Nat} {c : Nat → Nat} {t : TypeId} (h : At w b (clsArr c) t) : (w.cell? ⟨b, 0, none⟩ = some (.int .u64 ((c 0 : Nat) : Int)) ∧ w.cell? ⟨b, 1, none⟩ = some (.int .u64 ((c 1 : Nat) : Int)) ∧ w.cell? ⟨b, 2, none⟩ = some (.int .u64 ((c 2 : Nat) : Int)) ∧ w.cell? ⟨b, 3, none⟩ = some (.int .u64 ((c 3 : Nat) : Int))) ∧ (w.frozen? ⟨b, 0, none⟩ = false ∧ w.frozen? ⟨b, 1, none⟩ = false ∧ w.frozen? ⟨b, 2, none⟩ = false ∧ w.frozen? ⟨b, 3, none⟩ = false) :=
  ⟨⟨(h.cell 0).trans (clsArr_at c 0 (by decide)), (h.cell 1).trans (clsArr_at c 1 (by decide)), (h.cell 2).trans (clsArr_at c 2 (by decide)), (h.cell 3).trans (clsArr_at c 3 (by decide))⟩, h.frozen 0, h.frozen 1, h.frozen 2, h.frozen 3⟩
/-- A class laid over a class. -/
theorem At.put {w : World} {b : Nat} {c : Nat → Nat} {t : TypeId} (h : At w b (clsArr c) t) (d : Nat → Nat) :
    At ((((w.setCell ⟨b, 0, none⟩ (.int .u64 ((d 0 : Nat) : Int))).setCell ⟨b, 1, none⟩ (.int .u64 ((d 1 : Nat) : Int))).setCell ⟨b, 2, none⟩ (.int .u64 ((d 2 : Nat) : Int))).setCell ⟨b, 3, none⟩ (.int .u64 ((d 3 : Nat) : Int))) b (clsArr d) t := by
  have h4 := (((h.set 0 (.int .u64 ((d 0 : Nat) : Int))).set 1 (.int .u64 ((d 1 : Nat) : Int))).set 2 (.int .u64 ((d 2 : Nat) : Int))).set 3 (.int .u64 ((d 3 : Nat) : Int))
  have e : ((((clsArr c).setIfInBounds 0 (.int .u64 ((d 0 : Nat) : Int))).setIfInBounds 1 (.int .u64 ((d 1 : Nat) : Int))).setIfInBounds 2 (.int .u64 ((d 2 : Nat) : Int))).setIfInBounds 3 (.int .u64 ((d 3 : Nat) : Int)) = clsArr d := by
    rw [clsArr_lit c, clsArr_lit d]; rfl
  rwa [e] at h4

end Go.Proofs.YtkdcloiepeenoaaDoor
