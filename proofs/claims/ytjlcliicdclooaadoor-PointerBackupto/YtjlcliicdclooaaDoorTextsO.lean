/-
 A list of texts that comes in, and what the second form's bound gives of it (out of TextsKit).
-/
import Derived.Test.YtjlcliicdclooaaDoorKitA
import Derived.Test.YtjlcliicdclooaaDoorRows
import Derived.SliceStrings
namespace Go.Proofs.YtjlcliicdclooaaDoor
open Go.ChangeShapes Go.WideShapes Go.ChangeAt Go.RowKit
/-- The slice's cells hold these texts. -/
def TextsOf (w : World) (ao : Option Addr) (ss : List ByteArray) : Prop := ∀ (i : Nat) (s : ByteArray), ss[i]? = some s → ∃ b off, ao = some ⟨b, off, none⟩ ∧ b < w.heap.size ∧ w.cell? ⟨b, off + i, none⟩ = some (.string s)
def sizesS : List ByteArray → Nat
 | [] => 0
 | s :: r => s.size + 1 + sizesS r
def TextsD {H : Type} (d : DataW H) (ss : List ByteArray) : Prop := ss = [] ∨ ∃ sp, d = .slice (strs ss) sp
section
variable {H : Type} {enc : TypeId × Value → H} {P : Program} {w : World} {base : Nat} {spare : Nat → Bool} {held : Bool}
theorem cell_lt5 {w : World} {a : Addr} {v : Value} (h : w.cell? a = some v) : a.block < w.heap.size := by
 unfold World.cell? at h
 cases ho : w.heap[a.block]? with
 | none => simp [ho] at h
 | some o => exact (Array.getElem?_eq_some_iff.1 ho).1
theorem open_texts {r : Reach} {b0 : Nat} {t e : TypeId} {v : Value} {d : DataW H} {ps : List MemPlace} (ht : P.underlying t = some (.slice e)) (he : P.underlying e = some .string) (hc : P.cellsOf e = 1)
  (hval : Value.okWide P w r b0 t v) (hd : DataW.Trod enc P w base spare held t v d ps) :
  ∃ (ao : Option Addr) (cap : Nat) (ss : List ByteArray), v = .slice ao ss.length cap ∧ TextsOf w ao ss ∧ TextsD d ss := by
 obtain ⟨ao, len, cap, rfl⟩ := okWide_slice ht hval
 obtain ⟨fuel, hf⟩ := hd
 rcases open_strings ht he hc hf with ⟨hcs, _⟩ | ⟨a, len', cap', ss, hcs, _, hl, hm, hz, hx, hcell, hwz⟩
 ·simp [Value.cells] at hcs
  obtain ⟨rfl, rfl, rfl⟩ := hcs
  exact ⟨none, 0, [], rfl, fun i s h => by simp at h, .inl rfl⟩
 ·simp [Value.cells] at hcs
  obtain ⟨rfl, rfl, rfl⟩ := hcs
  have hlz : len ≤ ss.length := by rw [hz]; split <;> omega
  refine ⟨some a, cap, ss.take len, by rw [List.length_take, Nat.min_eq_left hlz], fun i s hi => ?_, .inr ⟨_, congrArg Prod.fst hx⟩⟩
  have hi2 := (List.getElem?_eq_some_iff.1 hi).1
  rw [List.length_take] at hi2
  obtain ⟨b, off, spot⟩ := a
  have hspot : spot = none := by simpa [Addr.add] using World.cell?_spot (hcell 0 (by omega))
  subst hspot
  have hci := hcell i (by omega)
  have e : (⟨b, off, none⟩ : Addr).add i = ⟨b, off + i, none⟩ := by by_cases h : i = 0 <;> simp [Addr.add, h]
  rw [List.getElem?_take_of_lt (by omega)] at hi
  rw [e, List.getD_eq_getElem?_getD, hi] at hci
  exact ⟨b, off, rfl, cell_lt5 hci, hci⟩
end
theorem bulk_strs {H : Type} (ss : List ByteArray) : sizesS ss ≤ Rows.uptoBulkAll (strs (H := H) ss) := by
 induction ss with
 | nil => exact Nat.zero_le _
 | cons s r ih =>
  have e : s.data.toList.length = s.size := (by rw [Array.length_toList]; rfl)
  show s.size + 1 + sizesS r ≤ Rows.uptoBulkAll (DataW.lit (.string s.data.toList) :: strs r)
  simp only [Rows.uptoBulkAll, Rows.uptoBulk]
  omega
theorem bulk_texts {H : Type} {d : DataW H} {ss : List ByteArray} (h : TextsD d ss) : sizesS ss ≤ Rows.uptoBulk d := by
 rcases h with rfl | ⟨sp, rfl⟩
 ·exact Nat.zero_le _
 ·have := bulk_strs (H := H) ss
  simp only [Rows.uptoBulk]
  omega
end Go.Proofs.YtjlcliicdclooaaDoor
