/-
  What decimal.Cmp answers.
-/
import Derived.Test.YtheeonlfbnkhgaaDoorDecForm
import Derived.Lib.Bytealg
import Derived.Lib.Small
namespace Go.Proofs.YtheeonlfbnkhgaaDoor
open Go.RowKit Go.Shelf

def sgnS (n : Bool) (t : ByteArray) : Int := if t.size = 0 then 0 else if n then -1 else 1
def topS (t : ByteArray) (x : Int) : Int := (t.size : Int) + x
/-- Without the signs. -/
def sizS (t : ByteArray) (x : Int) (t' : ByteArray) (x' : Int) : Int := if Lib.compareInt (topS t x) (topS t' x') ≠ 0 then Lib.compareInt (topS t x) (topS t' x') else Lib.compareBytes t.data.toList t'.data.toList
def cmpS (n : Bool) (t : ByteArray) (x : Int) (n' : Bool) (t' : ByteArray) (x' : Int) : Int := if sgnS n t ≠ sgnS n' t' then Lib.compareInt (sgnS n t) (sgnS n' t') else sgnS n t * sizS t x t' x'
theorem sgn_in (n : Bool) (t : ByteArray) : sgnS n t = -1 ∨ sgnS n t = 0 ∨ sgnS n t = 1 := by
  unfold sgnS
  split
  · exact .inr (.inl rfl)
  · split
    · exact .inl rfl
    · exact .inr (.inr rfl)
theorem cmpI_in (a b : Int) : Lib.compareInt a b = -1 ∨ Lib.compareInt a b = 0 ∨ Lib.compareInt a b = 1 := by
  unfold Lib.compareInt
  split
  · exact .inl rfl
  · split
    · exact .inr (.inr rfl)
    · exact .inr (.inl rfl)
theorem cmpB_in : ∀ (a b : List UInt8), Lib.compareBytes a b = -1 ∨ Lib.compareBytes a b = 0 ∨ Lib.compareBytes a b = 1
  | [], [] => .inr (.inl rfl)
  | [], _ :: _ => .inl rfl
  | _ :: _, [] => .inr (.inr rfl)
  | a :: u, b :: v => by
    unfold Lib.compareBytes
    split
    · exact .inl rfl
    · split
      · exact .inr (.inr rfl)
      · exact cmpB_in u v
theorem siz_in (t : ByteArray) (x : Int) (t' : ByteArray) (x' : Int) : sizS t x t' x' = -1 ∨ sizS t x t' x' = 0 ∨ sizS t x t' x' = 1 := by
  unfold sizS
  split
  · exact cmpI_in _ _
  · exact cmpB_in _ _

theorem sizeDec : (Tryd.prog.info? 23).map (·.size) = some 3 := by kernel_rfl
/-- Two decimals in two blocks, one behind the other. -/
def TwoD (w : World) (n : Bool) (t : ByteArray) (x : Int) (n' : Bool) (t' : ByteArray) (x' : Int) (w' : World) : Prop :=
  At w' w.heap.size #[.bool n, .string t, .int .i64 x] 23 ∧ At w' (w.heap.size + 1) #[.bool n', .string t', .int .i64 x'] 23 ∧ Below w.heap.size w w'
theorem TwoD.new (w : World) (n : Bool) (t : ByteArray) (x : Int) (n' : Bool) (t' : ByteArray) (x' : Int) : TwoD w n t x n' t' x' ((w.alloc (.cells #[.bool n, .string t, .int .i64 x] 23)).alloc (.cells #[.bool n', .string t', .int .i64 x'] 23)) := by
  refine ⟨(At.new w _ _).alloc _, ?_, by repeat (first | with_reducible exact Below.refl _ _ | with_reducible refine Below.setCell ?_ (by first | (simp; done) | (simp; omega)) _ | with_reducible refine below_drewN ?_ _ | with_reducible refine Below.alloc ?_ (by first | (simp; done) | (simp; omega)) _ | with_reducible refine Below.drew ?_)⟩
  have := At.new (w.alloc (.cells #[.bool n, .string t, .int .i64 x] 23)) #[.bool n', .string t', .int .i64 x'] 23
  simpa using this
section
variable {w : World} {n : Bool} {t : ByteArray} {x : Int} {n' : Bool} {t' : ByteArray} {x' : Int} {u v : World}
theorem TwoD.drew (h : TwoD w n t x n' t' x' u) : TwoD w n t x n' t' x' u.drew := ⟨h.1, h.2.1, h.2.2.drew⟩
theorem TwoD.kept (h : TwoD w n t x n' t' x' u) (hb : Below u.heap.size u v) : TwoD w n t x n' t' x' v := ⟨h.1.keptAll hb, h.2.1.keptAll hb, h.2.2.trans (hb.mono h.2.2.size)⟩
theorem TwoD.one (h : TwoD w n t x n' t' x' u) : At u w.heap.size #[.bool n, .string t, .int .i64 x] 23 := h.1
theorem TwoD.two (h : TwoD w n t x n' t' x' u) : At u (w.heap.size + 1) #[.bool n', .string t', .int .i64 x'] 23 := h.2.1
theorem TwoD.below (h : TwoD w n t x n' t' x' u) : Below w.heap.size w u := h.2.2
theorem TwoD.facts (h : TwoD w n t x n' t' x' u) : u.cell? ⟨w.heap.size, 0, none⟩ = some (.bool n) ∧ u.cell? ⟨w.heap.size, 1, none⟩ = some (.string t) ∧ u.cell? ⟨w.heap.size, 2, none⟩ = some (.int .i64 x) ∧ u.cell? ⟨w.heap.size + 1, 0, none⟩ = some (.bool n') ∧ u.cell? ⟨w.heap.size + 1, 1, none⟩ = some (.string t') ∧ u.cell? ⟨w.heap.size + 1, 2, none⟩ = some (.int .i64 x') :=
  ⟨h.1.cell 0, h.1.cell 1, h.1.cell 2, h.2.1.cell 0, h.2.1.cell 1, h.2.1.cell 2⟩
end
/-- What Cmp answers. -/
def cmpR (n : Bool) (t : ByteArray) (x : Int) (n' : Bool) (t' : ByteArray) (x' : Int) : Int × Int := if frmS t x && frmS t' x' then (cmpS n t x n' t' x', 0) else (0, 1)
theorem inB_of {x : Int} (h : inB x = true) : -1073741824 ≤ x ∧ x ≤ 1073741824 := by simpa [inB] using h
theorem frm_in {t : ByteArray} {x : Int} (h : frmS t x = true) : -1073741824 ≤ x ∧ x ≤ 1073741824 := by
  unfold frmS at h
  split at h
  · have := of_decide_eq_true h; omega
  · rw [Bool.and_eq_true] at h
    exact inB_of h.2
end Go.Proofs.YtheeonlfbnkhgaaDoor
