/-
  A Part that comes in by value.
-/
import Derived.Test.YtdmmofdlokgfmaaDoorBitOpen
namespace Go.Proofs.YtdmmofdlokgfmaaDoor
open Go.ChangeShapes Go.WideShapes Go.ChangeAt Go.RowKit
set_option maxRecDepth 100000

theorem cellsPt : Tryd.prog.cellsOf 33 = 4 := by kernel_rfl
theorem cellsB2 : Tryd.prog.cellsOf 30 = 2 := by kernel_rfl
theorem cellsI2 : Tryd.prog.cellsOf 31 = 2 := by kernel_rfl
theorem cellsB1 : Tryd.prog.cellsOf 4 = 1 := by kernel_rfl
theorem cellsI1 : Tryd.prog.cellsOf 3 = 1 := by kernel_rfl
section
variable {H : Type} {enc : TypeId × Value → H} {w : World} {base : Nat} {spare : Nat → Bool} {held : Bool}
/-- A Part by value. -/
theorem open_part {r : Reach} {b0 : Nat} {v : Value} {d : DataW H} {ps : List MemPlace} (hval : Value.okWide Tryd.prog w r b0 33 v) (hd : DataW.Trod enc Tryd.prog w base spare held 33 v d ps) :
    ∃ (a b : Bool) (x y : Int), v = .agg #[.bool a, .bool b, .int .i64 x, .int .i64 y] := by
  obtain ⟨cs, rfl, hs⟩ := okWide_strct Tryd.underlying33 hval
  obtain ⟨fuel, hf⟩ := hd
  obtain ⟨y0, y1, m, hx, hl, h0, h1⟩ := trod_struct2 Tryd.underlying33 hf
  rw [cellsPt] at hs hl
  obtain ⟨c0, c1, c2, c3, rfl⟩ : ∃ c0 c1 c2 c3, cs = #[c0, c1, c2, c3] := by
    obtain ⟨l⟩ := cs
    match l, hs with
    | [c0, c1, c2, c3], _ => exact ⟨c0, c1, c2, c3, rfl⟩
  have e0 : (((Value.agg #[c0, c1, c2, c3]).cells.toList.drop 0).take (Tryd.prog.cellsOf 30)) = [c0, c1] := by rw [cellsB2]; rfl
  have e1 : (((Value.agg #[c0, c1, c2, c3]).cells.toList.drop 2).take (Tryd.prog.cellsOf 31)) = [c2, c3] := by rw [cellsI2]; rfl
  have h0' : DataW.trod enc Tryd.prog w base spare held m 30 [c0, c1] = some y0 := by rw [← e0]; exact h0
  have h1' : DataW.trod enc Tryd.prog w base spare held m 31 [c2, c3] = some y1 := by rw [← e1]; exact h1
  obtain ⟨xs, m0, -, -, -, hn0, hx0⟩ := DataW.trod_array Tryd.underlying30 h0'
  obtain ⟨ys, m1, -, -, -, hn1, hx1⟩ := DataW.trod_array Tryd.underlying31 h1'
  have b0' := hx0 0 (by decide)
  have b1' := hx0 1 (by decide)
  have i0' := hx1 0 (by decide)
  have i1' := hx1 1 (by decide)
  rw [cellsB1, List.getElem?_eq_getElem (by omega)] at b0' b1'
  rw [cellsI1, List.getElem?_eq_getElem (by omega)] at i0' i1'
  obtain ⟨a, ha, -⟩ := DataW.trod_bool Tryd.underlying4 b0'
  obtain ⟨b, hb, -⟩ := DataW.trod_bool Tryd.underlying4 b1'
  obtain ⟨x, hx, -⟩ := DataW.trod_int Tryd.underlying3 i0'
  obtain ⟨y, hy, -⟩ := DataW.trod_int Tryd.underlying3 i1'
  simp at ha hb hx hy
  exact ⟨a, b, x, y, by rw [ha, hb, hx, hy]⟩
end
end Go.Proofs.YtdmmofdlokgfmaaDoor
