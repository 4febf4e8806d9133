/-
 What Takes is asked, as it comes in by value; a list of steps that comes in.
-/
import Derived.Test.YtbabdhepnjacdaaDoorPyJ
import Derived.Test.YtbabdhepnjacdaaDoorRows
import Derived.ChangeSame
import Derived.ChangeSlices
import Derived.Deep.Strs
import Derived.SizedLaws
namespace Go.Proofs.YtbabdhepnjacdaaDoor
open Go.ChangeShapes Go.WideShapes Go.ChangeAt Go.RowKit
set_option maxRecDepth 100000
theorem cellsSp : Tryd.prog.cellsOf 53 = 3 := by kernel_rfl
theorem cellsSi : Tryd.prog.cellsOf 3 = 1 := by kernel_rfl
theorem cellsSs : Tryd.prog.cellsOf 9 = 1 := by kernel_rfl
section
variable {H : Type} {enc : TypeId × Value → H} {w : World} {base : Nat} {spare : Nat → Bool} {held : Bool}
/-- A step's three cells. -/
theorem trod_step {m : Nat} {c0 c1 c2 : Value} {y : DataW H × List MemPlace} (h : DataW.trod enc Tryd.prog w base spare held m 53 [c0, c1, c2] = some y) :
  ∃ (k : Int) (n : ByteArray) (p : Int), [c0, c1, c2] = [.int .i64 k, .string n, .int .i64 p] ∧ ((Lit.int .i64 k).wf = true ∧ (Lit.int .i64 p).wf = true) ∧ y.1 = .agg [.lit (.int .i64 k), .lit (.string n.data.toList), .lit (.int .i64 p)] := by
 obtain ⟨y0, y1, y2, m', hx, hl, h0, h1, h2⟩ := Go.Deep.trod_struct3 Tryd.underlying53 h
 have e0 : ((([c0, c1, c2] : List Value).drop 0).take (Tryd.prog.cellsOf 3)) = [c0] := by rw [cellsSi]; rfl
 have e1 : ((([c0, c1, c2] : List Value).drop 1).take (Tryd.prog.cellsOf 9)) = [c1] := by rw [cellsSs]; rfl
 have e2 : ((([c0, c1, c2] : List Value).drop 2).take (Tryd.prog.cellsOf 3)) = [c2] := by rw [cellsSi]; rfl
 have h0' : DataW.trod enc Tryd.prog w base spare held m' 3 [c0] = some y0 := by rw [← e0]; exact h0
 have h1' : DataW.trod enc Tryd.prog w base spare held m' 9 [c1] = some y1 := by rw [← e1]; exact h1
 have h2' : DataW.trod enc Tryd.prog w base spare held m' 3 [c2] = some y2 := by rw [← e2]; exact h2
 obtain ⟨a, ha, hy0, hw0⟩ := DataW.trod_int Tryd.underlying3 h0'
 obtain ⟨t, ht, hy1, hz⟩ := DataW.trod_string Tryd.underlying9 h1'
 obtain ⟨x, hx2, hy2, hw2⟩ := DataW.trod_int Tryd.underlying3 h2'
 simp at ha ht hx2
 refine ⟨a, t, x, by rw [ha, ht, hx2], ⟨hw0, hw2⟩, ?_⟩
 have hx' := congrArg Prod.fst hx
 simpa [hy0, hy1, hy2] using hx'
end
end Go.Proofs.YtbabdhepnjacdaaDoor
