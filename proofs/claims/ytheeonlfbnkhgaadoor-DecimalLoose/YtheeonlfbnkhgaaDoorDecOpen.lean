/-
  A decimal that comes in by value.
-/
import Derived.Test.YtheeonlfbnkhgaaDoorKit
import Derived.ChangeSame
import Derived.Deep.Strs
import Derived.SizedLaws
namespace Go.Proofs.YtheeonlfbnkhgaaDoor
open Go.ChangeShapes Go.WideShapes Go.ChangeAt Go.RowKit
set_option maxRecDepth 100000

theorem cellsDec : Tryd.prog.cellsOf 23 = 3 := by kernel_rfl
theorem cellsDb : Tryd.prog.cellsOf 4 = 1 := by kernel_rfl
theorem cellsDs : Tryd.prog.cellsOf 9 = 1 := by kernel_rfl
theorem cellsDi : Tryd.prog.cellsOf 3 = 1 := by kernel_rfl
section
variable {H : Type} {enc : TypeId × Value → H} {w : World} {base : Nat} {spare : Nat → Bool} {held : Bool}
theorem okWide_strctD {P : Program} {r : Reach} {b0 : Nat} {t : TypeId} {v : Value} {fs : Array Field} (ht : P.underlying t = some (.struct fs)) (h : Value.okWide P w r b0 t v) : ∃ cs, v = .agg cs ∧ cs.size = P.cellsOf t := by
  simp only [Value.okWide, ht] at h
  obtain ⟨cs, h1, h2, _⟩ := h
  exact ⟨cs, h1, h2⟩
/-- A decimal by value. -/
theorem open_dec {r : Reach} {b0 : Nat} {v : Value} {d : DataW H} {ps : List MemPlace} (hval : Value.okWide Tryd.prog w r b0 23 v) (hd : DataW.Trod enc Tryd.prog w base spare held 23 v d ps) :
    ∃ (n : Bool) (t : ByteArray) (x : Int), v = .agg #[.bool n, .string t, .int .i64 x] ∧ (Lit.int .i64 x).wf = true ∧ d = .agg [.lit (.bool n), .lit (.string t.data.toList), .lit (.int .i64 x)] := by
  obtain ⟨cs, rfl, hs⟩ := okWide_strctD Tryd.underlying23 hval
  obtain ⟨fuel, hf⟩ := hd
  obtain ⟨y0, y1, y2, m, hx, hl, h0, h1, h2⟩ := Go.Deep.trod_struct3 Tryd.underlying23 hf
  rw [cellsDec] at hs hl
  obtain ⟨c0, c1, c2, rfl⟩ : ∃ c0 c1 c2, cs = #[c0, c1, c2] := by
    obtain ⟨l⟩ := cs
    match l, hs with
    | [c0, c1, c2], _ => exact ⟨c0, c1, c2, rfl⟩
  have e0 : (((Value.agg #[c0, c1, c2]).cells.toList.drop 0).take (Tryd.prog.cellsOf 4)) = [c0] := by rw [cellsDb]; rfl
  have e1 : (((Value.agg #[c0, c1, c2]).cells.toList.drop 1).take (Tryd.prog.cellsOf 9)) = [c1] := by rw [cellsDs]; rfl
  have e2 : (((Value.agg #[c0, c1, c2]).cells.toList.drop 2).take (Tryd.prog.cellsOf 3)) = [c2] := by rw [cellsDi]; rfl
  have h0' : DataW.trod enc Tryd.prog w base spare held m 4 [c0] = some y0 := by rw [← e0]; exact h0
  have h1' : DataW.trod enc Tryd.prog w base spare held m 9 [c1] = some y1 := by rw [← e1]; exact h1
  have h2' : DataW.trod enc Tryd.prog w base spare held m 3 [c2] = some y2 := by rw [← e2]; exact h2
  obtain ⟨a, ha, hy0⟩ := DataW.trod_bool Tryd.underlying4 h0'
  obtain ⟨t, ht, hy1, hz⟩ := DataW.trod_string Tryd.underlying9 h1'
  obtain ⟨x, hx2, hy2, hw⟩ := DataW.trod_int Tryd.underlying3 h2'
  simp at ha ht hx2
  refine ⟨a, t, x, by rw [ha, ht, hx2], hw, ?_⟩
  have hx' := congrArg Prod.fst hx
  simpa [hy0, hy1, hy2] using hx'
/-- What the row's own reach pays. -/
theorem sized_dec {ts : List TypeId} {ds : List (DataW H)} (h : (DataW.weightsEach Tryd.prog ts ds).all (· ≤ reachBytes) = true) {j : Nat} {n : Bool} {t : ByteArray} {x : Int} (ht : ts[j]? = some 23) (hd : ds[j]? = some (.agg [.lit (.bool n), .lit (.string t.data.toList), .lit (.int .i64 x)])) : t.size ≤ reachBytes := by
  have hm : t.data.toList.length ∈ DataW.weights Tryd.prog 23 (DataW.agg (H := H) [.lit (.bool n), .lit (.string t.data.toList), .lit (.int .i64 x)]) := by
    simp [DataW.weights, DataW.weightsEach, Tryd.underlying23]
  have := List.all_eq_true.1 h _ (DataW.weights_mem_each ht hd _ hm)
  have h2 : t.data.toList.length ≤ reachBytes := by simpa using this
  rwa [Array.length_toList] at h2
end
end Go.Proofs.YtheeonlfbnkhgaaDoor
