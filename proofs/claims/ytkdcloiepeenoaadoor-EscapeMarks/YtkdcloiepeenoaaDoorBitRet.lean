/-
  A call's end, where a row of bits is among its results.
-/
import Derived.Test.YtkdcloiepeenoaaDoorBitRow
import Derived.Laws.ResultCell
import Derived.Laws.Rows
namespace Go.Proofs.YtkdcloiepeenoaaDoor
open Go.RowKit

theorem sizeBits : (Tryd.prog.info? 24).map (·.size) = some 2 := by kernel_rfl
theorem load_bits {w : World} {b : Nat} {x y : Value} (h : At w b #[x, y] 24) : (loadVar 24 ⟨b, 0, none⟩).run Tryd.prog w = .ok (.agg #[x, y]) w :=
  run_loadVar_row (P := Tryd.prog) w b 24 24 #[x, y] (0, 0) _ h Tryd.underlying24 rfl sizeBits
theorem ret_bits2 {fn : Func} {p u : Tmp} {R : Ending → World → Prop} {a : Act} {w : World} {b : Nat} {x y : Value} (hres : fn.results = #[.cell p 24, .tmp u]) (hp : a.tmps.getD p undef = .pointer (some ⟨b, 0, none⟩))
    (h : At w b #[x, y] 24) (hd : a.defers = []) (hR : R (.returned (.tuple #[.agg #[x, y], a.tmps.getD u undef])) w) : bodyPost Tryd.prog fn R .ret a w := by
  refine bodyPost_ret (v := .tuple #[.agg #[x, y], a.tmps.getD u undef]) ?_ hd hR
  rw [results_cell_tmp hres, hp]
  simp [asAddr, load_bits h]
theorem ret_bits1 {fn : Func} {p : Tmp} {R : Ending → World → Prop} {a : Act} {w : World} {b : Nat} {x y : Value} (hres : fn.results = #[.cell p 24]) (hp : a.tmps.getD p undef = .pointer (some ⟨b, 0, none⟩))
    (h : At w b #[x, y] 24) (hd : a.defers = []) (hR : R (.returned (.agg #[x, y])) w) : bodyPost Tryd.prog fn R .ret a w :=
  bodyPost_ret (v := .agg #[x, y]) (results_cell_row (P := Tryd.prog) hres _ w b 24 #[x, y] (0, 0) _ hp h Tryd.underlying24 rfl sizeBits) hd hR
theorem At.two {w : World} {b : Nat} {x y x' y' : Value} (h : At w b #[x, y] 24) : At ((w.setCell ⟨b, 0, none⟩ x').setCell ⟨b, 1, none⟩ y') b #[x', y'] 24 := by
  have := (h.set 0 x').set 1 y'
  simpa using this
theorem At.facts {w : World} {b : Nat} {x y : Value} (h : At w b #[x, y] 24) : w.cell? ⟨b, 0, none⟩ = some x ∧ w.cell? ⟨b, 1, none⟩ = some y ∧ w.frozen? ⟨b, 0, none⟩ = false ∧ w.frozen? ⟨b, 1, none⟩ = false := ⟨h.cell 0, h.cell 1, h.frozen 0, h.frozen 1⟩
end Go.Proofs.YtkdcloiepeenoaaDoor
