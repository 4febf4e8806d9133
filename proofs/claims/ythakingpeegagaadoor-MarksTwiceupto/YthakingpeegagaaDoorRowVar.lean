/-
  Rows of bits that lie in variables; what is asked of them at any number.
-/
import Derived.Test.YthakingpeegagaaDoorEscRows
import Derived.Test.YthakingpeegagaaDoorBitsD
namespace Go.Proofs.YthakingpeegagaaDoor
open Go.RowKit Go.Shelf

/-- The variable b holds the row of the places that G names; its words lie in g. -/
def RV (W : World) (b g N : Nat) (G : Nat → Bool) : Prop := At W b #[.int .i64 (N : Int), .slice (some ⟨g, 0, none⟩) (need N) (need N)] 25 ∧ At W g (rowCells (need N) (rowOf G N)) 58
section
variable {W Z : World} {b g N : Nat} {G : Nat → Bool}
theorem RV.kept (h : RV W b g N G) (hb : Below W.heap.size W Z) : RV Z b g N G := ⟨h.1.keptAll hb, h.2.keptAll hb⟩
theorem RV.alloc (h : RV W b g N G) (o : Obj) : RV (W.alloc o) b g N G := ⟨h.1.alloc o, h.2.alloc o⟩
theorem RV.own (h : RV W b g N G) {row : Option Nat} (hg : W.grownBy Z row) (hr : ∀ r, row = some r → ∃ o : Obj, W.heap[r]? = some o ∧ o.isCells = false) : RV Z b g N G := ⟨h.1.own hg hr, h.2.own hg hr⟩
theorem RV.other (h : RV W b g N G) {p : Addr} (h1 : b ≠ p.block) (h2 : g ≠ p.block) (v : Value) : RV (W.setCell p v) b g N G := ⟨h.1.other h1 v, h.2.other h2 v⟩
theorem RV.range (h : RV W b g N G) : W.rangeAt b 0 [.int .i64 (N : Int), .slice (some ⟨g, 0, none⟩) (need N) (need N)] := h.1.range rfl
theorem RV.wds (h : RV W b g N G) : Wds W (some ⟨g, 0, none⟩) (need N) (rowOf G N) := h.2.row6
theorem RV.facts (h : RV W b g N G) : W.cell? ⟨b, 0, none⟩ = some (.int .i64 (N : Int)) ∧ W.cell? ⟨b, 1, none⟩ = some (.slice (some ⟨g, 0, none⟩) (need N) (need N)) := ⟨h.1.facts.1, h.1.facts.2.1⟩
theorem RV.lt (h : RV W b g N G) : b < W.heap.size ∧ g < W.heap.size := ⟨h.1.lt, h.2.lt⟩
theorem RV.of (W : World) (g N : Nat) (G : Nat → Bool) (h : At W g (rowCells (need N) (rowOf G N)) 58) : RV (W.alloc (.cells #[.int .i64 (N : Int), .slice (some ⟨g, 0, none⟩) (need N) (need N)] 25)) W.heap.size g N G := ⟨At.new W _ _, h.alloc _⟩
end
theorem wf_i64' {i : Int} (h1 : -9223372036854775808 ≤ i) (h2 : i ≤ 9223372036854775807) : (Lit.int .i64 i).wf = true := by
  simp [Lit.wf, IntKind.min, IntKind.max, IntKind.bits, IntKind.signed]
  omega
theorem getI {N : Nat} {G : Nat → Bool} (hN : N ≤ 562949953421312) (i : Int) (h1 : -9223372036854775808 ≤ i) (h2 : i ≤ 9223372036854775807) (B : Bool) (hB : Hid (getB (rowOf G N) N i = B)) (ao : Option Addr) (cap : Nat) (w : World) (hW : Wds w ao (need N) (rowOf G N)) :
    Calls Tryd.prog 13 #[.agg #[.int .i64 (N : Int), .slice ao (need N) cap], .int .i64 i] w fun e w' => e = .returned (.bool B) ∧ Below w.heap.size w w' :=
  get_calls N i ao (need N) cap (rowOf G N) N B (wf_size hN) (wf_i64' h1 h2) (need_le hN) (.inl ⟨rowOf_formed G N, rfl⟩) hB w hW
end Go.Proofs.YthakingpeegagaaDoor
