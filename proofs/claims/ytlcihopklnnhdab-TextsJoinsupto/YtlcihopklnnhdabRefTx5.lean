/-
  What the reference's Same and End answer.
-/
import Derived.Test.YtlcihopklnnhdabRefTx4
import Derived.Test.YtlcihopklnnhdabRefIsA
namespace Go.Proofs.Ytlcihopklnnhdab
open Go.RowKit Go.Shelf

/-- Where a text ends: the place, and the refusal. -/
def IsEnd (s : ByteArray) (f : Int) (n E : Int) : Prop :=
  ((f < 0 ∨ (s.size : Int) < f) ∧ n = 0 ∧ E = 2) ∨ ∃ k : Nat, f = (k : Int) ∧ k ≤ s.size ∧
    ((∃ i : Nat, i < s.size - k ∧ bAt s (k + i) = 34 ∧ escG (slash (s.extract k s.size)) false i = false ∧ (∀ j, j < i → ¬ (bAt s (k + j) = 34 ∧ escG (slash (s.extract k s.size)) false j = false)) ∧ n = ((k + i : Nat) : Int) ∧ E = 0) ∨
      ((∀ j, j < s.size - k → ¬ (bAt s (k + j) = 34 ∧ escG (slash (s.extract k s.size)) false j = false)) ∧ n = 0 ∧ E = 150))
theorem bAt_from (s : ByteArray) (k i : Nat) : bAt (s.extract k s.size) i = bAt s (k + i) := by
  rw [bAt_lb, bAt_lb, (byts_from s k).1, lb_drop]
theorem row_bool {W : World} {B n i : Nat} {v : Value} {G : Nat → Bool} (h : W.ownsRow B 4 1 v n (bl6 G n)) (hi : i < n) : ∃ g cap, v = .slice (some ⟨g, 0, none⟩) n cap ∧ g < W.heap.size ∧ W.cell? ⟨g, i, none⟩ = some (.bool (G i)) := by
  rcases h.2 with ⟨rfl, h0⟩ | ⟨g, cap, cur, rfl, hb, hgb, h3⟩
  · omega
  · refine ⟨g, cap, rfl, (show At W g cur 4 from hgb).lt, ?_⟩
    have := h.cells (g := g) rfl i (.bool (G i)) (by simp [bl6, hi])
    rwa [show (⟨g, 0, none⟩ : Addr).add i = ⟨g, i, none⟩ by by_cases h : i = 0 <;> simp [Addr.add, h]] at this

end Go.Proofs.Ytlcihopklnnhdab
