/-
  What quarryref08.Index and Kind answer; what quarryref00.SameInts answers.
-/
import Derived.Test.YtomeaejjdjidlaaDoorRefM
namespace Go.Proofs.YtomeaejjdjidlaaDoor
open Go.RowKit Go.Shelf

theorem kd_row {w : World} {B n : Nat} {v : Value} {s : ByteArray} (h : w.ownsRow B 3 1 v n (ints (kds s n))) : ∃ ao cap, v = .slice ao n cap ∧ KdAt w ao s n := by
  have lt := h.lt
  rcases h.2 with ⟨rfl, e1⟩ | ⟨g, cap, cur, rfl, hb, hgb, h3⟩
  · subst e1
    exact ⟨none, 0, rfl, fun i hi => by omega⟩
  · refine ⟨_, cap, rfl, fun i hi => ⟨g, rfl, (lt g rfl).2, ?_⟩⟩
    have := h.cells (g := g) rfl i (.int .i64 ((kdS s i : Nat) : Int)) (by simp [ints, kds_get hi])
    rwa [show (⟨g, 0, none⟩ : Addr).add i = ⟨g, i, none⟩ by by_cases h : i = 0 <;> simp [Addr.add, h]] at this
theorem idxTo_len (s : ByteArray) (n : Nat) : (idxTo s n).length ≤ n := by
  have := List.length_filter_le (begS s) (List.range n)
  rw [List.length_range] at this
  exact this

/-- What begins at a place, as a byte. -/
def kindN (s : ByteArray) (at_ : Int) : Nat := if 0 ≤ at_ ∧ at_ < (s.size : Int) then (if begS s at_.toNat then (if wordS s at_.toNat then 119 else byteAt s at_.toNat) else 0) else 0
end Go.Proofs.YtomeaejjdjidlaaDoor
