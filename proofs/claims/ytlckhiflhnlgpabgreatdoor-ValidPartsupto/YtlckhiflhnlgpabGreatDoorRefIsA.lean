/-
  RefIs, RefIs2.
-/
import Derived.Test.YtlckhiflhnlgpabGreatDoorEscA
import Derived.Laws.AppendOwn
import Derived.Test.YtlckhiflhnlgpabGreatDoorKitA
/-
  What quarryref06.Odd, Is and Behind answer.
-/
namespace Go.Proofs.YtlckhiflhnlgpabGreatDoor
open Go.RowKit

end Go.Proofs.YtlckhiflhnlgpabGreatDoor

/-
  What quarryref06.Is and quarryref06.Behind answer.
-/
namespace Go.Proofs.YtlckhiflhnlgpabGreatDoor
open Go.RowKit

/-- The first i truths, as cells. -/
def bl6 (G : Nat → Bool) (i : Nat) : List Value := (List.range i).map fun j => Value.bool (G j)
theorem bl6_succ (G : Nat → Bool) (i : Nat) : bl6 G i ++ [.bool (G i)] = bl6 G (i + 1) := by simp [bl6, List.range_succ]
theorem infoB6 : (Tryz.prog.info? 4).map (fun i => (i.zero, i.size, i.bytes)) = some (some (.bool false), 1, 1) := by kernel_rfl
theorem row1_new (w : World) (B : Nat) (hB : B ≤ w.heap.size) (c : Bool) (G : Nat → Bool) (h : G 0 = c) : (w.alloc (.cells #[.bool c] 4)).ownsRow B 4 1 (.slice (some ⟨w.heap.size, 0, none⟩) 1 1) 1 (bl6 G 1) :=
  ⟨rfl, .inr ⟨w.heap.size, 1, #[.bool c], rfl, hB, At.new w _ _, Nat.le_refl _, by unfold maxLen; decide, rfl, by simp [bl6, h]⟩⟩
theorem row6_cell {w : World} {B n : Nat} {v : Value} {G : Nat → Bool} (h : w.ownsRow B 4 1 v n (bl6 G n)) {i : Nat} (hi : i < n) : ∃ g cap, v = .slice (some ⟨g, 0, none⟩) n cap ∧ w.cell? ⟨g, i, none⟩ = some (.bool (G i)) := by
  rcases h.2 with ⟨_, h0⟩ | ⟨g, cap, cur, rfl, hb, hgb, h3⟩
  · omega
  · refine ⟨g, cap, rfl, ?_⟩
    have := h.cells (g := g) rfl i (.bool (G i)) (by simp [bl6, hi])
    rwa [show (⟨g, 0, none⟩ : Addr).add i = ⟨g, i, none⟩ by by_cases h : i = 0 <;> simp [Addr.add, h]] at this

end Go.Proofs.YtlckhiflhnlgpabGreatDoor
