/-
  What quarrykit.LentWords and quarrykit.KeptWords answer.
-/
import Derived.Test.YtmjmcdoanolelabDoorBitsB
import Derived.Laws.AppendOwn
namespace Go.Proofs.YtmjmcdoanolelabDoor
open Go.RowKit

/-- The numbers, and the marks behind their end. -/
def zmW (k : Nat) (Z : Nat → Int) (j : Nat) : Int := if j < k then Z j else 8000024 + ((j - k : Nat) : Int)
/-- The first i of them, as cells. -/
def zlW (k : Nat) (Z : Nat → Int) (i : Nat) : List Value := (List.range i).map fun j => Value.int .u64 (zmW k Z j)
theorem zlW_len (k : Nat) (Z : Nat → Int) (i : Nat) : (zlW k Z i).length = i := by simp [zlW]
theorem zlW_succ (k : Nat) (Z : Nat → Int) (i : Nat) : zlW k Z i ++ [.int .u64 (zmW k Z i)] = zlW k Z (i + 1) := by simp [zlW, List.range_succ]
/-- A list that was lent: the numbers, with marks behind them, in a block of its own. -/
def LentW (w : World) (g c k : Nat) (Z : Nat → Int) : Prop := ∃ cur, At w g cur 33 ∧ cur.size = c ∧ k + 24 ≤ c ∧ c ≤ maxLen ∧ ∀ j, j < k + 24 → cur[j]? = some (.int .u64 (zmW k Z j))
theorem LentW.kept {w w' : World} {g c k : Nat} {Z : Nat → Int} (h : LentW w g c k Z) (hb : Below w.heap.size w w') : LentW w' g c k Z := by
  obtain ⟨cur, h1, h2⟩ := h
  exact ⟨cur, h1.keptAll hb, h2⟩
theorem LentW.cell {w : World} {g c k : Nat} {Z : Nat → Int} (h : LentW w g c k Z) {j : Nat} (hj : j < k + 24) : w.cell? ⟨g, j, none⟩ = some (.int .u64 (zmW k Z j)) := by
  obtain ⟨cur, h1, _, _, _, h2⟩ := h
  rw [h1.cell j, h2 j hj]
theorem LentW.lt {w : World} {g c k : Nat} {Z : Nat → Int} (h : LentW w g c k Z) : g < w.heap.size := by
  obtain ⟨cur, h1, _⟩ := h
  exact h1.lt
theorem markW_calls (t : Nat) (ht : t < 24) (w : World) : Calls Tryd.prog 37 #[.int .i64 1, .int .i64 (t : Int)] w fun e w' => e = .returned (.int .i64 (8000024 + (t : Int))) ∧ w' = w := by
  go_enter Tryd.func37, Tryd.ntmps37
  go_wp2
  go_ret
  exact ⟨rfl, rfl⟩
theorem infoLW : (Tryd.prog.info? 33).map (fun i => (i.zero, i.size, i.bytes)) = some (some (.int .u64 0), 1, 8) := by kernel_rfl

end Go.Proofs.YtmjmcdoanolelabDoor
