/-
  What bitmap.joined, And, Or, Xor and Minus answer.
-/
import Derived.Test.YtmjmcdoanolelaaDoorBitsB
namespace Go.Proofs.YtmjmcdoanolelaaDoor
open Go.RowKit

theorem formedB (n : Int) (k : Nat) (X : Nat → Nat) : ∃ B : Bool, Hid (formed n k X ↔ B = true) := by
  by_cases h : formed n k X
  · exact ⟨true, ⟨fun _ => rfl, fun _ => h⟩⟩
  · exact ⟨false, ⟨fun h' => (h h').elim, fun h' => by cases h'⟩⟩

/-- What a call that puts two rows together answers. -/
def Joined (o : Nat → Nat → Nat) (n m : Int) (k l : Nat) (X Y : Nat → Nat) (w : World) (e : Ending) (w' : World) : Prop :=
  Below w.heap.size w w' ∧
    ((¬ (formed n k X ∧ formed m l Y) ∧ e = .returned (.tuple #[bv 0 none 0 0, .int .i64 1])) ∨
     ((formed n k X ∧ formed m l Y) ∧ n ≠ m ∧ e = .returned (.tuple #[bv 0 none 0 0, .int .i64 2])) ∨
     ((formed n k X ∧ formed m l Y) ∧ n = m ∧ ∃ g, w.heap.size ≤ g ∧ At w' g (rowCells k (fun j => o (X j) (Y j))) 46 ∧ e = .returned (.tuple #[bv n (some ⟨g, 0, none⟩) k k, .int .i64 0])))

/-- The function that is handed in puts two words together. -/
def Puts (gf : Nat) (o : Nat → Nat → Nat) : Prop := (∀ args w, (callFunc gf args).run Tryd.prog w = .ok (.enter gf args) w) ∧
  ∀ (x y : Nat) (w : World), x < 18446744073709551616 → y < 18446744073709551616 → Calls Tryd.prog gf #[.int .u64 (x : Int), .int .u64 (y : Int)] w fun e w' => e = .returned (.int .u64 ((o x y : Nat) : Int)) ∧ w' = w

end Go.Proofs.YtmjmcdoanolelaaDoor
