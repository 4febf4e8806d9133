/-
  What bitmap.Make answers.
-/
import Derived.Test.YtmjmcdoanolelaaDoorBitsB
namespace Go.Proofs.YtmjmcdoanolelaaDoor
open Go.RowKit

/-- The places may be set in a row of so many bits. -/
def good (n : Int) (k : Nat) (Z : Nat → Int) : Prop := 0 ≤ n ∧ n ≤ 16777216 ∧ ∀ t, t < k → 0 ≤ Z t ∧ Z t < n
theorem or_pow {x r : Nat} (hx : x < 18446744073709551616) (hr : r < 64) : bits BinOp.or IntKind.u64 (x : Int) (IntKind.u64.wrap ((2 : Int) ^ r)) = ((x ||| 2 ^ r : Nat) : Int) := by
  rw [(put_bit (X := 0) (Nat.pow_pos (by decide)) hr).1]
  exact u64_or_nat x (2 ^ r) hx (by have := Nat.pow_lt_pow_right (a := 2) (by decide) hr; omega)

/-- What Make answers: the row, or a refusal. -/
def Made (w : World) (n : Int) (k : Nat) (Z : Nat → Int) (e : Ending) (w' : World) : Prop :=
  Below w.heap.size w w' ∧ ((¬ good n k Z ∧ e = .returned (.tuple #[bv 0 none 0 0, .int .i64 2])) ∨
    (good n k Z ∧ ∃ g K, Hid (K = need n.toNat) ∧ w.heap.size ≤ g ∧ At w' g (rowCells K (rowOf (setTo Z k) n.toNat)) 46 ∧ e = .returned (.tuple #[bv n (some ⟨g, 0, none⟩) K K, .int .i64 0])))

end Go.Proofs.YtmjmcdoanolelaaDoor
