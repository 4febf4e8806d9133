/-
  What quarryref05.Walk answers.
-/
import Derived.Test.YtlcihopklnnhdabUtf8Begins
import Derived.Test.YtlcihopklnnhdabUtf8Walk
import Derived.Test.YtlcihopklnnhdabRowsKeep
import Derived.Laws.AppendOwn
namespace Go.Proofs.Ytlcihopklnnhdab
open Go.RowKit

def ints5 (L : List Nat) : List Value := L.map fun p => .int .i64 ((p : Nat) : Int)
def runes5 (L : List Nat) : List Value := L.map fun p => .int .i32 ((p : Nat) : Int)
theorem ints5_snoc (L : List Nat) (p : Nat) : ints5 (L ++ [p]) = ints5 L ++ [.int .i64 ((p : Nat) : Int)] := by simp [ints5]
theorem runes5_snoc (L : List Nat) (p : Nat) : runes5 (L ++ [p]) = runes5 L ++ [.int .i32 ((p : Nat) : Int)] := by simp [runes5]
/-- Two rows hold the places and the characters. -/
def Rows5 (B : Nat) (w : World) (v u : Value) (L : List (Nat × Nat)) : Prop := w.ownsRow B 3 1 v L.length (ints5 (L.map (·.1))) ∧ w.ownsRow B 21 1 u L.length (runes5 (L.map (·.2)))
theorem infoI5 : (Try.prog.info? 3).map (fun i => (i.zero, i.size, i.bytes)) = some (some (.int .i64 0), 1, 8) := by kernel_rfl
theorem infoR5 : (Try.prog.info? 21).map (fun i => (i.zero, i.size, i.bytes)) = some (some (.int .i32 0), 1, 4) := by kernel_rfl

/-- What stands within the loop over one form. -/
def Inner (s : ByteArray) (p : Nat) (B : Nat) (w0 : World) (v u : Value) (n : Nat) (whole : Bool) (wr : World) : Prop :=
  ∃ (b : List Nat) (q : Q5) (r : Nat) (pre : List (Nat × Nat)), Rows5 B wr v u pre ∧ Below B w0 wr ∧
    ((whole = false ∧ n = b.length + 1 ∧ (b = [] → p < s.size) ∧ WalkAt s p (p + b.length) b q r pre) ∨ (whole = true ∧ 2 ≤ n ∧ b = [] ∧ WalkAt s (p + n - 1) (p + n - 1) b q r pre))

end Go.Proofs.Ytlcihopklnnhdab
