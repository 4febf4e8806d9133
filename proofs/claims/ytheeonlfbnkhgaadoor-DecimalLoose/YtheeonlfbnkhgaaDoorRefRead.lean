/-
  What the reference's is, digits, number and Make answer.
-/
import Derived.Test.YtheeonlfbnkhgaaDoorDecRead
import Derived.Test.YtheeonlfbnkhgaaDoorRefForm
namespace Go.Proofs.YtheeonlfbnkhgaaDoor
open Go.RowKit Go.Shelf

/-- The number that the reference reckons: beyond the bound it stays as it is. -/
def rsF (s : ByteArray) : Nat → Nat
  | 0 => 0
  | i + 1 => if dgB (lk s i) = true ∧ rsF s i ≤ 1000000000000000 then 10 * rsF s i + (lk s i - 48) else rsF s i
theorem rsF_le (s : ByteArray) : ∀ i, rsF s i ≤ 10000000000000009
  | 0 => by show 0 ≤ _; decide
  | i + 1 => by
    have ih := rsF_le s i
    unfold rsF
    split
    · rename_i h
      have := (dgB_iff _).1 h.1
      omega
    · exact ih
def rsN (s : ByteArray) : Nat → Bool
  | 0 => false
  | i + 1 => rsN s i || decide (lk s i = 45)
def rsV (s : ByteArray) : Int := if rsN s s.size then -((if 1000000000000000 < rsF s s.size then 1000000000000001 else rsF s s.size : Nat) : Int) else ((if 1000000000000000 < rsF s s.size then 1000000000000001 else rsF s s.size : Nat) : Int)
end Go.Proofs.YtheeonlfbnkhgaaDoor
