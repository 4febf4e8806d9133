/-
  What bitmap.changed answers of a row of bits.
-/
import Derived.Test.YtmjmcdoanolelabDoorJoinWalk
import Derived.Test.YtmjmcdoanolelabDoorChangedBad
import Derived.Shelf.Abstract
namespace Go.Proofs.YtmjmcdoanolelabDoor
open Go.RowKit Go.Shelf

/-- The function that is handed in makes of the row's words, one behind the other, these; S is what it keeps, in block m. -/
def Turns (n0 n1 m gf : Nat) (lb : Array Value) (k : Nat) (X C : Nat → Nat) (S : Nat → World → Prop) : Prop := (∀ args w, (callFunc gf args).run Tryd.prog w = .ok (.enter gf args) w) ∧
  (∀ j, j < k → C j < 18446744073709551616) ∧ (∀ j w1 w2, S j w1 → Below n1 w1 w2 → S j w2) ∧
  ∀ (j : Nat) (w1 : World), j < k → S j w1 → n1 ≤ w1.heap.size → Calls Tryd.prog gf (#[.int .u64 ((X j : Nat) : Int)] ++ lb) w1 fun e w' => e = .returned (.int .u64 ((C j : Nat) : Int)) ∧ S (j + 1) w' ∧ Below n0 w1 w' ∧ ∀ b cs t, b ≠ m → At w1 b cs t → At w' b cs t

end Go.Proofs.YtmjmcdoanolelabDoor
