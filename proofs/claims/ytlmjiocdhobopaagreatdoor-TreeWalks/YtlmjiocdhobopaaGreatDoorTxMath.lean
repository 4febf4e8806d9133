/-
 What stands between quotes, and what it means: in numbers.
-/
import Derived.Test.YtlmjiocdhobopaaGreatDoorUtf8A
namespace Go.Proofs.YtlmjiocdhobopaaGreatDoor
/-- A list's number at a place, 0 behind its end. -/
def lb (l : List Nat) (i : Nat) : Nat := l.getD i 0
end Go.Proofs.YtlmjiocdhobopaaGreatDoor
