/-
 TrM, TrM2, TrM3, TrM4, TrM5, TrM6, one behind the other.
-/
import Derived.Test.YtlmjiocdhobopaaGreatDoorTrJA
import Derived.Test.YtlmjiocdhobopaaGreatDoorDecCmp
import Derived.Test.YtlmjiocdhobopaaGreatDoorRefForm
import Derived.Deep.MidRow
/- When two values that are well shaped are alike; quarryref17.covers. -/
namespace Go.Proofs.YtlmjiocdhobopaaGreatDoor
open Go.RowKit Go.Shelf
end Go.Proofs.YtlmjiocdhobopaaGreatDoor
/- quarryref17.covers, where alike is known of the Kids. -/
namespace Go.Proofs.YtlmjiocdhobopaaGreatDoor
open Go.RowKit Go.Shelf
end Go.Proofs.YtlmjiocdhobopaaGreatDoor
/- quarryref17.alike of values that are neither arrays nor objects. -/
namespace Go.Proofs.YtlmjiocdhobopaaGreatDoor
open Go.RowKit Go.Shelf
end Go.Proofs.YtlmjiocdhobopaaGreatDoor
/- quarryref17.alike of arrays, where it is known of the Kids. -/
namespace Go.Proofs.YtlmjiocdhobopaaGreatDoor
open Go.RowKit Go.Shelf
end Go.Proofs.YtlmjiocdhobopaaGreatDoor
/- quarryref17.alike, of objects and of all. -/
namespace Go.Proofs.YtlmjiocdhobopaaGreatDoor
open Go.RowKit Go.Shelf
end Go.Proofs.YtlmjiocdhobopaaGreatDoor
/- quarryref17.alike, of all; Alike, Like. -/
namespace Go.Proofs.YtlmjiocdhobopaaGreatDoor
open Go.RowKit Go.Shelf
mutual
/-- It has no more than 4294967296 names anywhere. -/
def nkV : Vt → Prop
 | .mk _ _ _ _ ks vs => ks.length ≤ 4294967296 ∧ nkL vs
def nkL : List Vt → Prop
 | [] => True
 | v :: vs => nkV v ∧ nkL vs
end
end Go.Proofs.YtlmjiocdhobopaaGreatDoor
