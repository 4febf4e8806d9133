/-
 What texts' functions answer.
-/
import Derived.Test.YtlhbgfhmcjaabaaGreatDoorTxPD
import Derived.Test.YtlhbgfhmcjaabaaGreatDoorRefTx4
import Derived.Test.YtlhbgfhmcjaabaaGreatDoorPack1
import Derived.Laws.AppendOwn
namespace Go.Proofs.YtlhbgfhmcjaabaaGreatDoor
open Go.RowKit Go.Shelf
/-- What the program's functions want of the world: nothing. -/
def Ok15 (_ : World) : Prop := True
theorem Ok15.below {w w' : World} (_ : Ok15 w) (_ : Below w.heap.size w w') : Ok15 w' := trivial
theorem es_calls (s : ByteArray) (hs : s.size ≤ 4294967296) (T : ByteArray) (E : Int) (hU : Hid (wrS s = (T, E))) (w : World) (_ : Ok15 w) :
  Calls Tryz.prog 49 #[.string s] w fun e w' => e = .returned (.tuple #[.string T, .int .i64 E]) ∧ Below w.heap.size w w' := esP_calls s hs T E hU w
end Go.Proofs.YtlhbgfhmcjaabaaGreatDoor
