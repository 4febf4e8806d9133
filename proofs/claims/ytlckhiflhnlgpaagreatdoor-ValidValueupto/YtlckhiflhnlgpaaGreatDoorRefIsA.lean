/-
  RefIs, RefIs2.
-/
import Derived.Test.YtlckhiflhnlgpaaGreatDoorEscA
import Derived.Laws.AppendOwn
import Derived.Test.YtlckhiflhnlgpaaGreatDoorKitA
/-
  What quarryref06.Odd, Is and Behind answer.
-/
namespace Go.Proofs.YtlckhiflhnlgpaaGreatDoor
open Go.RowKit

end Go.Proofs.YtlckhiflhnlgpaaGreatDoor

/-
  What quarryref06.Is and quarryref06.Behind answer.
-/
namespace Go.Proofs.YtlckhiflhnlgpaaGreatDoor
open Go.RowKit

end Go.Proofs.YtlckhiflhnlgpaaGreatDoor
