/-
  DERIVED. GIVEN WITH THE SEED: THE CARDS: each row of YtkejlejhnnjdkaaGreatDoorRows.lean that lists a variable, with what it lists TIED to the program's text (the seventh form; the later family's looks); each row that meets fmt, with fmt's text TOLD by the authors' own Lean function (tested against real Go, not proved from fmt's source: count such statements apart). THE CARD IS WHAT COUNTS. Prove the row's statement (the work); the ties are given (YtkejlejhnnjdkaaGreatDoorTie.lean); close each card by the builder's one call (the guide's Derived/Test/ToyasCard.lean, 'card_holds'). Laid BY PROGRAM, IN A SANDBOX (cutbox-door.mjs). By AI agents, Wed Nov 11 2026. No macro, syntax, notation, axiom, sorry.
-/
import Derived.Test.YtkejlejhnnjdkaaGreatDoorRows
import GoSem.ClaimSeven
namespace Go.Proofs.YtkejlejhnnjdkaaGreatDoor
namespace Rows

/-- THE TIED CARD OF 'quarrylaw17.TreeParses'. -/
def treeParsesCard : Claim7 := { stood := { row := treeParsesRow, standIns := [], harness := (true, "fdb03bb6a4e1eb96e78b6d0c6446649fb73def7c7f1f3c033e2f5012e83b66de"), looks := true }, kinds := [], alts := [], laidByText := true, laidKinds := [.data, .pinned], laidTests := true, laidLooks := .later }
def TreeParsesCardSaid : Prop := Claim7.holds Tryz.pinned (.plain (OpenSpec.ofChange treeParsesSpec)) treeParsesCard

/-- THE TIED CARD OF 'quarrylaw17.TreeLikeness'. -/
def treeLikenessCard : Claim7 := { stood := { row := treeLikenessRow, standIns := [], harness := (true, "fdb03bb6a4e1eb96e78b6d0c6446649fb73def7c7f1f3c033e2f5012e83b66de"), looks := true }, kinds := [], alts := [], laidByText := true, laidKinds := [.data, .pinned], laidTests := true, laidLooks := .later }
def TreeLikenessCardSaid : Prop := Claim7.holds Tryz.pinned (.plain (OpenSpec.ofChange treeLikenessSpec)) treeLikenessCard

/-- THE SECOND FORM's CARD OF 'quarrylaw17.TreeParses'. -/
def treeParsesUptoCard : Claim7 := { stood := { row := treeParsesUptoRow, standIns := [], harness := (true, "fdb03bb6a4e1eb96e78b6d0c6446649fb73def7c7f1f3c033e2f5012e83b66de"), looks := true }, kinds := [], alts := [], laidByText := true, laidKinds := [.data, .pinned], laidTests := true, laidLooks := .later }
def TreeParsesUptoCardSaid : Prop := Claim7.holds Tryz.pinned (.plain (OpenSpec.upto treeParsesSpec)) treeParsesUptoCard

/-- THE SECOND FORM's CARD OF 'quarrylaw17.TreeLikeness'. -/
def treeLikenessUptoCard : Claim7 := { stood := { row := treeLikenessUptoRow, standIns := [], harness := (true, "fdb03bb6a4e1eb96e78b6d0c6446649fb73def7c7f1f3c033e2f5012e83b66de"), looks := true }, kinds := [], alts := [], laidByText := true, laidKinds := [.data, .pinned], laidTests := true, laidLooks := .later }
def TreeLikenessUptoCardSaid : Prop := Claim7.holds Tryz.pinned (.plain (OpenSpec.upto treeLikenessSpec)) treeLikenessUptoCard
end Rows
end Go.Proofs.YtkejlejhnnjdkaaGreatDoor
