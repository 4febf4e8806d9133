/-
  DERIVED. GIVEN WITH THE SEED: THE CARDS: each row of YtkoillfkillohabDoorRows.lean that lists a variable, with what it lists TIED to the program's text (the seventh form; the later family's looks); each row that meets fmt, with fmt's text TOLD by the authors' own Lean function (tested against real Go, not proved from fmt's source: count such statements apart). THE CARD IS WHAT COUNTS. Prove the row's statement (the work); the ties are given (YtkoillfkillohabDoorTie.lean); close each card by the builder's one call (the guide's Derived/Test/ToyasCard.lean, 'card_holds'). Laid BY PROGRAM, IN A SANDBOX (cutbox-door.mjs). By AI agents, Wed Nov 11 2026. No macro, syntax, notation, axiom, sorry.
-/
import Derived.Test.YtkoillfkillohabDoorRows
import GoSem.ClaimSeven
namespace Go.Proofs.YtkoillfkillohabDoor
namespace Rows

/-- THE TIED CARD OF 'quarrylaw03.WordsOrders'. -/
def wordsOrdersCard : Claim7 := { stood := { row := wordsOrdersRow, standIns := [], harness := (true, "42cdae8bae454ae405cc7c6c5e0a2ac95a32521857781b5efee805200ec736ef"), looks := false }, kinds := [], alts := [], laidByText := true, laidKinds := [.data], laidTests := true, laidLooks := .later }
def WordsOrdersCardSaid : Prop := Claim7.holds Tryd.pinned (.plain (OpenSpec.ofChange wordsOrdersSpec)) wordsOrdersCard

/-- THE TIED CARD OF 'quarrylaw03.WordsChains'. -/
def wordsChainsCard : Claim7 := { stood := { row := wordsChainsRow, standIns := [], harness := (true, "42cdae8bae454ae405cc7c6c5e0a2ac95a32521857781b5efee805200ec736ef"), looks := false }, kinds := [], alts := [], laidByText := true, laidKinds := [.data], laidTests := true, laidLooks := .later }
def WordsChainsCardSaid : Prop := Claim7.holds Tryd.pinned (.plain (OpenSpec.ofChange wordsChainsSpec)) wordsChainsCard

/-- THE SECOND FORM's CARD OF 'quarrylaw03.WordsOrders'. -/
def wordsOrdersUptoCard : Claim7 := { stood := { row := wordsOrdersUptoRow, standIns := [], harness := (true, "42cdae8bae454ae405cc7c6c5e0a2ac95a32521857781b5efee805200ec736ef"), looks := false }, kinds := [], alts := [], laidByText := true, laidKinds := [.data], laidTests := true, laidLooks := .later }
def WordsOrdersUptoCardSaid : Prop := Claim7.holds Tryd.pinned (.plain (OpenSpec.upto wordsOrdersSpec)) wordsOrdersUptoCard

/-- THE SECOND FORM's CARD OF 'quarrylaw03.WordsChains'. -/
def wordsChainsUptoCard : Claim7 := { stood := { row := wordsChainsUptoRow, standIns := [], harness := (true, "42cdae8bae454ae405cc7c6c5e0a2ac95a32521857781b5efee805200ec736ef"), looks := false }, kinds := [], alts := [], laidByText := true, laidKinds := [.data], laidTests := true, laidLooks := .later }
def WordsChainsUptoCardSaid : Prop := Claim7.holds Tryd.pinned (.plain (OpenSpec.upto wordsChainsSpec)) wordsChainsUptoCard
end Rows
end Go.Proofs.YtkoillfkillohabDoor
