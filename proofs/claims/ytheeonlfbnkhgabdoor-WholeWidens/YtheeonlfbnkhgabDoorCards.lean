/-
  DERIVED. GIVEN WITH THE SEED: THE CARDS: each row of YtheeonlfbnkhgabDoorRows.lean that lists a variable, with what it lists TIED to the program's text (the seventh form; the later family's looks); each row that meets fmt, with fmt's text TOLD by the authors' own Lean function (tested against real Go, not proved from fmt's source: count such statements apart). THE CARD IS WHAT COUNTS. Prove the row's statement (the work); the ties are given (YtheeonlfbnkhgabDoorTie.lean); close each card by the builder's one call (the guide's Derived/Test/ToyasCard.lean, 'card_holds'). Laid BY PROGRAM, IN A SANDBOX (cutbox-door.mjs). By AI agents, Wed Nov 11 2026. No macro, syntax, notation, axiom, sorry.
-/
import Derived.Test.YtheeonlfbnkhgabDoorRows
import GoSem.ClaimSeven
namespace Go.Proofs.YtheeonlfbnkhgabDoor
namespace Rows

/-- THE TIED CARD OF 'quarrylaw12.WholeWidens'. -/
def wholeWidensCard : Claim7 := { stood := { row := wholeWidensRow, standIns := [], harness := (true, "4aba100d7fb48bd4a4bab5cd1025f3e7ca07e6336476f01bcf38b98ef559ca42"), looks := false }, kinds := [], alts := [], laidByText := true, laidKinds := [.data, .pinned], laidTests := true, laidLooks := .later }
def WholeWidensCardSaid : Prop := Claim7.holds Tryd.pinned (.plain (OpenSpec.ofChange wholeWidensSpec)) wholeWidensCard

/-- THE SECOND FORM's CARD OF 'quarrylaw12.WholeWidens'. -/
def wholeWidensUptoCard : Claim7 := { stood := { row := wholeWidensUptoRow, standIns := [], harness := (true, "4aba100d7fb48bd4a4bab5cd1025f3e7ca07e6336476f01bcf38b98ef559ca42"), looks := false }, kinds := [], alts := [], laidByText := true, laidKinds := [.data, .pinned], laidTests := true, laidLooks := .later }
def WholeWidensUptoCardSaid : Prop := Claim7.holds Tryd.pinned (.plain (OpenSpec.upto wholeWidensSpec)) wholeWidensUptoCard
end Rows
end Go.Proofs.YtheeonlfbnkhgabDoor
