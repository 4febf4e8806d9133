/-
  DERIVED. GIVEN WITH THE SEED: THE CARDS: each row of YtheeonlfbnkhgaaDoorRows.lean that lists a variable, with what it lists TIED to the program's text (the seventh form; the later family's looks); each row that meets fmt, with fmt's text TOLD by the authors' own Lean function (tested against real Go, not proved from fmt's source: count such statements apart). THE CARD IS WHAT COUNTS. Prove the row's statement (the work); the ties are given (YtheeonlfbnkhgaaDoorTie.lean); close each card by the builder's one call (the guide's Derived/Test/ToyasCard.lean, 'card_holds'). Laid BY PROGRAM, IN A SANDBOX (cutbox-door.mjs). By AI agents, Wed Nov 11 2026. No macro, syntax, notation, axiom, sorry.
-/
import Derived.Test.YtheeonlfbnkhgaaDoorRows
import GoSem.ClaimSeven
namespace Go.Proofs.YtheeonlfbnkhgaaDoor
namespace Rows

/-- THE TIED CARD OF 'quarrylaw11.DecimalLoose'. -/
def decimalLooseCard : Claim7 := { stood := { row := decimalLooseRow, standIns := [], harness := (true, "92ccb5d04e7423d307fb4a8dbbabe76e99c7797423c8861361b56b36ddb6efd0"), looks := false }, kinds := [], alts := [], laidByText := true, laidKinds := [.data, .pinned], laidTests := true, laidLooks := .later }
def DecimalLooseCardSaid : Prop := Claim7.holds Tryd.pinned (.plain (OpenSpec.ofChange decimalLooseSpec)) decimalLooseCard

/-- THE TIED CARD OF 'quarrylaw12.WholeTexts'. -/
def wholeTextsCard : Claim7 := { stood := { row := wholeTextsRow, standIns := [], harness := (true, "92ccb5d04e7423d307fb4a8dbbabe76e99c7797423c8861361b56b36ddb6efd0"), looks := false }, kinds := [], alts := [], laidByText := true, laidKinds := [.data, .data, .data], laidTests := true, laidLooks := .later }
def WholeTextsCardSaid : Prop := Claim7.holds Tryd.pinned (.plain (OpenSpec.ofChange wholeTextsSpec)) wholeTextsCard

/-- THE TIED CARD OF 'quarrylaw12.WholeOnce'. -/
def wholeOnceCard : Claim7 := { stood := { row := wholeOnceRow, standIns := [], harness := (true, "92ccb5d04e7423d307fb4a8dbbabe76e99c7797423c8861361b56b36ddb6efd0"), looks := false }, kinds := [], alts := [], laidByText := true, laidKinds := [.data, .data, .data, .data, .pinned], laidTests := true, laidLooks := .later }
def WholeOnceCardSaid : Prop := Claim7.holds Tryd.pinned (.plain (OpenSpec.ofChange wholeOnceSpec)) wholeOnceCard

/-- THE SECOND FORM's CARD OF 'quarrylaw11.DecimalLoose'. -/
def decimalLooseUptoCard : Claim7 := { stood := { row := decimalLooseUptoRow, standIns := [], harness := (true, "92ccb5d04e7423d307fb4a8dbbabe76e99c7797423c8861361b56b36ddb6efd0"), looks := false }, kinds := [], alts := [], laidByText := true, laidKinds := [.data, .pinned], laidTests := true, laidLooks := .later }
def DecimalLooseUptoCardSaid : Prop := Claim7.holds Tryd.pinned (.plain (OpenSpec.upto decimalLooseSpec)) decimalLooseUptoCard

/-- THE SECOND FORM's CARD OF 'quarrylaw12.WholeTexts'. -/
def wholeTextsUptoCard : Claim7 := { stood := { row := wholeTextsUptoRow, standIns := [], harness := (true, "92ccb5d04e7423d307fb4a8dbbabe76e99c7797423c8861361b56b36ddb6efd0"), looks := false }, kinds := [], alts := [], laidByText := true, laidKinds := [.data, .data, .data], laidTests := true, laidLooks := .later }
def WholeTextsUptoCardSaid : Prop := Claim7.holds Tryd.pinned (.plain (OpenSpec.upto wholeTextsSpec)) wholeTextsUptoCard

/-- THE SECOND FORM's CARD OF 'quarrylaw12.WholeOnce'. -/
def wholeOnceUptoCard : Claim7 := { stood := { row := wholeOnceUptoRow, standIns := [], harness := (true, "92ccb5d04e7423d307fb4a8dbbabe76e99c7797423c8861361b56b36ddb6efd0"), looks := false }, kinds := [], alts := [], laidByText := true, laidKinds := [.data, .data, .data, .data, .pinned], laidTests := true, laidLooks := .later }
def WholeOnceUptoCardSaid : Prop := Claim7.holds Tryd.pinned (.plain (OpenSpec.upto wholeOnceSpec)) wholeOnceUptoCard
end Rows
end Go.Proofs.YtheeonlfbnkhgaaDoor
