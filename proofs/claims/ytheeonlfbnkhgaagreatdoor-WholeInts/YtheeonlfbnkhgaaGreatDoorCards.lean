/-
  DERIVED. GIVEN WITH THE SEED: THE CARDS: each row of YtheeonlfbnkhgaaGreatDoorRows.lean that lists a variable, with what it lists TIED to the program's text (the seventh form; the later family's looks); each row that meets fmt, with fmt's text TOLD by the authors' own Lean function (tested against real Go, not proved from fmt's source: count such statements apart). THE CARD IS WHAT COUNTS. Prove the row's statement (the work); the ties are given (YtheeonlfbnkhgaaGreatDoorTie.lean); close each card by the builder's one call (the guide's Derived/Test/ToyasCard.lean, 'card_holds'). Laid BY PROGRAM, IN A SANDBOX (cutbox-door.mjs). By AI agents, Wed Nov 11 2026. No macro, syntax, notation, axiom, sorry.
-/
import Derived.Test.YtheeonlfbnkhgaaGreatDoorRows
import GoSem.ClaimSeven
namespace Go.Proofs.YtheeonlfbnkhgaaGreatDoor
namespace Rows

/-- THE TIED CARD OF 'quarrylaw12.WholeInts'. -/
def wholeIntsCard : Claim7 := { stood := { row := wholeIntsRow, standIns := [], harness := (true, "c2dd82632f755060a0a765710a1bef429de8f1c7f868bb8b5d41f1d9c6f3d609"), looks := false }, kinds := [], alts := [], laidByText := true, laidKinds := [.data, .data, .data, .data, .pinned], laidTests := true, laidLooks := .later }
def WholeIntsCardSaid : Prop := Claim7.holds Tryz.pinned (.plain (OpenSpec.ofChange wholeIntsSpec)) wholeIntsCard

/-- THE TIED CARD OF 'quarrylaw12.WholeUints'. -/
def wholeUintsCard : Claim7 := { stood := { row := wholeUintsRow, standIns := [], harness := (true, "c2dd82632f755060a0a765710a1bef429de8f1c7f868bb8b5d41f1d9c6f3d609"), looks := false }, kinds := [], alts := [], laidByText := true, laidKinds := [.data, .data, .data, .data, .pinned], laidTests := true, laidLooks := .later }
def WholeUintsCardSaid : Prop := Claim7.holds Tryz.pinned (.plain (OpenSpec.ofChange wholeUintsSpec)) wholeUintsCard

/-- THE TIED CARD OF 'quarrylaw12.WholeBack'. -/
def wholeBackCard : Claim7 := { stood := { row := wholeBackRow, standIns := [], harness := (true, "c2dd82632f755060a0a765710a1bef429de8f1c7f868bb8b5d41f1d9c6f3d609"), looks := false }, kinds := [], alts := [], laidByText := true, laidKinds := [.data, .data, .data, .data, .pinned], laidTests := true, laidLooks := .later }
def WholeBackCardSaid : Prop := Claim7.holds Tryz.pinned (.plain (OpenSpec.ofChange wholeBackSpec)) wholeBackCard

/-- THE SECOND FORM's CARD OF 'quarrylaw12.WholeInts'. -/
def wholeIntsUptoCard : Claim7 := { stood := { row := wholeIntsUptoRow, standIns := [], harness := (true, "c2dd82632f755060a0a765710a1bef429de8f1c7f868bb8b5d41f1d9c6f3d609"), looks := false }, kinds := [], alts := [], laidByText := true, laidKinds := [.data, .data, .data, .data, .pinned], laidTests := true, laidLooks := .later }
def WholeIntsUptoCardSaid : Prop := Claim7.holds Tryz.pinned (.plain (OpenSpec.upto wholeIntsSpec)) wholeIntsUptoCard

/-- THE SECOND FORM's CARD OF 'quarrylaw12.WholeUints'. -/
def wholeUintsUptoCard : Claim7 := { stood := { row := wholeUintsUptoRow, standIns := [], harness := (true, "c2dd82632f755060a0a765710a1bef429de8f1c7f868bb8b5d41f1d9c6f3d609"), looks := false }, kinds := [], alts := [], laidByText := true, laidKinds := [.data, .data, .data, .data, .pinned], laidTests := true, laidLooks := .later }
def WholeUintsUptoCardSaid : Prop := Claim7.holds Tryz.pinned (.plain (OpenSpec.upto wholeUintsSpec)) wholeUintsUptoCard

/-- THE SECOND FORM's CARD OF 'quarrylaw12.WholeBack'. -/
def wholeBackUptoCard : Claim7 := { stood := { row := wholeBackUptoRow, standIns := [], harness := (true, "c2dd82632f755060a0a765710a1bef429de8f1c7f868bb8b5d41f1d9c6f3d609"), looks := false }, kinds := [], alts := [], laidByText := true, laidKinds := [.data, .data, .data, .data, .pinned], laidTests := true, laidLooks := .later }
def WholeBackUptoCardSaid : Prop := Claim7.holds Tryz.pinned (.plain (OpenSpec.upto wholeBackSpec)) wholeBackUptoCard
end Rows
end Go.Proofs.YtheeonlfbnkhgaaGreatDoor
