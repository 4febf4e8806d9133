/-
  DERIVED. GIVEN WITH THE SEED: THE CARDS: each row of YtlckhiflhnlgpabGreatDoorRows.lean that lists a variable, with what it lists TIED to the program's text (the seventh form; the later family's looks); each row that meets fmt, with fmt's text TOLD by the authors' own Lean function (tested against real Go, not proved from fmt's source: count such statements apart). THE CARD IS WHAT COUNTS. Prove the row's statement (the work); the ties are given (YtlckhiflhnlgpabGreatDoorTie.lean); close each card by the builder's one call (the guide's Derived/Test/ToyasCard.lean, 'card_holds'). Laid BY PROGRAM, IN A SANDBOX (cutbox-door.mjs). By AI agents, Wed Nov 11 2026. No macro, syntax, notation, axiom, sorry.
-/
import Derived.Test.YtlckhiflhnlgpabGreatDoorRows
import GoSem.ClaimSeven
namespace Go.Proofs.YtlckhiflhnlgpabGreatDoor
namespace Rows

/-- THE TIED CARD OF 'quarrylaw16.ValidWraps'. -/
def validWrapsCard : Claim7 := { stood := { row := validWrapsRow, standIns := [], harness := (true, "b4989b06d65e741c683046f2fbcb29f27de2d97a2c1e73bb62b3717a3a5499e6"), looks := true }, kinds := [], alts := [], laidByText := true, laidKinds := [.data, .data, .data, .pinned], laidTests := true, laidLooks := .later }
def ValidWrapsCardSaid : Prop := Claim7.holds Tryz.pinned (.plain (OpenSpec.ofChange validWrapsSpec)) validWrapsCard

/-- THE TIED CARD OF 'quarrylaw16.ValidParts'. -/
def validPartsCard : Claim7 := { stood := { row := validPartsRow, standIns := [], harness := (true, "b4989b06d65e741c683046f2fbcb29f27de2d97a2c1e73bb62b3717a3a5499e6"), looks := true }, kinds := [], alts := [], laidByText := true, laidKinds := [.data, .data, .data, .pinned], laidTests := true, laidLooks := .later }
def ValidPartsCardSaid : Prop := Claim7.holds Tryz.pinned (.plain (OpenSpec.ofChange validPartsSpec)) validPartsCard

/-- THE SECOND FORM's CARD OF 'quarrylaw16.ValidWraps'. -/
def validWrapsUptoCard : Claim7 := { stood := { row := validWrapsUptoRow, standIns := [], harness := (true, "b4989b06d65e741c683046f2fbcb29f27de2d97a2c1e73bb62b3717a3a5499e6"), looks := true }, kinds := [], alts := [], laidByText := true, laidKinds := [.data, .data, .data, .pinned], laidTests := true, laidLooks := .later }
def ValidWrapsUptoCardSaid : Prop := Claim7.holds Tryz.pinned (.plain (OpenSpec.upto validWrapsSpec)) validWrapsUptoCard

/-- THE SECOND FORM's CARD OF 'quarrylaw16.ValidParts'. -/
def validPartsUptoCard : Claim7 := { stood := { row := validPartsUptoRow, standIns := [], harness := (true, "b4989b06d65e741c683046f2fbcb29f27de2d97a2c1e73bb62b3717a3a5499e6"), looks := true }, kinds := [], alts := [], laidByText := true, laidKinds := [.data, .data, .data, .pinned], laidTests := true, laidLooks := .later }
def ValidPartsUptoCardSaid : Prop := Claim7.holds Tryz.pinned (.plain (OpenSpec.upto validPartsSpec)) validPartsUptoCard
end Rows
end Go.Proofs.YtlckhiflhnlgpabGreatDoor
