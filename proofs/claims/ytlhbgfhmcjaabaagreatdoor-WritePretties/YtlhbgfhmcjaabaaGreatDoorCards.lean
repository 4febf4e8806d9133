/-
  DERIVED. GIVEN WITH THE SEED: THE CARDS: each row of YtlhbgfhmcjaabaaGreatDoorRows.lean that lists a variable, with what it lists TIED to the program's text (the seventh form; the later family's looks); each row that meets fmt, with fmt's text TOLD by the authors' own Lean function (tested against real Go, not proved from fmt's source: count such statements apart). THE CARD IS WHAT COUNTS. Prove the row's statement (the work); the ties are given (YtlhbgfhmcjaabaaGreatDoorTie.lean); close each card by the builder's one call (the guide's Derived/Test/ToyasCard.lean, 'card_holds'). Laid BY PROGRAM, IN A SANDBOX (cutbox-door.mjs). By AI agents, Wed Nov 11 2026. No macro, syntax, notation, axiom, sorry.
-/
import Derived.Test.YtlhbgfhmcjaabaaGreatDoorRows
import GoSem.ClaimSeven
namespace Go.Proofs.YtlhbgfhmcjaabaaGreatDoor
namespace Rows

/-- THE TIED CARD OF 'quarrylaw18.WriteCompacts'. -/
def writeCompactsCard : Claim7 := { stood := { row := writeCompactsRow, standIns := [], harness := (true, "3ed657076a639bd08be82f6f8dc4a98975a5fa9515e63db0df640373b8770b02"), looks := true }, kinds := [], alts := [], laidByText := true, laidKinds := [.data, .data, .data, .data, .pinned], laidTests := true, laidLooks := .later }
def WriteCompactsCardSaid : Prop := Claim7.holds Tryz.pinned (.plain (OpenSpec.ofChange writeCompactsSpec)) writeCompactsCard

/-- THE TIED CARD OF 'quarrylaw18.WritePretties'. -/
def writePrettiesCard : Claim7 := { stood := { row := writePrettiesRow, standIns := [], harness := (true, "3ed657076a639bd08be82f6f8dc4a98975a5fa9515e63db0df640373b8770b02"), looks := true }, kinds := [], alts := [], laidByText := true, laidKinds := [.data, .data, .data, .data, .pinned], laidTests := true, laidLooks := .later }
def WritePrettiesCardSaid : Prop := Claim7.holds Tryz.pinned (.plain (OpenSpec.ofChange writePrettiesSpec)) writePrettiesCard

/-- THE TIED CARD OF 'quarrylaw18.WriteNormals'. -/
def writeNormalsCard : Claim7 := { stood := { row := writeNormalsRow, standIns := [], harness := (true, "3ed657076a639bd08be82f6f8dc4a98975a5fa9515e63db0df640373b8770b02"), looks := true }, kinds := [], alts := [], laidByText := true, laidKinds := [.data, .data, .data, .data, .pinned], laidTests := true, laidLooks := .later }
def WriteNormalsCardSaid : Prop := Claim7.holds Tryz.pinned (.plain (OpenSpec.ofChange writeNormalsSpec)) writeNormalsCard

/-- THE TIED CARD OF 'quarrylaw18.WriteTurns'. -/
def writeTurnsCard : Claim7 := { stood := { row := writeTurnsRow, standIns := [], harness := (true, "3ed657076a639bd08be82f6f8dc4a98975a5fa9515e63db0df640373b8770b02"), looks := true }, kinds := [], alts := [], laidByText := true, laidKinds := [.data, .data, .data, .data, .pinned], laidTests := true, laidLooks := .later }
def WriteTurnsCardSaid : Prop := Claim7.holds Tryz.pinned (.plain (OpenSpec.ofChange writeTurnsSpec)) writeTurnsCard

/-- THE SECOND FORM's CARD OF 'quarrylaw18.WriteCompacts'. -/
def writeCompactsUptoCard : Claim7 := { stood := { row := writeCompactsUptoRow, standIns := [], harness := (true, "3ed657076a639bd08be82f6f8dc4a98975a5fa9515e63db0df640373b8770b02"), looks := true }, kinds := [], alts := [], laidByText := true, laidKinds := [.data, .data, .data, .data, .pinned], laidTests := true, laidLooks := .later }
def WriteCompactsUptoCardSaid : Prop := Claim7.holds Tryz.pinned (.plain (OpenSpec.upto writeCompactsSpec)) writeCompactsUptoCard

/-- THE SECOND FORM's CARD OF 'quarrylaw18.WritePretties'. -/
def writePrettiesUptoCard : Claim7 := { stood := { row := writePrettiesUptoRow, standIns := [], harness := (true, "3ed657076a639bd08be82f6f8dc4a98975a5fa9515e63db0df640373b8770b02"), looks := true }, kinds := [], alts := [], laidByText := true, laidKinds := [.data, .data, .data, .data, .pinned], laidTests := true, laidLooks := .later }
def WritePrettiesUptoCardSaid : Prop := Claim7.holds Tryz.pinned (.plain (OpenSpec.upto writePrettiesSpec)) writePrettiesUptoCard

/-- THE SECOND FORM's CARD OF 'quarrylaw18.WriteNormals'. -/
def writeNormalsUptoCard : Claim7 := { stood := { row := writeNormalsUptoRow, standIns := [], harness := (true, "3ed657076a639bd08be82f6f8dc4a98975a5fa9515e63db0df640373b8770b02"), looks := true }, kinds := [], alts := [], laidByText := true, laidKinds := [.data, .data, .data, .data, .pinned], laidTests := true, laidLooks := .later }
def WriteNormalsUptoCardSaid : Prop := Claim7.holds Tryz.pinned (.plain (OpenSpec.upto writeNormalsSpec)) writeNormalsUptoCard

/-- THE SECOND FORM's CARD OF 'quarrylaw18.WriteTurns'. -/
def writeTurnsUptoCard : Claim7 := { stood := { row := writeTurnsUptoRow, standIns := [], harness := (true, "3ed657076a639bd08be82f6f8dc4a98975a5fa9515e63db0df640373b8770b02"), looks := true }, kinds := [], alts := [], laidByText := true, laidKinds := [.data, .data, .data, .data, .pinned], laidTests := true, laidLooks := .later }
def WriteTurnsUptoCardSaid : Prop := Claim7.holds Tryz.pinned (.plain (OpenSpec.upto writeTurnsSpec)) writeTurnsUptoCard
end Rows
end Go.Proofs.YtlhbgfhmcjaabaaGreatDoor
