/-
  DERIVED. GIVEN WITH THE SEED: THE CARDS: each row of YtdmmofdlokgfmaaDoorRows.lean that lists a variable, with what it lists TIED to the program's text (the seventh form; the later family's looks); each row that meets fmt, with fmt's text TOLD by the authors' own Lean function (tested against real Go, not proved from fmt's source: count such statements apart). THE CARD IS WHAT COUNTS. Prove the row's statement (the work); the ties are given (YtdmmofdlokgfmaaDoorTie.lean); close each card by the builder's one call (the guide's Derived/Test/ToyasCard.lean, 'card_holds'). Laid BY PROGRAM, IN A SANDBOX (cutbox-door.mjs). By AI agents, Wed Nov 11 2026. No macro, syntax, notation, axiom, sorry.
-/
import Derived.Test.YtdmmofdlokgfmaaDoorRows
import GoSem.ClaimSeven
namespace Go.Proofs.YtdmmofdlokgfmaaDoor
namespace Rows

/-- THE TIED CARD OF 'quarrylaw03.WordsSets'. -/
def wordsSetsCard : Claim7 := { stood := { row := wordsSetsRow, standIns := [], harness := (true, "f5a973f96bd8c908cce00dc0f3c67c8eed21caea882460cda31abc7a7a338371"), looks := false }, kinds := [], alts := [], laidByText := true, laidKinds := [.data], laidTests := true, laidLooks := .later }
def WordsSetsCardSaid : Prop := Claim7.holds Tryd.pinned (.plain (OpenSpec.ofChange wordsSetsSpec)) wordsSetsCard

/-- THE TIED CARD OF 'quarrylaw09.PiecesParts'. -/
def piecesPartsCard : Claim7 := { stood := { row := piecesPartsRow, standIns := [], harness := (true, "f5a973f96bd8c908cce00dc0f3c67c8eed21caea882460cda31abc7a7a338371"), looks := false }, kinds := [], alts := [], laidByText := true, laidKinds := [.data, .data, .pinned], laidTests := true, laidLooks := .later }
def PiecesPartsCardSaid : Prop := Claim7.holds Tryd.pinned (.plain (OpenSpec.ofChange piecesPartsSpec)) piecesPartsCard

/-- THE TIED CARD OF 'quarrylaw09.PiecesJoins'. -/
def piecesJoinsCard : Claim7 := { stood := { row := piecesJoinsRow, standIns := [], harness := (true, "f5a973f96bd8c908cce00dc0f3c67c8eed21caea882460cda31abc7a7a338371"), looks := false }, kinds := [], alts := [], laidByText := true, laidKinds := [.data, .data, .pinned], laidTests := true, laidLooks := .later }
def PiecesJoinsCardSaid : Prop := Claim7.holds Tryd.pinned (.plain (OpenSpec.ofChange piecesJoinsSpec)) piecesJoinsCard

/-- THE TIED CARD OF 'quarrylaw09.PiecesGroups'. -/
def piecesGroupsCard : Claim7 := { stood := { row := piecesGroupsRow, standIns := [], harness := (true, "f5a973f96bd8c908cce00dc0f3c67c8eed21caea882460cda31abc7a7a338371"), looks := false }, kinds := [], alts := [], laidByText := true, laidKinds := [.data, .data, .pinned], laidTests := true, laidLooks := .later }
def PiecesGroupsCardSaid : Prop := Claim7.holds Tryd.pinned (.plain (OpenSpec.ofChange piecesGroupsSpec)) piecesGroupsCard

/-- THE TIED CARD OF 'quarrylaw09.PiecesStates'. -/
def piecesStatesCard : Claim7 := { stood := { row := piecesStatesRow, standIns := [], harness := (true, "f5a973f96bd8c908cce00dc0f3c67c8eed21caea882460cda31abc7a7a338371"), looks := false }, kinds := [], alts := [], laidByText := true, laidKinds := [.data, .data, .pinned], laidTests := true, laidLooks := .later }
def PiecesStatesCardSaid : Prop := Claim7.holds Tryd.pinned (.plain (OpenSpec.ofChange piecesStatesSpec)) piecesStatesCard

/-- THE SECOND FORM's CARD OF 'quarrylaw03.WordsSets'. -/
def wordsSetsUptoCard : Claim7 := { stood := { row := wordsSetsUptoRow, standIns := [], harness := (true, "f5a973f96bd8c908cce00dc0f3c67c8eed21caea882460cda31abc7a7a338371"), looks := false }, kinds := [], alts := [], laidByText := true, laidKinds := [.data], laidTests := true, laidLooks := .later }
def WordsSetsUptoCardSaid : Prop := Claim7.holds Tryd.pinned (.plain (OpenSpec.upto wordsSetsSpec)) wordsSetsUptoCard

/-- THE SECOND FORM's CARD OF 'quarrylaw09.PiecesParts'. -/
def piecesPartsUptoCard : Claim7 := { stood := { row := piecesPartsUptoRow, standIns := [], harness := (true, "f5a973f96bd8c908cce00dc0f3c67c8eed21caea882460cda31abc7a7a338371"), looks := false }, kinds := [], alts := [], laidByText := true, laidKinds := [.data, .data, .pinned], laidTests := true, laidLooks := .later }
def PiecesPartsUptoCardSaid : Prop := Claim7.holds Tryd.pinned (.plain (OpenSpec.upto piecesPartsSpec)) piecesPartsUptoCard

/-- THE SECOND FORM's CARD OF 'quarrylaw09.PiecesJoins'. -/
def piecesJoinsUptoCard : Claim7 := { stood := { row := piecesJoinsUptoRow, standIns := [], harness := (true, "f5a973f96bd8c908cce00dc0f3c67c8eed21caea882460cda31abc7a7a338371"), looks := false }, kinds := [], alts := [], laidByText := true, laidKinds := [.data, .data, .pinned], laidTests := true, laidLooks := .later }
def PiecesJoinsUptoCardSaid : Prop := Claim7.holds Tryd.pinned (.plain (OpenSpec.upto piecesJoinsSpec)) piecesJoinsUptoCard

/-- THE SECOND FORM's CARD OF 'quarrylaw09.PiecesGroups'. -/
def piecesGroupsUptoCard : Claim7 := { stood := { row := piecesGroupsUptoRow, standIns := [], harness := (true, "f5a973f96bd8c908cce00dc0f3c67c8eed21caea882460cda31abc7a7a338371"), looks := false }, kinds := [], alts := [], laidByText := true, laidKinds := [.data, .data, .pinned], laidTests := true, laidLooks := .later }
def PiecesGroupsUptoCardSaid : Prop := Claim7.holds Tryd.pinned (.plain (OpenSpec.upto piecesGroupsSpec)) piecesGroupsUptoCard

/-- THE SECOND FORM's CARD OF 'quarrylaw09.PiecesStates'. -/
def piecesStatesUptoCard : Claim7 := { stood := { row := piecesStatesUptoRow, standIns := [], harness := (true, "f5a973f96bd8c908cce00dc0f3c67c8eed21caea882460cda31abc7a7a338371"), looks := false }, kinds := [], alts := [], laidByText := true, laidKinds := [.data, .data, .pinned], laidTests := true, laidLooks := .later }
def PiecesStatesUptoCardSaid : Prop := Claim7.holds Tryd.pinned (.plain (OpenSpec.upto piecesStatesSpec)) piecesStatesUptoCard
end Rows
end Go.Proofs.YtdmmofdlokgfmaaDoor
