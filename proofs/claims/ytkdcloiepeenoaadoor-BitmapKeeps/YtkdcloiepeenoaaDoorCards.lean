/-
  DERIVED. GIVEN WITH THE SEED: THE CARDS: each row of YtkdcloiepeenoaaDoorRows.lean that lists a variable, with what it lists TIED to the program's text (the seventh form; the later family's looks); each row that meets fmt, with fmt's text TOLD by the authors' own Lean function (tested against real Go, not proved from fmt's source: count such statements apart). THE CARD IS WHAT COUNTS. Prove the row's statement (the work); the ties are given (YtkdcloiepeenoaaDoorTie.lean); close each card by the builder's one call (the guide's Derived/Test/ToyasCard.lean, 'card_holds'). Laid BY PROGRAM, IN A SANDBOX (cutbox-door.mjs). By AI agents, Wed Nov 11 2026. No macro, syntax, notation, axiom, sorry.
-/
import Derived.Test.YtkdcloiepeenoaaDoorRows
import GoSem.ClaimSeven
namespace Go.Proofs.YtkdcloiepeenoaaDoor
namespace Rows

/-- THE TIED CARD OF 'quarrylaw04.BitmapKeeps'. -/
def bitmapKeepsCard : Claim7 := { stood := { row := bitmapKeepsRow, standIns := [], harness := (true, "5c133f4f6f95c7de712ca6e28f20bed5981efd85e71c3d08a2052686c0846f40"), looks := false }, kinds := [], alts := [], laidByText := true, laidKinds := [.data], laidTests := true, laidLooks := .later }
def BitmapKeepsCardSaid : Prop := Claim7.holds Tryd.pinned (.plain (OpenSpec.ofChange bitmapKeepsSpec)) bitmapKeepsCard

/-- THE TIED CARD OF 'quarrylaw06.EscapeMarks'. -/
def escapeMarksCard : Claim7 := { stood := { row := escapeMarksRow, standIns := [], harness := (true, "5c133f4f6f95c7de712ca6e28f20bed5981efd85e71c3d08a2052686c0846f40"), looks := false }, kinds := [], alts := [], laidByText := true, laidKinds := [.data], laidTests := true, laidLooks := .later }
def EscapeMarksCardSaid : Prop := Claim7.holds Tryd.pinned (.plain (OpenSpec.ofChange escapeMarksSpec)) escapeMarksCard

/-- THE TIED CARD OF 'quarrylaw06.EscapeKeeps'. -/
def escapeKeepsCard : Claim7 := { stood := { row := escapeKeepsRow, standIns := [], harness := (true, "5c133f4f6f95c7de712ca6e28f20bed5981efd85e71c3d08a2052686c0846f40"), looks := false }, kinds := [], alts := [], laidByText := true, laidKinds := [.data], laidTests := true, laidLooks := .later }
def EscapeKeepsCardSaid : Prop := Claim7.holds Tryd.pinned (.plain (OpenSpec.ofChange escapeKeepsSpec)) escapeKeepsCard

/-- THE TIED CARD OF 'quarrylaw06.EscapeRows'. -/
def escapeRowsCard : Claim7 := { stood := { row := escapeRowsRow, standIns := [], harness := (true, "5c133f4f6f95c7de712ca6e28f20bed5981efd85e71c3d08a2052686c0846f40"), looks := false }, kinds := [], alts := [], laidByText := true, laidKinds := [.data], laidTests := true, laidLooks := .later }
def EscapeRowsCardSaid : Prop := Claim7.holds Tryd.pinned (.plain (OpenSpec.ofChange escapeRowsSpec)) escapeRowsCard

/-- THE SECOND FORM's CARD OF 'quarrylaw04.BitmapKeeps'. -/
def bitmapKeepsUptoCard : Claim7 := { stood := { row := bitmapKeepsUptoRow, standIns := [], harness := (true, "5c133f4f6f95c7de712ca6e28f20bed5981efd85e71c3d08a2052686c0846f40"), looks := false }, kinds := [], alts := [], laidByText := true, laidKinds := [.data], laidTests := true, laidLooks := .later }
def BitmapKeepsUptoCardSaid : Prop := Claim7.holds Tryd.pinned (.plain (OpenSpec.upto bitmapKeepsSpec)) bitmapKeepsUptoCard

/-- THE SECOND FORM's CARD OF 'quarrylaw06.EscapeMarks'. -/
def escapeMarksUptoCard : Claim7 := { stood := { row := escapeMarksUptoRow, standIns := [], harness := (true, "5c133f4f6f95c7de712ca6e28f20bed5981efd85e71c3d08a2052686c0846f40"), looks := false }, kinds := [], alts := [], laidByText := true, laidKinds := [.data], laidTests := true, laidLooks := .later }
def EscapeMarksUptoCardSaid : Prop := Claim7.holds Tryd.pinned (.plain (OpenSpec.upto escapeMarksSpec)) escapeMarksUptoCard

/-- THE SECOND FORM's CARD OF 'quarrylaw06.EscapeKeeps'. -/
def escapeKeepsUptoCard : Claim7 := { stood := { row := escapeKeepsUptoRow, standIns := [], harness := (true, "5c133f4f6f95c7de712ca6e28f20bed5981efd85e71c3d08a2052686c0846f40"), looks := false }, kinds := [], alts := [], laidByText := true, laidKinds := [.data], laidTests := true, laidLooks := .later }
def EscapeKeepsUptoCardSaid : Prop := Claim7.holds Tryd.pinned (.plain (OpenSpec.upto escapeKeepsSpec)) escapeKeepsUptoCard

/-- THE SECOND FORM's CARD OF 'quarrylaw06.EscapeRows'. -/
def escapeRowsUptoCard : Claim7 := { stood := { row := escapeRowsUptoRow, standIns := [], harness := (true, "5c133f4f6f95c7de712ca6e28f20bed5981efd85e71c3d08a2052686c0846f40"), looks := false }, kinds := [], alts := [], laidByText := true, laidKinds := [.data], laidTests := true, laidLooks := .later }
def EscapeRowsUptoCardSaid : Prop := Claim7.holds Tryd.pinned (.plain (OpenSpec.upto escapeRowsSpec)) escapeRowsUptoCard
end Rows
end Go.Proofs.YtkdcloiepeenoaaDoor
