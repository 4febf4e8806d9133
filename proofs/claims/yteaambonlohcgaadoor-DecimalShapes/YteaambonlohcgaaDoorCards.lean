/-
  DERIVED. GIVEN WITH THE SEED: THE CARDS: each row of YteaambonlohcgaaDoorRows.lean that lists a variable, with what it lists TIED to the program's text (the seventh form; the later family's looks); each row that meets fmt, with fmt's text TOLD by the authors' own Lean function (tested against real Go, not proved from fmt's source: count such statements apart). THE CARD IS WHAT COUNTS. Prove the row's statement (the work); the ties are given (YteaambonlohcgaaDoorTie.lean); close each card by the builder's one call (the guide's Derived/Test/ToyasCard.lean, 'card_holds'). Laid BY PROGRAM, IN A SANDBOX (cutbox-door.mjs). By AI agents, Wed Nov 11 2026. No macro, syntax, notation, axiom, sorry.
-/
import Derived.Test.YteaambonlohcgaaDoorRows
import GoSem.ClaimSeven
namespace Go.Proofs.YteaambonlohcgaaDoor
namespace Rows

/-- THE TIED CARD OF 'quarrylaw11.DecimalReads'. -/
def decimalReadsCard : Claim7 := { stood := { row := decimalReadsRow, standIns := [], harness := (true, "db28935d83acef4bb8007ec8228d4ae4b85bc02299a33417adbc069c19ddb360"), looks := false }, kinds := [], alts := [], laidByText := true, laidKinds := [.data, .pinned], laidTests := true, laidLooks := .later }
def DecimalReadsCardSaid : Prop := Claim7.holds Tryd.pinned (.plain (OpenSpec.ofChange decimalReadsSpec)) decimalReadsCard

/-- THE TIED CARD OF 'quarrylaw11.DecimalIs'. -/
def decimalIsCard : Claim7 := { stood := { row := decimalIsRow, standIns := [], harness := (true, "db28935d83acef4bb8007ec8228d4ae4b85bc02299a33417adbc069c19ddb360"), looks := false }, kinds := [], alts := [], laidByText := true, laidKinds := [.data, .pinned], laidTests := true, laidLooks := .later }
def DecimalIsCardSaid : Prop := Claim7.holds Tryd.pinned (.plain (OpenSpec.ofChange decimalIsSpec)) decimalIsCard

/-- THE TIED CARD OF 'quarrylaw11.DecimalShapes'. -/
def decimalShapesCard : Claim7 := { stood := { row := decimalShapesRow, standIns := [], harness := (true, "db28935d83acef4bb8007ec8228d4ae4b85bc02299a33417adbc069c19ddb360"), looks := false }, kinds := [], alts := [], laidByText := true, laidKinds := [.data, .data, .data], laidTests := true, laidLooks := .later }
def DecimalShapesCardSaid : Prop := Claim7.holds Tryd.pinned (.plain (OpenSpec.ofChange decimalShapesSpec)) decimalShapesCard

/-- THE TIED CARD OF 'quarrylaw11.DecimalBack'. -/
def decimalBackCard : Claim7 := { stood := { row := decimalBackRow, standIns := [], harness := (true, "db28935d83acef4bb8007ec8228d4ae4b85bc02299a33417adbc069c19ddb360"), looks := false }, kinds := [], alts := [], laidByText := true, laidKinds := [.data, .data, .data, .data, .pinned], laidTests := true, laidLooks := .later }
def DecimalBackCardSaid : Prop := Claim7.holds Tryd.pinned (.plain (OpenSpec.ofChange decimalBackSpec)) decimalBackCard

/-- THE TIED CARD OF 'quarrylaw11.DecimalSplits'. -/
def decimalSplitsCard : Claim7 := { stood := { row := decimalSplitsRow, standIns := [], harness := (true, "db28935d83acef4bb8007ec8228d4ae4b85bc02299a33417adbc069c19ddb360"), looks := false }, kinds := [], alts := [], laidByText := true, laidKinds := [.data, .pinned], laidTests := true, laidLooks := .later }
def DecimalSplitsCardSaid : Prop := Claim7.holds Tryd.pinned (.plain (OpenSpec.ofChange decimalSplitsSpec)) decimalSplitsCard

/-- THE SECOND FORM's CARD OF 'quarrylaw11.DecimalReads'. -/
def decimalReadsUptoCard : Claim7 := { stood := { row := decimalReadsUptoRow, standIns := [], harness := (true, "db28935d83acef4bb8007ec8228d4ae4b85bc02299a33417adbc069c19ddb360"), looks := false }, kinds := [], alts := [], laidByText := true, laidKinds := [.data, .pinned], laidTests := true, laidLooks := .later }
def DecimalReadsUptoCardSaid : Prop := Claim7.holds Tryd.pinned (.plain (OpenSpec.upto decimalReadsSpec)) decimalReadsUptoCard

/-- THE SECOND FORM's CARD OF 'quarrylaw11.DecimalIs'. -/
def decimalIsUptoCard : Claim7 := { stood := { row := decimalIsUptoRow, standIns := [], harness := (true, "db28935d83acef4bb8007ec8228d4ae4b85bc02299a33417adbc069c19ddb360"), looks := false }, kinds := [], alts := [], laidByText := true, laidKinds := [.data, .pinned], laidTests := true, laidLooks := .later }
def DecimalIsUptoCardSaid : Prop := Claim7.holds Tryd.pinned (.plain (OpenSpec.upto decimalIsSpec)) decimalIsUptoCard

/-- THE SECOND FORM's CARD OF 'quarrylaw11.DecimalShapes'. -/
def decimalShapesUptoCard : Claim7 := { stood := { row := decimalShapesUptoRow, standIns := [], harness := (true, "db28935d83acef4bb8007ec8228d4ae4b85bc02299a33417adbc069c19ddb360"), looks := false }, kinds := [], alts := [], laidByText := true, laidKinds := [.data, .data, .data], laidTests := true, laidLooks := .later }
def DecimalShapesUptoCardSaid : Prop := Claim7.holds Tryd.pinned (.plain (OpenSpec.upto decimalShapesSpec)) decimalShapesUptoCard

/-- THE SECOND FORM's CARD OF 'quarrylaw11.DecimalBack'. -/
def decimalBackUptoCard : Claim7 := { stood := { row := decimalBackUptoRow, standIns := [], harness := (true, "db28935d83acef4bb8007ec8228d4ae4b85bc02299a33417adbc069c19ddb360"), looks := false }, kinds := [], alts := [], laidByText := true, laidKinds := [.data, .data, .data, .data, .pinned], laidTests := true, laidLooks := .later }
def DecimalBackUptoCardSaid : Prop := Claim7.holds Tryd.pinned (.plain (OpenSpec.upto decimalBackSpec)) decimalBackUptoCard

/-- THE SECOND FORM's CARD OF 'quarrylaw11.DecimalSplits'. -/
def decimalSplitsUptoCard : Claim7 := { stood := { row := decimalSplitsUptoRow, standIns := [], harness := (true, "db28935d83acef4bb8007ec8228d4ae4b85bc02299a33417adbc069c19ddb360"), looks := false }, kinds := [], alts := [], laidByText := true, laidKinds := [.data, .pinned], laidTests := true, laidLooks := .later }
def DecimalSplitsUptoCardSaid : Prop := Claim7.holds Tryd.pinned (.plain (OpenSpec.upto decimalSplitsSpec)) decimalSplitsUptoCard
end Rows
end Go.Proofs.YteaambonlohcgaaDoor
