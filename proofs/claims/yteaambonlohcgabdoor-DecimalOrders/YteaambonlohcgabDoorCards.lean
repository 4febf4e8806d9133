/-
  DERIVED. GIVEN WITH THE SEED: THE CARDS: each row of YteaambonlohcgabDoorRows.lean that lists a variable, with what it lists TIED to the program's text (the seventh form; the later family's looks); each row that meets fmt, with fmt's text TOLD by the authors' own Lean function (tested against real Go, not proved from fmt's source: count such statements apart). THE CARD IS WHAT COUNTS. Prove the row's statement (the work); the ties are given (YteaambonlohcgabDoorTie.lean); close each card by the builder's one call (the guide's Derived/Test/ToyasCard.lean, 'card_holds'). Laid BY PROGRAM, IN A SANDBOX (cutbox-door.mjs). By AI agents, Wed Nov 11 2026. No macro, syntax, notation, axiom, sorry.
-/
import Derived.Test.YteaambonlohcgabDoorRows
import GoSem.ClaimSeven
namespace Go.Proofs.YteaambonlohcgabDoor
namespace Rows

/-- THE TIED CARD OF 'quarrylaw11.DecimalOrders'. -/
def decimalOrdersCard : Claim7 := { stood := { row := decimalOrdersRow, standIns := [], harness := (true, "ac1a489567be14f6fa8065d9caa1d17bbd33b411d8f5c7ffc4a5db5f9281769c"), looks := false }, kinds := [], alts := [], laidByText := true, laidKinds := [.data, .pinned], laidTests := true, laidLooks := .later }
def DecimalOrdersCardSaid : Prop := Claim7.holds Tryd.pinned (.plain (OpenSpec.ofChange decimalOrdersSpec)) decimalOrdersCard

/-- THE TIED CARD OF 'quarrylaw11.DecimalLoose'. -/
def decimalLooseCard : Claim7 := { stood := { row := decimalLooseRow, standIns := [], harness := (true, "ac1a489567be14f6fa8065d9caa1d17bbd33b411d8f5c7ffc4a5db5f9281769c"), looks := false }, kinds := [], alts := [], laidByText := true, laidKinds := [.data, .pinned], laidTests := true, laidLooks := .later }
def DecimalLooseCardSaid : Prop := Claim7.holds Tryd.pinned (.plain (OpenSpec.ofChange decimalLooseSpec)) decimalLooseCard

/-- THE SECOND FORM's CARD OF 'quarrylaw11.DecimalOrders'. -/
def decimalOrdersUptoCard : Claim7 := { stood := { row := decimalOrdersUptoRow, standIns := [], harness := (true, "ac1a489567be14f6fa8065d9caa1d17bbd33b411d8f5c7ffc4a5db5f9281769c"), looks := false }, kinds := [], alts := [], laidByText := true, laidKinds := [.data, .pinned], laidTests := true, laidLooks := .later }
def DecimalOrdersUptoCardSaid : Prop := Claim7.holds Tryd.pinned (.plain (OpenSpec.upto decimalOrdersSpec)) decimalOrdersUptoCard

/-- THE SECOND FORM's CARD OF 'quarrylaw11.DecimalLoose'. -/
def decimalLooseUptoCard : Claim7 := { stood := { row := decimalLooseUptoRow, standIns := [], harness := (true, "ac1a489567be14f6fa8065d9caa1d17bbd33b411d8f5c7ffc4a5db5f9281769c"), looks := false }, kinds := [], alts := [], laidByText := true, laidKinds := [.data, .pinned], laidTests := true, laidLooks := .later }
def DecimalLooseUptoCardSaid : Prop := Claim7.holds Tryd.pinned (.plain (OpenSpec.upto decimalLooseSpec)) decimalLooseUptoCard
end Rows
end Go.Proofs.YteaambonlohcgabDoor
