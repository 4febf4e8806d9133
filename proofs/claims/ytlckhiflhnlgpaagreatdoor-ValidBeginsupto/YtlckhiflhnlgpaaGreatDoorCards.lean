/-
  DERIVED. GIVEN WITH THE SEED: THE CARDS: each row of YtlckhiflhnlgpaaGreatDoorRows.lean that lists a variable, with what it lists TIED to the program's text (the seventh form; the later family's looks); each row that meets fmt, with fmt's text TOLD by the authors' own Lean function (tested against real Go, not proved from fmt's source: count such statements apart). THE CARD IS WHAT COUNTS. Prove the row's statement (the work); the ties are given (YtlckhiflhnlgpaaGreatDoorTie.lean); close each card by the builder's one call (the guide's Derived/Test/ToyasCard.lean, 'card_holds'). Laid BY PROGRAM, IN A SANDBOX (cutbox-door.mjs). By AI agents, Wed Nov 11 2026. No macro, syntax, notation, axiom, sorry.
-/
import Derived.Test.YtlckhiflhnlgpaaGreatDoorRows
import GoSem.ClaimSeven
namespace Go.Proofs.YtlckhiflhnlgpaaGreatDoor
namespace Rows

/-- THE TIED CARD OF 'quarrylaw16.ValidLimits'. -/
def validLimitsCard : Claim7 := { stood := { row := validLimitsRow, standIns := [], harness := (true, "773d434aec76b7616307f4d6b2423885d63d8ecc07b425234842aca23eb272d8"), looks := true }, kinds := [], alts := [], laidByText := true, laidKinds := [.data, .data, .data, .pinned], laidTests := true, laidLooks := .later }
def ValidLimitsCardSaid : Prop := Claim7.holds Tryz.pinned (.plain (OpenSpec.ofChange validLimitsSpec)) validLimitsCard

/-- THE TIED CARD OF 'quarrylaw16.ValidCheck'. -/
def validCheckCard : Claim7 := { stood := { row := validCheckRow, standIns := [], harness := (true, "773d434aec76b7616307f4d6b2423885d63d8ecc07b425234842aca23eb272d8"), looks := true }, kinds := [], alts := [], laidByText := true, laidKinds := [.data, .data, .data, .pinned], laidTests := true, laidLooks := .later }
def ValidCheckCardSaid : Prop := Claim7.holds Tryz.pinned (.plain (OpenSpec.ofChange validCheckSpec)) validCheckCard

/-- THE TIED CARD OF 'quarrylaw16.ValidScalar'. -/
def validScalarCard : Claim7 := { stood := { row := validScalarRow, standIns := [], harness := (true, "773d434aec76b7616307f4d6b2423885d63d8ecc07b425234842aca23eb272d8"), looks := true }, kinds := [], alts := [], laidByText := true, laidKinds := [.data, .data, .data, .pinned], laidTests := true, laidLooks := .later }
def ValidScalarCardSaid : Prop := Claim7.holds Tryz.pinned (.plain (OpenSpec.ofChange validScalarSpec)) validScalarCard

/-- THE TIED CARD OF 'quarrylaw16.ValidValue'. -/
def validValueCard : Claim7 := { stood := { row := validValueRow, standIns := [], harness := (true, "773d434aec76b7616307f4d6b2423885d63d8ecc07b425234842aca23eb272d8"), looks := true }, kinds := [], alts := [], laidByText := true, laidKinds := [.data, .data, .data, .pinned], laidTests := true, laidLooks := .later }
def ValidValueCardSaid : Prop := Claim7.holds Tryz.pinned (.plain (OpenSpec.ofChange validValueSpec)) validValueCard

/-- THE TIED CARD OF 'quarrylaw16.ValidBegins'. -/
def validBeginsCard : Claim7 := { stood := { row := validBeginsRow, standIns := [], harness := (true, "773d434aec76b7616307f4d6b2423885d63d8ecc07b425234842aca23eb272d8"), looks := true }, kinds := [], alts := [], laidByText := true, laidKinds := [.data, .data, .data, .pinned], laidTests := true, laidLooks := .later }
def ValidBeginsCardSaid : Prop := Claim7.holds Tryz.pinned (.plain (OpenSpec.ofChange validBeginsSpec)) validBeginsCard

/-- THE TIED CARD OF 'quarrylaw16.ValidDepths'. -/
def validDepthsCard : Claim7 := { stood := { row := validDepthsRow, standIns := [], harness := (true, "773d434aec76b7616307f4d6b2423885d63d8ecc07b425234842aca23eb272d8"), looks := true }, kinds := [], alts := [], laidByText := true, laidKinds := [.data, .data, .data, .pinned], laidTests := true, laidLooks := .later }
def ValidDepthsCardSaid : Prop := Claim7.holds Tryz.pinned (.plain (OpenSpec.ofChange validDepthsSpec)) validDepthsCard

/-- THE SECOND FORM's CARD OF 'quarrylaw16.ValidLimits'. -/
def validLimitsUptoCard : Claim7 := { stood := { row := validLimitsUptoRow, standIns := [], harness := (true, "773d434aec76b7616307f4d6b2423885d63d8ecc07b425234842aca23eb272d8"), looks := true }, kinds := [], alts := [], laidByText := true, laidKinds := [.data, .data, .data, .pinned], laidTests := true, laidLooks := .later }
def ValidLimitsUptoCardSaid : Prop := Claim7.holds Tryz.pinned (.plain (OpenSpec.upto validLimitsSpec)) validLimitsUptoCard

/-- THE SECOND FORM's CARD OF 'quarrylaw16.ValidCheck'. -/
def validCheckUptoCard : Claim7 := { stood := { row := validCheckUptoRow, standIns := [], harness := (true, "773d434aec76b7616307f4d6b2423885d63d8ecc07b425234842aca23eb272d8"), looks := true }, kinds := [], alts := [], laidByText := true, laidKinds := [.data, .data, .data, .pinned], laidTests := true, laidLooks := .later }
def ValidCheckUptoCardSaid : Prop := Claim7.holds Tryz.pinned (.plain (OpenSpec.upto validCheckSpec)) validCheckUptoCard

/-- THE SECOND FORM's CARD OF 'quarrylaw16.ValidScalar'. -/
def validScalarUptoCard : Claim7 := { stood := { row := validScalarUptoRow, standIns := [], harness := (true, "773d434aec76b7616307f4d6b2423885d63d8ecc07b425234842aca23eb272d8"), looks := true }, kinds := [], alts := [], laidByText := true, laidKinds := [.data, .data, .data, .pinned], laidTests := true, laidLooks := .later }
def ValidScalarUptoCardSaid : Prop := Claim7.holds Tryz.pinned (.plain (OpenSpec.upto validScalarSpec)) validScalarUptoCard

/-- THE SECOND FORM's CARD OF 'quarrylaw16.ValidValue'. -/
def validValueUptoCard : Claim7 := { stood := { row := validValueUptoRow, standIns := [], harness := (true, "773d434aec76b7616307f4d6b2423885d63d8ecc07b425234842aca23eb272d8"), looks := true }, kinds := [], alts := [], laidByText := true, laidKinds := [.data, .data, .data, .pinned], laidTests := true, laidLooks := .later }
def ValidValueUptoCardSaid : Prop := Claim7.holds Tryz.pinned (.plain (OpenSpec.upto validValueSpec)) validValueUptoCard

/-- THE SECOND FORM's CARD OF 'quarrylaw16.ValidBegins'. -/
def validBeginsUptoCard : Claim7 := { stood := { row := validBeginsUptoRow, standIns := [], harness := (true, "773d434aec76b7616307f4d6b2423885d63d8ecc07b425234842aca23eb272d8"), looks := true }, kinds := [], alts := [], laidByText := true, laidKinds := [.data, .data, .data, .pinned], laidTests := true, laidLooks := .later }
def ValidBeginsUptoCardSaid : Prop := Claim7.holds Tryz.pinned (.plain (OpenSpec.upto validBeginsSpec)) validBeginsUptoCard

/-- THE SECOND FORM's CARD OF 'quarrylaw16.ValidDepths'. -/
def validDepthsUptoCard : Claim7 := { stood := { row := validDepthsUptoRow, standIns := [], harness := (true, "773d434aec76b7616307f4d6b2423885d63d8ecc07b425234842aca23eb272d8"), looks := true }, kinds := [], alts := [], laidByText := true, laidKinds := [.data, .data, .data, .pinned], laidTests := true, laidLooks := .later }
def ValidDepthsUptoCardSaid : Prop := Claim7.holds Tryz.pinned (.plain (OpenSpec.upto validDepthsSpec)) validDepthsUptoCard
end Rows
end Go.Proofs.YtlckhiflhnlgpaaGreatDoor
