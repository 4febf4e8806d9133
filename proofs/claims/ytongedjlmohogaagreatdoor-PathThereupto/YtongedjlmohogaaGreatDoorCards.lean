/-
  DERIVED. GIVEN WITH THE SEED: THE CARDS: each row of YtongedjlmohogaaGreatDoorRows.lean that lists a variable, with what it lists TIED to the program's text (the seventh form; the later family's looks); each row that meets fmt, with fmt's text TOLD by the authors' own Lean function (tested against real Go, not proved from fmt's source: count such statements apart). THE CARD IS WHAT COUNTS. Prove the row's statement (the work); the ties are given (YtongedjlmohogaaGreatDoorTie.lean); close each card by the builder's one call (the guide's Derived/Test/ToyasCard.lean, 'card_holds'). Laid BY PROGRAM, IN A SANDBOX (cutbox-door.mjs). By AI agents, Wed Nov 11 2026. No macro, syntax, notation, axiom, sorry.
-/
import Derived.Test.YtongedjlmohogaaGreatDoorRows
import GoSem.ClaimSeven
namespace Go.Proofs.YtongedjlmohogaaGreatDoor
namespace Rows

/-- THE TIED CARD OF 'quarrylaw22.PathParses'. -/
def pathParsesCard : Claim7 := { stood := { row := pathParsesRow, standIns := [], harness := (true, "5cd7d4cfba77ee1aec8b94daeb48f2bd7541cd9f1a313866ceeff1da463f3cf9"), looks := true }, kinds := [], alts := [], laidByText := true, laidKinds := [.data, .data, .data, .data, .pinned], laidTests := true, laidLooks := .later }
def PathParsesCardSaid : Prop := Claim7.holds Tryz.pinned (.plain (OpenSpec.ofChange pathParsesSpec)) pathParsesCard

/-- THE TIED CARD OF 'quarrylaw22.PathPrints'. -/
def pathPrintsCard : Claim7 := { stood := { row := pathPrintsRow, standIns := [], harness := (true, "5cd7d4cfba77ee1aec8b94daeb48f2bd7541cd9f1a313866ceeff1da463f3cf9"), looks := true }, kinds := [], alts := [], laidByText := true, laidKinds := [.data, .data, .data, .data, .pinned], laidTests := true, laidLooks := .later }
def PathPrintsCardSaid : Prop := Claim7.holds Tryz.pinned (.plain (OpenSpec.ofChange pathPrintsSpec)) pathPrintsCard

/-- THE TIED CARD OF 'quarrylaw22.PathTakes'. -/
def pathTakesCard : Claim7 := { stood := { row := pathTakesRow, standIns := [], harness := (true, "5cd7d4cfba77ee1aec8b94daeb48f2bd7541cd9f1a313866ceeff1da463f3cf9"), looks := true }, kinds := [], alts := [], laidByText := true, laidKinds := [.data, .data, .data, .data, .pinned], laidTests := true, laidLooks := .later }
def PathTakesCardSaid : Prop := Claim7.holds Tryz.pinned (.plain (OpenSpec.ofChange pathTakesSpec)) pathTakesCard

/-- THE TIED CARD OF 'quarrylaw22.PathThere'. -/
def pathThereCard : Claim7 := { stood := { row := pathThereRow, standIns := [], harness := (true, "5cd7d4cfba77ee1aec8b94daeb48f2bd7541cd9f1a313866ceeff1da463f3cf9"), looks := true }, kinds := [], alts := [], laidByText := true, laidKinds := [.data, .data, .data, .data, .pinned], laidTests := true, laidLooks := .later }
def PathThereCardSaid : Prop := Claim7.holds Tryz.pinned (.plain (OpenSpec.ofChange pathThereSpec)) pathThereCard

/-- THE TIED CARD OF 'quarrylaw22.PathBegins'. -/
def pathBeginsCard : Claim7 := { stood := { row := pathBeginsRow, standIns := [], harness := (true, "5cd7d4cfba77ee1aec8b94daeb48f2bd7541cd9f1a313866ceeff1da463f3cf9"), looks := true }, kinds := [], alts := [], laidByText := true, laidKinds := [.data, .data, .data, .data, .pinned], laidTests := true, laidLooks := .later }
def PathBeginsCardSaid : Prop := Claim7.holds Tryz.pinned (.plain (OpenSpec.ofChange pathBeginsSpec)) pathBeginsCard

/-- THE SECOND FORM's CARD OF 'quarrylaw22.PathParses'. -/
def pathParsesUptoCard : Claim7 := { stood := { row := pathParsesUptoRow, standIns := [], harness := (true, "5cd7d4cfba77ee1aec8b94daeb48f2bd7541cd9f1a313866ceeff1da463f3cf9"), looks := true }, kinds := [], alts := [], laidByText := true, laidKinds := [.data, .data, .data, .data, .pinned], laidTests := true, laidLooks := .later }
def PathParsesUptoCardSaid : Prop := Claim7.holds Tryz.pinned (.plain (OpenSpec.upto pathParsesSpec)) pathParsesUptoCard

/-- THE SECOND FORM's CARD OF 'quarrylaw22.PathPrints'. -/
def pathPrintsUptoCard : Claim7 := { stood := { row := pathPrintsUptoRow, standIns := [], harness := (true, "5cd7d4cfba77ee1aec8b94daeb48f2bd7541cd9f1a313866ceeff1da463f3cf9"), looks := true }, kinds := [], alts := [], laidByText := true, laidKinds := [.data, .data, .data, .data, .pinned], laidTests := true, laidLooks := .later }
def PathPrintsUptoCardSaid : Prop := Claim7.holds Tryz.pinned (.plain (OpenSpec.upto pathPrintsSpec)) pathPrintsUptoCard

/-- THE SECOND FORM's CARD OF 'quarrylaw22.PathTakes'. -/
def pathTakesUptoCard : Claim7 := { stood := { row := pathTakesUptoRow, standIns := [], harness := (true, "5cd7d4cfba77ee1aec8b94daeb48f2bd7541cd9f1a313866ceeff1da463f3cf9"), looks := true }, kinds := [], alts := [], laidByText := true, laidKinds := [.data, .data, .data, .data, .pinned], laidTests := true, laidLooks := .later }
def PathTakesUptoCardSaid : Prop := Claim7.holds Tryz.pinned (.plain (OpenSpec.upto pathTakesSpec)) pathTakesUptoCard

/-- THE SECOND FORM's CARD OF 'quarrylaw22.PathThere'. -/
def pathThereUptoCard : Claim7 := { stood := { row := pathThereUptoRow, standIns := [], harness := (true, "5cd7d4cfba77ee1aec8b94daeb48f2bd7541cd9f1a313866ceeff1da463f3cf9"), looks := true }, kinds := [], alts := [], laidByText := true, laidKinds := [.data, .data, .data, .data, .pinned], laidTests := true, laidLooks := .later }
def PathThereUptoCardSaid : Prop := Claim7.holds Tryz.pinned (.plain (OpenSpec.upto pathThereSpec)) pathThereUptoCard

/-- THE SECOND FORM's CARD OF 'quarrylaw22.PathBegins'. -/
def pathBeginsUptoCard : Claim7 := { stood := { row := pathBeginsUptoRow, standIns := [], harness := (true, "5cd7d4cfba77ee1aec8b94daeb48f2bd7541cd9f1a313866ceeff1da463f3cf9"), looks := true }, kinds := [], alts := [], laidByText := true, laidKinds := [.data, .data, .data, .data, .pinned], laidTests := true, laidLooks := .later }
def PathBeginsUptoCardSaid : Prop := Claim7.holds Tryz.pinned (.plain (OpenSpec.upto pathBeginsSpec)) pathBeginsUptoCard
end Rows
end Go.Proofs.YtongedjlmohogaaGreatDoor
