/-
  DERIVED. GIVEN WITH THE SEED: THE CARDS: each row of YtdkcgfcmmdkmpaaDoorRows.lean that lists a variable, with what it lists TIED to the program's text (the seventh form; the later family's looks); each row that meets fmt, with fmt's text TOLD by the authors' own Lean function (tested against real Go, not proved from fmt's source: count such statements apart). THE CARD IS WHAT COUNTS. Prove the row's statement (the work); the ties are given (YtdkcgfcmmdkmpaaDoorTie.lean); close each card by the builder's one call (the guide's Derived/Test/ToyasCard.lean, 'card_holds'). Laid BY PROGRAM, IN A SANDBOX (cutbox-door.mjs). By AI agents, Wed Nov 11 2026. No macro, syntax, notation, axiom, sorry.
-/
import Derived.Test.YtdkcgfcmmdkmpaaDoorRows
import GoSem.ClaimSeven
namespace Go.Proofs.YtdkcgfcmmdkmpaaDoor
namespace Rows

/-- THE TIED CARD OF 'quarrylaw20.PointerPrints'. -/
def pointerPrintsCard : Claim7 := { stood := { row := pointerPrintsRow, standIns := [], harness := (true, "32f96c76b148b49cc013b61b393bb599e489ee088ac7fd0ec9639157e59c4b87"), looks := false }, kinds := [], alts := [], laidByText := true, laidKinds := [.data, .pinned], laidTests := true, laidLooks := .later }
def PointerPrintsCardSaid : Prop := Claim7.holds Tryd.pinned (.plain (OpenSpec.ofChange pointerPrintsSpec)) pointerPrintsCard

/-- THE SECOND FORM's CARD OF 'quarrylaw20.PointerPrints'. -/
def pointerPrintsUptoCard : Claim7 := { stood := { row := pointerPrintsUptoRow, standIns := [], harness := (true, "32f96c76b148b49cc013b61b393bb599e489ee088ac7fd0ec9639157e59c4b87"), looks := false }, kinds := [], alts := [], laidByText := true, laidKinds := [.data, .pinned], laidTests := true, laidLooks := .later }
def PointerPrintsUptoCardSaid : Prop := Claim7.holds Tryd.pinned (.plain (OpenSpec.upto pointerPrintsSpec)) pointerPrintsUptoCard
end Rows
end Go.Proofs.YtdkcgfcmmdkmpaaDoor
