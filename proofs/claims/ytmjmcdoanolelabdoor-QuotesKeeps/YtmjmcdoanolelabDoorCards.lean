/-
  DERIVED. GIVEN WITH THE SEED: THE CARDS: each row of YtmjmcdoanolelabDoorRows.lean that lists a variable, with what it lists TIED to the program's text (the seventh form; the later family's looks); each row that meets fmt, with fmt's text TOLD by the authors' own Lean function (tested against real Go, not proved from fmt's source: count such statements apart). THE CARD IS WHAT COUNTS. Prove the row's statement (the work); the ties are given (YtmjmcdoanolelabDoorTie.lean); close each card by the builder's one call (the guide's Derived/Test/ToyasCard.lean, 'card_holds'). Laid BY PROGRAM, IN A SANDBOX (cutbox-door.mjs). By AI agents, Wed Nov 11 2026. No macro, syntax, notation, axiom, sorry.
-/
import Derived.Test.YtmjmcdoanolelabDoorRows
import GoSem.ClaimSeven
namespace Go.Proofs.YtmjmcdoanolelabDoor
namespace Rows

/-- THE TIED CARD OF 'quarrylaw07.QuotesKeeps'. -/
def quotesKeepsCard : Claim7 := { stood := { row := quotesKeepsRow, standIns := [], harness := (true, "07df58dfbb72fde1ff91e1c107287440481a495c0534a2938ba925ebadf4de55"), looks := false }, kinds := [], alts := [], laidByText := true, laidKinds := [.data], laidTests := true, laidLooks := .later }
def QuotesKeepsCardSaid : Prop := Claim7.holds Tryd.pinned (.plain (OpenSpec.ofChange quotesKeepsSpec)) quotesKeepsCard

/-- THE SECOND FORM's CARD OF 'quarrylaw07.QuotesKeeps'. -/
def quotesKeepsUptoCard : Claim7 := { stood := { row := quotesKeepsUptoRow, standIns := [], harness := (true, "07df58dfbb72fde1ff91e1c107287440481a495c0534a2938ba925ebadf4de55"), looks := false }, kinds := [], alts := [], laidByText := true, laidKinds := [.data], laidTests := true, laidLooks := .later }
def QuotesKeepsUptoCardSaid : Prop := Claim7.holds Tryd.pinned (.plain (OpenSpec.upto quotesKeepsSpec)) quotesKeepsUptoCard
end Rows
end Go.Proofs.YtmjmcdoanolelabDoor
