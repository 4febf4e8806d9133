/-
  DERIVED. GIVEN WITH THE SEED: THE CARDS: each row of YtodhekdnbenobaaDoorRows.lean that lists a variable, with what it lists TIED to the program's text (the seventh form; the later family's looks); each row that meets fmt, with fmt's text TOLD by the authors' own Lean function (tested against real Go, not proved from fmt's source: count such statements apart). THE CARD IS WHAT COUNTS. Prove the row's statement (the work); the ties are given (YtodhekdnbenobaaDoorTie.lean); close each card by the builder's one call (the guide's Derived/Test/ToyasCard.lean, 'card_holds'). Laid BY PROGRAM, IN A SANDBOX (cutbox-door.mjs). By AI agents, Wed Nov 11 2026. No macro, syntax, notation, axiom, sorry.
-/
import Derived.Test.YtodhekdnbenobaaDoorRows
import GoSem.ClaimSeven
namespace Go.Proofs.YtodhekdnbenobaaDoor
namespace Rows

/-- THE TIED CARD OF 'quarrylaw03.WordsSets'. -/
def wordsSetsCard : Claim7 := { stood := { row := wordsSetsRow, standIns := [], harness := (true, "f323b3a2cdd12cd8ac0186b53b20dcf6af6077d7e0a607ef01b1b91b7100d4b4"), looks := false }, kinds := [], alts := [], laidByText := true, laidKinds := [.data], laidTests := true, laidLooks := .later }
def WordsSetsCardSaid : Prop := Claim7.holds Tryd.pinned (.plain (OpenSpec.ofChange wordsSetsSpec)) wordsSetsCard

/-- THE TIED CARD OF 'quarrylaw10.LevelsKeeps'. -/
def levelsKeepsCard : Claim7 := { stood := { row := levelsKeepsRow, standIns := [], harness := (true, "f323b3a2cdd12cd8ac0186b53b20dcf6af6077d7e0a607ef01b1b91b7100d4b4"), looks := false }, kinds := [], alts := [], laidByText := true, laidKinds := [.data, .data], laidTests := true, laidLooks := .later }
def LevelsKeepsCardSaid : Prop := Claim7.holds Tryd.pinned (.plain (OpenSpec.ofChange levelsKeepsSpec)) levelsKeepsCard

/-- THE TIED CARD OF 'quarrylaw10.LevelsWithin'. -/
def levelsWithinCard : Claim7 := { stood := { row := levelsWithinRow, standIns := [], harness := (true, "f323b3a2cdd12cd8ac0186b53b20dcf6af6077d7e0a607ef01b1b91b7100d4b4"), looks := false }, kinds := [], alts := [], laidByText := true, laidKinds := [.data, .data], laidTests := true, laidLooks := .later }
def LevelsWithinCardSaid : Prop := Claim7.holds Tryd.pinned (.plain (OpenSpec.ofChange levelsWithinSpec)) levelsWithinCard

/-- THE SECOND FORM's CARD OF 'quarrylaw03.WordsSets'. -/
def wordsSetsUptoCard : Claim7 := { stood := { row := wordsSetsUptoRow, standIns := [], harness := (true, "f323b3a2cdd12cd8ac0186b53b20dcf6af6077d7e0a607ef01b1b91b7100d4b4"), looks := false }, kinds := [], alts := [], laidByText := true, laidKinds := [.data], laidTests := true, laidLooks := .later }
def WordsSetsUptoCardSaid : Prop := Claim7.holds Tryd.pinned (.plain (OpenSpec.upto wordsSetsSpec)) wordsSetsUptoCard

/-- THE SECOND FORM's CARD OF 'quarrylaw10.LevelsKeeps'. -/
def levelsKeepsUptoCard : Claim7 := { stood := { row := levelsKeepsUptoRow, standIns := [], harness := (true, "f323b3a2cdd12cd8ac0186b53b20dcf6af6077d7e0a607ef01b1b91b7100d4b4"), looks := false }, kinds := [], alts := [], laidByText := true, laidKinds := [.data, .data], laidTests := true, laidLooks := .later }
def LevelsKeepsUptoCardSaid : Prop := Claim7.holds Tryd.pinned (.plain (OpenSpec.upto levelsKeepsSpec)) levelsKeepsUptoCard

/-- THE SECOND FORM's CARD OF 'quarrylaw10.LevelsWithin'. -/
def levelsWithinUptoCard : Claim7 := { stood := { row := levelsWithinUptoRow, standIns := [], harness := (true, "f323b3a2cdd12cd8ac0186b53b20dcf6af6077d7e0a607ef01b1b91b7100d4b4"), looks := false }, kinds := [], alts := [], laidByText := true, laidKinds := [.data, .data], laidTests := true, laidLooks := .later }
def LevelsWithinUptoCardSaid : Prop := Claim7.holds Tryd.pinned (.plain (OpenSpec.upto levelsWithinSpec)) levelsWithinUptoCard
end Rows
end Go.Proofs.YtodhekdnbenobaaDoor
