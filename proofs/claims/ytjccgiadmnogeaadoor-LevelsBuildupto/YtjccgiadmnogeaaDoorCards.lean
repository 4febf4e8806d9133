/-
  DERIVED. GIVEN WITH THE SEED: THE CARDS: each row of YtjccgiadmnogeaaDoorRows.lean that lists a variable, with what it lists TIED to the program's text (the seventh form; the later family's looks); each row that meets fmt, with fmt's text TOLD by the authors' own Lean function (tested against real Go, not proved from fmt's source: count such statements apart). THE CARD IS WHAT COUNTS. Prove the row's statement (the work); the ties are given (YtjccgiadmnogeaaDoorTie.lean); close each card by the builder's one call (the guide's Derived/Test/ToyasCard.lean, 'card_holds'). Laid BY PROGRAM, IN A SANDBOX (cutbox-door.mjs). By AI agents, Wed Nov 11 2026. No macro, syntax, notation, axiom, sorry.
-/
import Derived.Test.YtjccgiadmnogeaaDoorRows
import GoSem.ClaimSeven
namespace Go.Proofs.YtjccgiadmnogeaaDoor
namespace Rows

/-- THE TIED CARD OF 'quarrylaw03.WordsSets'. -/
def wordsSetsCard : Claim7 := { stood := { row := wordsSetsRow, standIns := [], harness := (true, "e67634898502845aa1ddedf08f8b590c2a23bada66fcfd57066fa6caef435dee"), looks := false }, kinds := [], alts := [], laidByText := true, laidKinds := [.data], laidTests := true, laidLooks := .later }
def WordsSetsCardSaid : Prop := Claim7.holds Tryd.pinned (.plain (OpenSpec.ofChange wordsSetsSpec)) wordsSetsCard

/-- THE TIED CARD OF 'quarrylaw10.LevelsLimits'. -/
def levelsLimitsCard : Claim7 := { stood := { row := levelsLimitsRow, standIns := [], harness := (true, "e67634898502845aa1ddedf08f8b590c2a23bada66fcfd57066fa6caef435dee"), looks := false }, kinds := [], alts := [], laidByText := true, laidKinds := [.data, .data], laidTests := true, laidLooks := .later }
def LevelsLimitsCardSaid : Prop := Claim7.holds Tryd.pinned (.plain (OpenSpec.ofChange levelsLimitsSpec)) levelsLimitsCard

/-- THE TIED CARD OF 'quarrylaw10.LevelsBuild'. -/
def levelsBuildCard : Claim7 := { stood := { row := levelsBuildRow, standIns := [], harness := (true, "e67634898502845aa1ddedf08f8b590c2a23bada66fcfd57066fa6caef435dee"), looks := false }, kinds := [], alts := [], laidByText := true, laidKinds := [.data, .data], laidTests := true, laidLooks := .later }
def LevelsBuildCardSaid : Prop := Claim7.holds Tryd.pinned (.plain (OpenSpec.ofChange levelsBuildSpec)) levelsBuildCard

/-- THE TIED CARD OF 'quarrylaw10.LevelsWithin'. -/
def levelsWithinCard : Claim7 := { stood := { row := levelsWithinRow, standIns := [], harness := (true, "e67634898502845aa1ddedf08f8b590c2a23bada66fcfd57066fa6caef435dee"), looks := false }, kinds := [], alts := [], laidByText := true, laidKinds := [.data, .data], laidTests := true, laidLooks := .later }
def LevelsWithinCardSaid : Prop := Claim7.holds Tryd.pinned (.plain (OpenSpec.ofChange levelsWithinSpec)) levelsWithinCard

/-- THE TIED CARD OF 'quarrylaw10.LevelsDepth'. -/
def levelsDepthCard : Claim7 := { stood := { row := levelsDepthRow, standIns := [], harness := (true, "e67634898502845aa1ddedf08f8b590c2a23bada66fcfd57066fa6caef435dee"), looks := false }, kinds := [], alts := [], laidByText := true, laidKinds := [.data, .data], laidTests := true, laidLooks := .later }
def LevelsDepthCardSaid : Prop := Claim7.holds Tryd.pinned (.plain (OpenSpec.ofChange levelsDepthSpec)) levelsDepthCard

/-- THE TIED CARD OF 'quarrylaw10.LevelsSteps'. -/
def levelsStepsCard : Claim7 := { stood := { row := levelsStepsRow, standIns := [], harness := (true, "e67634898502845aa1ddedf08f8b590c2a23bada66fcfd57066fa6caef435dee"), looks := false }, kinds := [], alts := [], laidByText := true, laidKinds := [.data, .data], laidTests := true, laidLooks := .later }
def LevelsStepsCardSaid : Prop := Claim7.holds Tryd.pinned (.plain (OpenSpec.ofChange levelsStepsSpec)) levelsStepsCard

/-- THE SECOND FORM's CARD OF 'quarrylaw03.WordsSets'. -/
def wordsSetsUptoCard : Claim7 := { stood := { row := wordsSetsUptoRow, standIns := [], harness := (true, "e67634898502845aa1ddedf08f8b590c2a23bada66fcfd57066fa6caef435dee"), looks := false }, kinds := [], alts := [], laidByText := true, laidKinds := [.data], laidTests := true, laidLooks := .later }
def WordsSetsUptoCardSaid : Prop := Claim7.holds Tryd.pinned (.plain (OpenSpec.upto wordsSetsSpec)) wordsSetsUptoCard

/-- THE SECOND FORM's CARD OF 'quarrylaw10.LevelsLimits'. -/
def levelsLimitsUptoCard : Claim7 := { stood := { row := levelsLimitsUptoRow, standIns := [], harness := (true, "e67634898502845aa1ddedf08f8b590c2a23bada66fcfd57066fa6caef435dee"), looks := false }, kinds := [], alts := [], laidByText := true, laidKinds := [.data, .data], laidTests := true, laidLooks := .later }
def LevelsLimitsUptoCardSaid : Prop := Claim7.holds Tryd.pinned (.plain (OpenSpec.upto levelsLimitsSpec)) levelsLimitsUptoCard

/-- THE SECOND FORM's CARD OF 'quarrylaw10.LevelsBuild'. -/
def levelsBuildUptoCard : Claim7 := { stood := { row := levelsBuildUptoRow, standIns := [], harness := (true, "e67634898502845aa1ddedf08f8b590c2a23bada66fcfd57066fa6caef435dee"), looks := false }, kinds := [], alts := [], laidByText := true, laidKinds := [.data, .data], laidTests := true, laidLooks := .later }
def LevelsBuildUptoCardSaid : Prop := Claim7.holds Tryd.pinned (.plain (OpenSpec.upto levelsBuildSpec)) levelsBuildUptoCard

/-- THE SECOND FORM's CARD OF 'quarrylaw10.LevelsWithin'. -/
def levelsWithinUptoCard : Claim7 := { stood := { row := levelsWithinUptoRow, standIns := [], harness := (true, "e67634898502845aa1ddedf08f8b590c2a23bada66fcfd57066fa6caef435dee"), looks := false }, kinds := [], alts := [], laidByText := true, laidKinds := [.data, .data], laidTests := true, laidLooks := .later }
def LevelsWithinUptoCardSaid : Prop := Claim7.holds Tryd.pinned (.plain (OpenSpec.upto levelsWithinSpec)) levelsWithinUptoCard

/-- THE SECOND FORM's CARD OF 'quarrylaw10.LevelsDepth'. -/
def levelsDepthUptoCard : Claim7 := { stood := { row := levelsDepthUptoRow, standIns := [], harness := (true, "e67634898502845aa1ddedf08f8b590c2a23bada66fcfd57066fa6caef435dee"), looks := false }, kinds := [], alts := [], laidByText := true, laidKinds := [.data, .data], laidTests := true, laidLooks := .later }
def LevelsDepthUptoCardSaid : Prop := Claim7.holds Tryd.pinned (.plain (OpenSpec.upto levelsDepthSpec)) levelsDepthUptoCard

/-- THE SECOND FORM's CARD OF 'quarrylaw10.LevelsSteps'. -/
def levelsStepsUptoCard : Claim7 := { stood := { row := levelsStepsUptoRow, standIns := [], harness := (true, "e67634898502845aa1ddedf08f8b590c2a23bada66fcfd57066fa6caef435dee"), looks := false }, kinds := [], alts := [], laidByText := true, laidKinds := [.data, .data], laidTests := true, laidLooks := .later }
def LevelsStepsUptoCardSaid : Prop := Claim7.holds Tryd.pinned (.plain (OpenSpec.upto levelsStepsSpec)) levelsStepsUptoCard
end Rows
end Go.Proofs.YtjccgiadmnogeaaDoor
