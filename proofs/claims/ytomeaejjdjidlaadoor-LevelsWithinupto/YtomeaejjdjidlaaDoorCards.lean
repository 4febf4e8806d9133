/-
  DERIVED. GIVEN WITH THE SEED: THE CARDS: each row of YtomeaejjdjidlaaDoorRows.lean that lists a variable, with what it lists TIED to the program's text (the seventh form; the later family's looks); each row that meets fmt, with fmt's text TOLD by the authors' own Lean function (tested against real Go, not proved from fmt's source: count such statements apart). THE CARD IS WHAT COUNTS. Prove the row's statement (the work); the ties are given (YtomeaejjdjidlaaDoorTie.lean); close each card by the builder's one call (the guide's Derived/Test/ToyasCard.lean, 'card_holds'). Laid BY PROGRAM, IN A SANDBOX (cutbox-door.mjs). By AI agents, Wed Nov 11 2026. No macro, syntax, notation, axiom, sorry.
-/
import Derived.Test.YtomeaejjdjidlaaDoorRows
import GoSem.ClaimSeven
namespace Go.Proofs.YtomeaejjdjidlaaDoor
namespace Rows

/-- THE TIED CARD OF 'quarrylaw03.WordsSets'. -/
def wordsSetsCard : Claim7 := { stood := { row := wordsSetsRow, standIns := [], harness := (true, "edf70b6628fd3c7bdd0844d63d9d9fe63467871912c2f0345f85e3b6234a3b8a"), looks := false }, kinds := [], alts := [], laidByText := true, laidKinds := [.data], laidTests := true, laidLooks := .later }
def WordsSetsCardSaid : Prop := Claim7.holds Tryd.pinned (.plain (OpenSpec.ofChange wordsSetsSpec)) wordsSetsCard

/-- THE TIED CARD OF 'quarrylaw08.MarksKeeps'. -/
def marksKeepsCard : Claim7 := { stood := { row := marksKeepsRow, standIns := [], harness := (true, "edf70b6628fd3c7bdd0844d63d9d9fe63467871912c2f0345f85e3b6234a3b8a"), looks := false }, kinds := [], alts := [], laidByText := true, laidKinds := [.data, .data], laidTests := true, laidLooks := .later }
def MarksKeepsCardSaid : Prop := Claim7.holds Tryd.pinned (.plain (OpenSpec.ofChange marksKeepsSpec)) marksKeepsCard

/-- THE TIED CARD OF 'quarrylaw10.LevelsWithin'. -/
def levelsWithinCard : Claim7 := { stood := { row := levelsWithinRow, standIns := [], harness := (true, "edf70b6628fd3c7bdd0844d63d9d9fe63467871912c2f0345f85e3b6234a3b8a"), looks := false }, kinds := [], alts := [], laidByText := true, laidKinds := [.data, .data], laidTests := true, laidLooks := .later }
def LevelsWithinCardSaid : Prop := Claim7.holds Tryd.pinned (.plain (OpenSpec.ofChange levelsWithinSpec)) levelsWithinCard

/-- THE TIED CARD OF 'quarrylaw10.LevelsKeeps'. -/
def levelsKeepsCard : Claim7 := { stood := { row := levelsKeepsRow, standIns := [], harness := (true, "edf70b6628fd3c7bdd0844d63d9d9fe63467871912c2f0345f85e3b6234a3b8a"), looks := false }, kinds := [], alts := [], laidByText := true, laidKinds := [.data, .data], laidTests := true, laidLooks := .later }
def LevelsKeepsCardSaid : Prop := Claim7.holds Tryd.pinned (.plain (OpenSpec.ofChange levelsKeepsSpec)) levelsKeepsCard

/-- THE SECOND FORM's CARD OF 'quarrylaw03.WordsSets'. -/
def wordsSetsUptoCard : Claim7 := { stood := { row := wordsSetsUptoRow, standIns := [], harness := (true, "edf70b6628fd3c7bdd0844d63d9d9fe63467871912c2f0345f85e3b6234a3b8a"), looks := false }, kinds := [], alts := [], laidByText := true, laidKinds := [.data], laidTests := true, laidLooks := .later }
def WordsSetsUptoCardSaid : Prop := Claim7.holds Tryd.pinned (.plain (OpenSpec.upto wordsSetsSpec)) wordsSetsUptoCard

/-- THE SECOND FORM's CARD OF 'quarrylaw08.MarksKeeps'. -/
def marksKeepsUptoCard : Claim7 := { stood := { row := marksKeepsUptoRow, standIns := [], harness := (true, "edf70b6628fd3c7bdd0844d63d9d9fe63467871912c2f0345f85e3b6234a3b8a"), looks := false }, kinds := [], alts := [], laidByText := true, laidKinds := [.data, .data], laidTests := true, laidLooks := .later }
def MarksKeepsUptoCardSaid : Prop := Claim7.holds Tryd.pinned (.plain (OpenSpec.upto marksKeepsSpec)) marksKeepsUptoCard

/-- THE SECOND FORM's CARD OF 'quarrylaw10.LevelsWithin'. -/
def levelsWithinUptoCard : Claim7 := { stood := { row := levelsWithinUptoRow, standIns := [], harness := (true, "edf70b6628fd3c7bdd0844d63d9d9fe63467871912c2f0345f85e3b6234a3b8a"), looks := false }, kinds := [], alts := [], laidByText := true, laidKinds := [.data, .data], laidTests := true, laidLooks := .later }
def LevelsWithinUptoCardSaid : Prop := Claim7.holds Tryd.pinned (.plain (OpenSpec.upto levelsWithinSpec)) levelsWithinUptoCard

/-- THE SECOND FORM's CARD OF 'quarrylaw10.LevelsKeeps'. -/
def levelsKeepsUptoCard : Claim7 := { stood := { row := levelsKeepsUptoRow, standIns := [], harness := (true, "edf70b6628fd3c7bdd0844d63d9d9fe63467871912c2f0345f85e3b6234a3b8a"), looks := false }, kinds := [], alts := [], laidByText := true, laidKinds := [.data, .data], laidTests := true, laidLooks := .later }
def LevelsKeepsUptoCardSaid : Prop := Claim7.holds Tryd.pinned (.plain (OpenSpec.upto levelsKeepsSpec)) levelsKeepsUptoCard
end Rows
end Go.Proofs.YtomeaejjdjidlaaDoor
