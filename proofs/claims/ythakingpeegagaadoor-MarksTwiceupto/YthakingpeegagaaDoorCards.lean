/-
  DERIVED. GIVEN WITH THE SEED: THE CARDS: each row of YthakingpeegagaaDoorRows.lean that lists a variable, with what it lists TIED to the program's text (the seventh form; the later family's looks); each row that meets fmt, with fmt's text TOLD by the authors' own Lean function (tested against real Go, not proved from fmt's source: count such statements apart). THE CARD IS WHAT COUNTS. Prove the row's statement (the work); the ties are given (YthakingpeegagaaDoorTie.lean); close each card by the builder's one call (the guide's Derived/Test/ToyasCard.lean, 'card_holds'). Laid BY PROGRAM, IN A SANDBOX (cutbox-door.mjs). By AI agents, Wed Nov 11 2026. No macro, syntax, notation, axiom, sorry.
-/
import Derived.Test.YthakingpeegagaaDoorRows
import GoSem.ClaimSeven
namespace Go.Proofs.YthakingpeegagaaDoor
namespace Rows

/-- THE TIED CARD OF 'quarrylaw08.MarksParts'. -/
def marksPartsCard : Claim7 := { stood := { row := marksPartsRow, standIns := [], harness := (true, "2c7be9da248ba7018c71789cdda2171ec03c210836fe33e1a056465ea07132c5"), looks := false }, kinds := [], alts := [], laidByText := true, laidKinds := [.data, .data], laidTests := true, laidLooks := .later }
def MarksPartsCardSaid : Prop := Claim7.holds Tryd.pinned (.plain (OpenSpec.ofChange marksPartsSpec)) marksPartsCard

/-- THE TIED CARD OF 'quarrylaw08.MarksTwice'. -/
def marksTwiceCard : Claim7 := { stood := { row := marksTwiceRow, standIns := [], harness := (true, "2c7be9da248ba7018c71789cdda2171ec03c210836fe33e1a056465ea07132c5"), looks := false }, kinds := [], alts := [], laidByText := true, laidKinds := [.data, .data], laidTests := true, laidLooks := .later }
def MarksTwiceCardSaid : Prop := Claim7.holds Tryd.pinned (.plain (OpenSpec.ofChange marksTwiceSpec)) marksTwiceCard

/-- THE TIED CARD OF 'quarrylaw08.MarksKeeps'. -/
def marksKeepsCard : Claim7 := { stood := { row := marksKeepsRow, standIns := [], harness := (true, "2c7be9da248ba7018c71789cdda2171ec03c210836fe33e1a056465ea07132c5"), looks := false }, kinds := [], alts := [], laidByText := true, laidKinds := [.data, .data], laidTests := true, laidLooks := .later }
def MarksKeepsCardSaid : Prop := Claim7.holds Tryd.pinned (.plain (OpenSpec.ofChange marksKeepsSpec)) marksKeepsCard

/-- THE SECOND FORM's CARD OF 'quarrylaw08.MarksParts'. -/
def marksPartsUptoCard : Claim7 := { stood := { row := marksPartsUptoRow, standIns := [], harness := (true, "2c7be9da248ba7018c71789cdda2171ec03c210836fe33e1a056465ea07132c5"), looks := false }, kinds := [], alts := [], laidByText := true, laidKinds := [.data, .data], laidTests := true, laidLooks := .later }
def MarksPartsUptoCardSaid : Prop := Claim7.holds Tryd.pinned (.plain (OpenSpec.upto marksPartsSpec)) marksPartsUptoCard

/-- THE SECOND FORM's CARD OF 'quarrylaw08.MarksTwice'. -/
def marksTwiceUptoCard : Claim7 := { stood := { row := marksTwiceUptoRow, standIns := [], harness := (true, "2c7be9da248ba7018c71789cdda2171ec03c210836fe33e1a056465ea07132c5"), looks := false }, kinds := [], alts := [], laidByText := true, laidKinds := [.data, .data], laidTests := true, laidLooks := .later }
def MarksTwiceUptoCardSaid : Prop := Claim7.holds Tryd.pinned (.plain (OpenSpec.upto marksTwiceSpec)) marksTwiceUptoCard

/-- THE SECOND FORM's CARD OF 'quarrylaw08.MarksKeeps'. -/
def marksKeepsUptoCard : Claim7 := { stood := { row := marksKeepsUptoRow, standIns := [], harness := (true, "2c7be9da248ba7018c71789cdda2171ec03c210836fe33e1a056465ea07132c5"), looks := false }, kinds := [], alts := [], laidByText := true, laidKinds := [.data, .data], laidTests := true, laidLooks := .later }
def MarksKeepsUptoCardSaid : Prop := Claim7.holds Tryd.pinned (.plain (OpenSpec.upto marksKeepsSpec)) marksKeepsUptoCard
end Rows
end Go.Proofs.YthakingpeegagaaDoor
