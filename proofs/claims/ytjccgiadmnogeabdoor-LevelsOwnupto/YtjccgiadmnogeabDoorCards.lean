/-
  DERIVED. GIVEN WITH THE SEED: THE CARDS: each row of YtjccgiadmnogeabDoorRows.lean that lists a variable, with what it lists TIED to the program's text (the seventh form; the later family's looks); each row that meets fmt, with fmt's text TOLD by the authors' own Lean function (tested against real Go, not proved from fmt's source: count such statements apart). THE CARD IS WHAT COUNTS. Prove the row's statement (the work); the ties are given (YtjccgiadmnogeabDoorTie.lean); close each card by the builder's one call (the guide's Derived/Test/ToyasCard.lean, 'card_holds'). Laid BY PROGRAM, IN A SANDBOX (cutbox-door.mjs). By AI agents, Wed Nov 11 2026. No macro, syntax, notation, axiom, sorry.
-/
import Derived.Test.YtjccgiadmnogeabDoorRows
import GoSem.ClaimSeven
namespace Go.Proofs.YtjccgiadmnogeabDoor
namespace Rows

/-- THE TIED CARD OF 'quarrylaw10.LevelsOwn'. -/
def levelsOwnCard : Claim7 := { stood := { row := levelsOwnRow, standIns := [], harness := (true, "d7ade1f12ce0bbe0270e1b66c92f5d9a5856ef35c7e4eac5060fa1b34b249e39"), looks := false }, kinds := [], alts := [], laidByText := true, laidKinds := [.data, .data], laidTests := true, laidLooks := .later }
def LevelsOwnCardSaid : Prop := Claim7.holds Tryd.pinned (.plain (OpenSpec.ofChange levelsOwnSpec)) levelsOwnCard

/-- THE TIED CARD OF 'quarrylaw10.LevelsWrapped'. -/
def levelsWrappedCard : Claim7 := { stood := { row := levelsWrappedRow, standIns := [], harness := (true, "d7ade1f12ce0bbe0270e1b66c92f5d9a5856ef35c7e4eac5060fa1b34b249e39"), looks := false }, kinds := [], alts := [], laidByText := true, laidKinds := [.data, .data], laidTests := true, laidLooks := .later }
def LevelsWrappedCardSaid : Prop := Claim7.holds Tryd.pinned (.plain (OpenSpec.ofChange levelsWrappedSpec)) levelsWrappedCard

/-- THE TIED CARD OF 'quarrylaw10.LevelsKeeps'. -/
def levelsKeepsCard : Claim7 := { stood := { row := levelsKeepsRow, standIns := [], harness := (true, "d7ade1f12ce0bbe0270e1b66c92f5d9a5856ef35c7e4eac5060fa1b34b249e39"), looks := false }, kinds := [], alts := [], laidByText := true, laidKinds := [.data, .data], laidTests := true, laidLooks := .later }
def LevelsKeepsCardSaid : Prop := Claim7.holds Tryd.pinned (.plain (OpenSpec.ofChange levelsKeepsSpec)) levelsKeepsCard

/-- THE TIED CARD OF 'quarrylaw08.MarksKeeps'. -/
def marksKeepsCard : Claim7 := { stood := { row := marksKeepsRow, standIns := [], harness := (true, "d7ade1f12ce0bbe0270e1b66c92f5d9a5856ef35c7e4eac5060fa1b34b249e39"), looks := false }, kinds := [], alts := [], laidByText := true, laidKinds := [.data, .data], laidTests := true, laidLooks := .later }
def MarksKeepsCardSaid : Prop := Claim7.holds Tryd.pinned (.plain (OpenSpec.ofChange marksKeepsSpec)) marksKeepsCard

/-- THE SECOND FORM's CARD OF 'quarrylaw10.LevelsOwn'. -/
def levelsOwnUptoCard : Claim7 := { stood := { row := levelsOwnUptoRow, standIns := [], harness := (true, "d7ade1f12ce0bbe0270e1b66c92f5d9a5856ef35c7e4eac5060fa1b34b249e39"), looks := false }, kinds := [], alts := [], laidByText := true, laidKinds := [.data, .data], laidTests := true, laidLooks := .later }
def LevelsOwnUptoCardSaid : Prop := Claim7.holds Tryd.pinned (.plain (OpenSpec.upto levelsOwnSpec)) levelsOwnUptoCard

/-- THE SECOND FORM's CARD OF 'quarrylaw10.LevelsWrapped'. -/
def levelsWrappedUptoCard : Claim7 := { stood := { row := levelsWrappedUptoRow, standIns := [], harness := (true, "d7ade1f12ce0bbe0270e1b66c92f5d9a5856ef35c7e4eac5060fa1b34b249e39"), looks := false }, kinds := [], alts := [], laidByText := true, laidKinds := [.data, .data], laidTests := true, laidLooks := .later }
def LevelsWrappedUptoCardSaid : Prop := Claim7.holds Tryd.pinned (.plain (OpenSpec.upto levelsWrappedSpec)) levelsWrappedUptoCard

/-- THE SECOND FORM's CARD OF 'quarrylaw10.LevelsKeeps'. -/
def levelsKeepsUptoCard : Claim7 := { stood := { row := levelsKeepsUptoRow, standIns := [], harness := (true, "d7ade1f12ce0bbe0270e1b66c92f5d9a5856ef35c7e4eac5060fa1b34b249e39"), looks := false }, kinds := [], alts := [], laidByText := true, laidKinds := [.data, .data], laidTests := true, laidLooks := .later }
def LevelsKeepsUptoCardSaid : Prop := Claim7.holds Tryd.pinned (.plain (OpenSpec.upto levelsKeepsSpec)) levelsKeepsUptoCard

/-- THE SECOND FORM's CARD OF 'quarrylaw08.MarksKeeps'. -/
def marksKeepsUptoCard : Claim7 := { stood := { row := marksKeepsUptoRow, standIns := [], harness := (true, "d7ade1f12ce0bbe0270e1b66c92f5d9a5856ef35c7e4eac5060fa1b34b249e39"), looks := false }, kinds := [], alts := [], laidByText := true, laidKinds := [.data, .data], laidTests := true, laidLooks := .later }
def MarksKeepsUptoCardSaid : Prop := Claim7.holds Tryd.pinned (.plain (OpenSpec.upto marksKeepsSpec)) marksKeepsUptoCard
end Rows
end Go.Proofs.YtjccgiadmnogeabDoor
