/-
  DERIVED. GIVEN WITH THE SEED: THE CARDS: each row of YtmgbgphlkhkldaaDoorRows.lean that lists a variable, with what it lists TIED to the program's text (the seventh form; the later family's looks); each row that meets fmt, with fmt's text TOLD by the authors' own Lean function (tested against real Go, not proved from fmt's source: count such statements apart). THE CARD IS WHAT COUNTS. Prove the row's statement (the work); the ties are given (YtmgbgphlkhkldaaDoorTie.lean); close each card by the builder's one call (the guide's Derived/Test/ToyasCard.lean, 'card_holds'). Laid BY PROGRAM, IN A SANDBOX (cutbox-door.mjs). By AI agents, Wed Nov 11 2026. No macro, syntax, notation, axiom, sorry.
-/
import Derived.Test.YtmgbgphlkhkldaaDoorRows
import GoSem.ClaimSeven
namespace Go.Proofs.YtmgbgphlkhkldaaDoor
namespace Rows

/-- THE TIED CARD OF 'quarrylaw08.MarksIndexes'. -/
def marksIndexesCard : Claim7 := { stood := { row := marksIndexesRow, standIns := [], harness := (true, "4739f2fc1068266755f55b0015d40aec517d95826b720ce6601d8550a0521bcc"), looks := false }, kinds := [], alts := [], laidByText := true, laidKinds := [.data, .data], laidTests := true, laidLooks := .later }
def MarksIndexesCardSaid : Prop := Claim7.holds Tryd.pinned (.plain (OpenSpec.ofChange marksIndexesSpec)) marksIndexesCard

/-- THE TIED CARD OF 'quarrylaw08.MarksBlanks'. -/
def marksBlanksCard : Claim7 := { stood := { row := marksBlanksRow, standIns := [], harness := (true, "4739f2fc1068266755f55b0015d40aec517d95826b720ce6601d8550a0521bcc"), looks := false }, kinds := [], alts := [], laidByText := true, laidKinds := [.data, .data], laidTests := true, laidLooks := .later }
def MarksBlanksCardSaid : Prop := Claim7.holds Tryd.pinned (.plain (OpenSpec.ofChange marksBlanksSpec)) marksBlanksCard

/-- THE TIED CARD OF 'quarrylaw08.MarksKinds'. -/
def marksKindsCard : Claim7 := { stood := { row := marksKindsRow, standIns := [], harness := (true, "4739f2fc1068266755f55b0015d40aec517d95826b720ce6601d8550a0521bcc"), looks := false }, kinds := [], alts := [], laidByText := true, laidKinds := [.data, .data], laidTests := true, laidLooks := .later }
def MarksKindsCardSaid : Prop := Claim7.holds Tryd.pinned (.plain (OpenSpec.ofChange marksKindsSpec)) marksKindsCard

/-- THE TIED CARD OF 'quarrylaw08.MarksWords'. -/
def marksWordsCard : Claim7 := { stood := { row := marksWordsRow, standIns := [], harness := (true, "4739f2fc1068266755f55b0015d40aec517d95826b720ce6601d8550a0521bcc"), looks := false }, kinds := [], alts := [], laidByText := true, laidKinds := [.data, .data], laidTests := true, laidLooks := .later }
def MarksWordsCardSaid : Prop := Claim7.holds Tryd.pinned (.plain (OpenSpec.ofChange marksWordsSpec)) marksWordsCard

/-- THE TIED CARD OF 'quarrylaw08.MarksMinifies'. -/
def marksMinifiesCard : Claim7 := { stood := { row := marksMinifiesRow, standIns := [], harness := (true, "4739f2fc1068266755f55b0015d40aec517d95826b720ce6601d8550a0521bcc"), looks := false }, kinds := [], alts := [], laidByText := true, laidKinds := [.data, .data], laidTests := true, laidLooks := .later }
def MarksMinifiesCardSaid : Prop := Claim7.holds Tryd.pinned (.plain (OpenSpec.ofChange marksMinifiesSpec)) marksMinifiesCard

/-- THE TIED CARD OF 'quarrylaw08.MarksParts'. -/
def marksPartsCard : Claim7 := { stood := { row := marksPartsRow, standIns := [], harness := (true, "4739f2fc1068266755f55b0015d40aec517d95826b720ce6601d8550a0521bcc"), looks := false }, kinds := [], alts := [], laidByText := true, laidKinds := [.data, .data], laidTests := true, laidLooks := .later }
def MarksPartsCardSaid : Prop := Claim7.holds Tryd.pinned (.plain (OpenSpec.ofChange marksPartsSpec)) marksPartsCard

/-- THE SECOND FORM's CARD OF 'quarrylaw08.MarksIndexes'. -/
def marksIndexesUptoCard : Claim7 := { stood := { row := marksIndexesUptoRow, standIns := [], harness := (true, "4739f2fc1068266755f55b0015d40aec517d95826b720ce6601d8550a0521bcc"), looks := false }, kinds := [], alts := [], laidByText := true, laidKinds := [.data, .data], laidTests := true, laidLooks := .later }
def MarksIndexesUptoCardSaid : Prop := Claim7.holds Tryd.pinned (.plain (OpenSpec.upto marksIndexesSpec)) marksIndexesUptoCard

/-- THE SECOND FORM's CARD OF 'quarrylaw08.MarksBlanks'. -/
def marksBlanksUptoCard : Claim7 := { stood := { row := marksBlanksUptoRow, standIns := [], harness := (true, "4739f2fc1068266755f55b0015d40aec517d95826b720ce6601d8550a0521bcc"), looks := false }, kinds := [], alts := [], laidByText := true, laidKinds := [.data, .data], laidTests := true, laidLooks := .later }
def MarksBlanksUptoCardSaid : Prop := Claim7.holds Tryd.pinned (.plain (OpenSpec.upto marksBlanksSpec)) marksBlanksUptoCard

/-- THE SECOND FORM's CARD OF 'quarrylaw08.MarksKinds'. -/
def marksKindsUptoCard : Claim7 := { stood := { row := marksKindsUptoRow, standIns := [], harness := (true, "4739f2fc1068266755f55b0015d40aec517d95826b720ce6601d8550a0521bcc"), looks := false }, kinds := [], alts := [], laidByText := true, laidKinds := [.data, .data], laidTests := true, laidLooks := .later }
def MarksKindsUptoCardSaid : Prop := Claim7.holds Tryd.pinned (.plain (OpenSpec.upto marksKindsSpec)) marksKindsUptoCard

/-- THE SECOND FORM's CARD OF 'quarrylaw08.MarksWords'. -/
def marksWordsUptoCard : Claim7 := { stood := { row := marksWordsUptoRow, standIns := [], harness := (true, "4739f2fc1068266755f55b0015d40aec517d95826b720ce6601d8550a0521bcc"), looks := false }, kinds := [], alts := [], laidByText := true, laidKinds := [.data, .data], laidTests := true, laidLooks := .later }
def MarksWordsUptoCardSaid : Prop := Claim7.holds Tryd.pinned (.plain (OpenSpec.upto marksWordsSpec)) marksWordsUptoCard

/-- THE SECOND FORM's CARD OF 'quarrylaw08.MarksMinifies'. -/
def marksMinifiesUptoCard : Claim7 := { stood := { row := marksMinifiesUptoRow, standIns := [], harness := (true, "4739f2fc1068266755f55b0015d40aec517d95826b720ce6601d8550a0521bcc"), looks := false }, kinds := [], alts := [], laidByText := true, laidKinds := [.data, .data], laidTests := true, laidLooks := .later }
def MarksMinifiesUptoCardSaid : Prop := Claim7.holds Tryd.pinned (.plain (OpenSpec.upto marksMinifiesSpec)) marksMinifiesUptoCard

/-- THE SECOND FORM's CARD OF 'quarrylaw08.MarksParts'. -/
def marksPartsUptoCard : Claim7 := { stood := { row := marksPartsUptoRow, standIns := [], harness := (true, "4739f2fc1068266755f55b0015d40aec517d95826b720ce6601d8550a0521bcc"), looks := false }, kinds := [], alts := [], laidByText := true, laidKinds := [.data, .data], laidTests := true, laidLooks := .later }
def MarksPartsUptoCardSaid : Prop := Claim7.holds Tryd.pinned (.plain (OpenSpec.upto marksPartsSpec)) marksPartsUptoCard
end Rows
end Go.Proofs.YtmgbgphlkhkldaaDoor
