/-
  DERIVED. GIVEN WITH THE SEED: THE CARDS: each row of YtmjmcdoanolelaaDoorRows.lean that lists a variable, with what it lists TIED to the program's text (the seventh form; the later family's looks); each row that meets fmt, with fmt's text TOLD by the authors' own Lean function (tested against real Go, not proved from fmt's source: count such statements apart). THE CARD IS WHAT COUNTS. Prove the row's statement (the work); the ties are given (YtmjmcdoanolelaaDoorTie.lean); close each card by the builder's one call (the guide's Derived/Test/ToyasCard.lean, 'card_holds'). Laid BY PROGRAM, IN A SANDBOX (cutbox-door.mjs). By AI agents, Wed Nov 11 2026. No macro, syntax, notation, axiom, sorry.
-/
import Derived.Test.YtmjmcdoanolelaaDoorRows
import GoSem.ClaimSeven
namespace Go.Proofs.YtmjmcdoanolelaaDoor
namespace Rows

/-- THE TIED CARD OF 'quarrylaw07.QuotesMarks'. -/
def quotesMarksCard : Claim7 := { stood := { row := quotesMarksRow, standIns := [], harness := (true, "b11ef35151428dbfc8f45bd7bda9906e883b93b363adda5527b1cea8fbc3a701"), looks := false }, kinds := [], alts := [], laidByText := true, laidKinds := [.data], laidTests := true, laidLooks := .later }
def QuotesMarksCardSaid : Prop := Claim7.holds Tryd.pinned (.plain (OpenSpec.ofChange quotesMarksSpec)) quotesMarksCard

/-- THE TIED CARD OF 'quarrylaw07.QuotesControl'. -/
def quotesControlCard : Claim7 := { stood := { row := quotesControlRow, standIns := [], harness := (true, "b11ef35151428dbfc8f45bd7bda9906e883b93b363adda5527b1cea8fbc3a701"), looks := false }, kinds := [], alts := [], laidByText := true, laidKinds := [.data], laidTests := true, laidLooks := .later }
def QuotesControlCardSaid : Prop := Claim7.holds Tryd.pinned (.plain (OpenSpec.ofChange quotesControlSpec)) quotesControlCard

/-- THE TIED CARD OF 'quarrylaw07.QuotesTexts'. -/
def quotesTextsCard : Claim7 := { stood := { row := quotesTextsRow, standIns := [], harness := (true, "b11ef35151428dbfc8f45bd7bda9906e883b93b363adda5527b1cea8fbc3a701"), looks := false }, kinds := [], alts := [], laidByText := true, laidKinds := [.data], laidTests := true, laidLooks := .later }
def QuotesTextsCardSaid : Prop := Claim7.holds Tryd.pinned (.plain (OpenSpec.ofChange quotesTextsSpec)) quotesTextsCard

/-- THE TIED CARD OF 'quarrylaw07.QuotesTurns'. -/
def quotesTurnsCard : Claim7 := { stood := { row := quotesTurnsRow, standIns := [], harness := (true, "b11ef35151428dbfc8f45bd7bda9906e883b93b363adda5527b1cea8fbc3a701"), looks := false }, kinds := [], alts := [], laidByText := true, laidKinds := [.data], laidTests := true, laidLooks := .later }
def QuotesTurnsCardSaid : Prop := Claim7.holds Tryd.pinned (.plain (OpenSpec.ofChange quotesTurnsSpec)) quotesTurnsCard

/-- THE TIED CARD OF 'quarrylaw07.QuotesBehind'. -/
def quotesBehindCard : Claim7 := { stood := { row := quotesBehindRow, standIns := [], harness := (true, "b11ef35151428dbfc8f45bd7bda9906e883b93b363adda5527b1cea8fbc3a701"), looks := false }, kinds := [], alts := [], laidByText := true, laidKinds := [.data], laidTests := true, laidLooks := .later }
def QuotesBehindCardSaid : Prop := Claim7.holds Tryd.pinned (.plain (OpenSpec.ofChange quotesBehindSpec)) quotesBehindCard

/-- THE TIED CARD OF 'quarrylaw07.QuotesSpans'. -/
def quotesSpansCard : Claim7 := { stood := { row := quotesSpansRow, standIns := [], harness := (true, "b11ef35151428dbfc8f45bd7bda9906e883b93b363adda5527b1cea8fbc3a701"), looks := false }, kinds := [], alts := [], laidByText := true, laidKinds := [.data], laidTests := true, laidLooks := .later }
def QuotesSpansCardSaid : Prop := Claim7.holds Tryd.pinned (.plain (OpenSpec.ofChange quotesSpansSpec)) quotesSpansCard

/-- THE SECOND FORM's CARD OF 'quarrylaw07.QuotesMarks'. -/
def quotesMarksUptoCard : Claim7 := { stood := { row := quotesMarksUptoRow, standIns := [], harness := (true, "b11ef35151428dbfc8f45bd7bda9906e883b93b363adda5527b1cea8fbc3a701"), looks := false }, kinds := [], alts := [], laidByText := true, laidKinds := [.data], laidTests := true, laidLooks := .later }
def QuotesMarksUptoCardSaid : Prop := Claim7.holds Tryd.pinned (.plain (OpenSpec.upto quotesMarksSpec)) quotesMarksUptoCard

/-- THE SECOND FORM's CARD OF 'quarrylaw07.QuotesControl'. -/
def quotesControlUptoCard : Claim7 := { stood := { row := quotesControlUptoRow, standIns := [], harness := (true, "b11ef35151428dbfc8f45bd7bda9906e883b93b363adda5527b1cea8fbc3a701"), looks := false }, kinds := [], alts := [], laidByText := true, laidKinds := [.data], laidTests := true, laidLooks := .later }
def QuotesControlUptoCardSaid : Prop := Claim7.holds Tryd.pinned (.plain (OpenSpec.upto quotesControlSpec)) quotesControlUptoCard

/-- THE SECOND FORM's CARD OF 'quarrylaw07.QuotesTexts'. -/
def quotesTextsUptoCard : Claim7 := { stood := { row := quotesTextsUptoRow, standIns := [], harness := (true, "b11ef35151428dbfc8f45bd7bda9906e883b93b363adda5527b1cea8fbc3a701"), looks := false }, kinds := [], alts := [], laidByText := true, laidKinds := [.data], laidTests := true, laidLooks := .later }
def QuotesTextsUptoCardSaid : Prop := Claim7.holds Tryd.pinned (.plain (OpenSpec.upto quotesTextsSpec)) quotesTextsUptoCard

/-- THE SECOND FORM's CARD OF 'quarrylaw07.QuotesTurns'. -/
def quotesTurnsUptoCard : Claim7 := { stood := { row := quotesTurnsUptoRow, standIns := [], harness := (true, "b11ef35151428dbfc8f45bd7bda9906e883b93b363adda5527b1cea8fbc3a701"), looks := false }, kinds := [], alts := [], laidByText := true, laidKinds := [.data], laidTests := true, laidLooks := .later }
def QuotesTurnsUptoCardSaid : Prop := Claim7.holds Tryd.pinned (.plain (OpenSpec.upto quotesTurnsSpec)) quotesTurnsUptoCard

/-- THE SECOND FORM's CARD OF 'quarrylaw07.QuotesBehind'. -/
def quotesBehindUptoCard : Claim7 := { stood := { row := quotesBehindUptoRow, standIns := [], harness := (true, "b11ef35151428dbfc8f45bd7bda9906e883b93b363adda5527b1cea8fbc3a701"), looks := false }, kinds := [], alts := [], laidByText := true, laidKinds := [.data], laidTests := true, laidLooks := .later }
def QuotesBehindUptoCardSaid : Prop := Claim7.holds Tryd.pinned (.plain (OpenSpec.upto quotesBehindSpec)) quotesBehindUptoCard

/-- THE SECOND FORM's CARD OF 'quarrylaw07.QuotesSpans'. -/
def quotesSpansUptoCard : Claim7 := { stood := { row := quotesSpansUptoRow, standIns := [], harness := (true, "b11ef35151428dbfc8f45bd7bda9906e883b93b363adda5527b1cea8fbc3a701"), looks := false }, kinds := [], alts := [], laidByText := true, laidKinds := [.data], laidTests := true, laidLooks := .later }
def QuotesSpansUptoCardSaid : Prop := Claim7.holds Tryd.pinned (.plain (OpenSpec.upto quotesSpansSpec)) quotesSpansUptoCard
end Rows
end Go.Proofs.YtmjmcdoanolelaaDoor
