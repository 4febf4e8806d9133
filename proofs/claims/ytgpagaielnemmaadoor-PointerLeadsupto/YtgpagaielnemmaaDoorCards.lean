/-
  DERIVED. GIVEN WITH THE SEED: THE CARDS: each row of YtgpagaielnemmaaDoorRows.lean that lists a variable, with what it lists TIED to the program's text (the seventh form; the later family's looks); each row that meets fmt, with fmt's text TOLD by the authors' own Lean function (tested against real Go, not proved from fmt's source: count such statements apart). THE CARD IS WHAT COUNTS. Prove the row's statement (the work); the ties are given (YtgpagaielnemmaaDoorTie.lean); close each card by the builder's one call (the guide's Derived/Test/ToyasCard.lean, 'card_holds'). Laid BY PROGRAM, IN A SANDBOX (cutbox-door.mjs). By AI agents, Wed Nov 11 2026. No macro, syntax, notation, axiom, sorry.
-/
import Derived.Test.YtgpagaielnemmaaDoorRows
import GoSem.ClaimSeven
namespace Go.Proofs.YtgpagaielnemmaaDoor
namespace Rows

/-- THE TIED CARD OF 'quarrylaw20.PointerLeads'. -/
def pointerLeadsCard : Claim7 := { stood := { row := pointerLeadsRow, standIns := [], harness := (true, "19b96472f54c31a9e60b345236a5632164746900f62d937f8c2f6059ecbdfbf7"), looks := false }, kinds := [], alts := [], laidByText := true, laidKinds := [.data, .data, .data, .data, .pinned], laidTests := true, laidLooks := .later }
def PointerLeadsCardSaid : Prop := Claim7.holds Tryd.pinned (.plain (OpenSpec.ofChange pointerLeadsSpec)) pointerLeadsCard

/-- THE TIED CARD OF 'quarrylaw20.PointerKeeps'. -/
def pointerKeepsCard : Claim7 := { stood := { row := pointerKeepsRow, standIns := [], harness := (true, "19b96472f54c31a9e60b345236a5632164746900f62d937f8c2f6059ecbdfbf7"), looks := false }, kinds := [], alts := [], laidByText := true, laidKinds := [.data, .pinned], laidTests := true, laidLooks := .later }
def PointerKeepsCardSaid : Prop := Claim7.holds Tryd.pinned (.plain (OpenSpec.ofChange pointerKeepsSpec)) pointerKeepsCard

/-- THE SECOND FORM's CARD OF 'quarrylaw20.PointerLeads'. -/
def pointerLeadsUptoCard : Claim7 := { stood := { row := pointerLeadsUptoRow, standIns := [], harness := (true, "19b96472f54c31a9e60b345236a5632164746900f62d937f8c2f6059ecbdfbf7"), looks := false }, kinds := [], alts := [], laidByText := true, laidKinds := [.data, .data, .data, .data, .pinned], laidTests := true, laidLooks := .later }
def PointerLeadsUptoCardSaid : Prop := Claim7.holds Tryd.pinned (.plain (OpenSpec.upto pointerLeadsSpec)) pointerLeadsUptoCard

/-- THE SECOND FORM's CARD OF 'quarrylaw20.PointerKeeps'. -/
def pointerKeepsUptoCard : Claim7 := { stood := { row := pointerKeepsUptoRow, standIns := [], harness := (true, "19b96472f54c31a9e60b345236a5632164746900f62d937f8c2f6059ecbdfbf7"), looks := false }, kinds := [], alts := [], laidByText := true, laidKinds := [.data, .pinned], laidTests := true, laidLooks := .later }
def PointerKeepsUptoCardSaid : Prop := Claim7.holds Tryd.pinned (.plain (OpenSpec.upto pointerKeepsSpec)) pointerKeepsUptoCard
end Rows
end Go.Proofs.YtgpagaielnemmaaDoor
