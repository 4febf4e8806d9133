/-
  DERIVED. GIVEN WITH THE SEED: THE CARDS: each row of YtmbkcnhkbpaagaaDoorRows.lean that lists a variable, with what it lists TIED to the program's text (the seventh form; the later family's looks); each row that meets fmt, with fmt's text TOLD by the authors' own Lean function (tested against real Go, not proved from fmt's source: count such statements apart). THE CARD IS WHAT COUNTS. Prove the row's statement (the work); the ties are given (YtmbkcnhkbpaagaaDoorTie.lean); close each card by the builder's one call (the guide's Derived/Test/ToyasCard.lean, 'card_holds'). Laid BY PROGRAM, IN A SANDBOX (cutbox-door.mjs). By AI agents, Wed Nov 11 2026. No macro, syntax, notation, axiom, sorry.
-/
import Derived.Test.YtmbkcnhkbpaagaaDoorRows
import GoSem.ClaimSeven
namespace Go.Proofs.YtmbkcnhkbpaagaaDoor
namespace Rows

/-- THE TIED CARD OF 'quarrylaw04.BitmapJoins'. -/
def bitmapJoinsCard : Claim7 := { stood := { row := bitmapJoinsRow, standIns := [], harness := (true, "7e700ac7d4bd2cd77319cb796396ba18eda5344d94b2fe753d6a64a248c2049c"), looks := false }, kinds := [], alts := [], laidByText := true, laidKinds := [.data], laidTests := true, laidLooks := .later }
def BitmapJoinsCardSaid : Prop := Claim7.holds Tryd.pinned (.plain (OpenSpec.ofChange bitmapJoinsSpec)) bitmapJoinsCard

/-- THE TIED CARD OF 'quarrylaw04.BitmapTurns'. -/
def bitmapTurnsCard : Claim7 := { stood := { row := bitmapTurnsRow, standIns := [], harness := (true, "7e700ac7d4bd2cd77319cb796396ba18eda5344d94b2fe753d6a64a248c2049c"), looks := false }, kinds := [], alts := [], laidByText := true, laidKinds := [.data], laidTests := true, laidLooks := .later }
def BitmapTurnsCardSaid : Prop := Claim7.holds Tryd.pinned (.plain (OpenSpec.ofChange bitmapTurnsSpec)) bitmapTurnsCard

/-- THE TIED CARD OF 'quarrylaw04.BitmapAsks'. -/
def bitmapAsksCard : Claim7 := { stood := { row := bitmapAsksRow, standIns := [], harness := (true, "7e700ac7d4bd2cd77319cb796396ba18eda5344d94b2fe753d6a64a248c2049c"), looks := false }, kinds := [], alts := [], laidByText := true, laidKinds := [.data], laidTests := true, laidLooks := .later }
def BitmapAsksCardSaid : Prop := Claim7.holds Tryd.pinned (.plain (OpenSpec.ofChange bitmapAsksSpec)) bitmapAsksCard

/-- THE TIED CARD OF 'quarrylaw04.BitmapEach'. -/
def bitmapEachCard : Claim7 := { stood := { row := bitmapEachRow, standIns := [], harness := (true, "7e700ac7d4bd2cd77319cb796396ba18eda5344d94b2fe753d6a64a248c2049c"), looks := false }, kinds := [], alts := [], laidByText := true, laidKinds := [.data], laidTests := true, laidLooks := .later }
def BitmapEachCardSaid : Prop := Claim7.holds Tryd.pinned (.plain (OpenSpec.ofChange bitmapEachSpec)) bitmapEachCard

/-- THE SECOND FORM's CARD OF 'quarrylaw04.BitmapJoins'. -/
def bitmapJoinsUptoCard : Claim7 := { stood := { row := bitmapJoinsUptoRow, standIns := [], harness := (true, "7e700ac7d4bd2cd77319cb796396ba18eda5344d94b2fe753d6a64a248c2049c"), looks := false }, kinds := [], alts := [], laidByText := true, laidKinds := [.data], laidTests := true, laidLooks := .later }
def BitmapJoinsUptoCardSaid : Prop := Claim7.holds Tryd.pinned (.plain (OpenSpec.upto bitmapJoinsSpec)) bitmapJoinsUptoCard

/-- THE SECOND FORM's CARD OF 'quarrylaw04.BitmapTurns'. -/
def bitmapTurnsUptoCard : Claim7 := { stood := { row := bitmapTurnsUptoRow, standIns := [], harness := (true, "7e700ac7d4bd2cd77319cb796396ba18eda5344d94b2fe753d6a64a248c2049c"), looks := false }, kinds := [], alts := [], laidByText := true, laidKinds := [.data], laidTests := true, laidLooks := .later }
def BitmapTurnsUptoCardSaid : Prop := Claim7.holds Tryd.pinned (.plain (OpenSpec.upto bitmapTurnsSpec)) bitmapTurnsUptoCard

/-- THE SECOND FORM's CARD OF 'quarrylaw04.BitmapAsks'. -/
def bitmapAsksUptoCard : Claim7 := { stood := { row := bitmapAsksUptoRow, standIns := [], harness := (true, "7e700ac7d4bd2cd77319cb796396ba18eda5344d94b2fe753d6a64a248c2049c"), looks := false }, kinds := [], alts := [], laidByText := true, laidKinds := [.data], laidTests := true, laidLooks := .later }
def BitmapAsksUptoCardSaid : Prop := Claim7.holds Tryd.pinned (.plain (OpenSpec.upto bitmapAsksSpec)) bitmapAsksUptoCard

/-- THE SECOND FORM's CARD OF 'quarrylaw04.BitmapEach'. -/
def bitmapEachUptoCard : Claim7 := { stood := { row := bitmapEachUptoRow, standIns := [], harness := (true, "7e700ac7d4bd2cd77319cb796396ba18eda5344d94b2fe753d6a64a248c2049c"), looks := false }, kinds := [], alts := [], laidByText := true, laidKinds := [.data], laidTests := true, laidLooks := .later }
def BitmapEachUptoCardSaid : Prop := Claim7.holds Tryd.pinned (.plain (OpenSpec.upto bitmapEachSpec)) bitmapEachUptoCard
end Rows
end Go.Proofs.YtmbkcnhkbpaagaaDoor
