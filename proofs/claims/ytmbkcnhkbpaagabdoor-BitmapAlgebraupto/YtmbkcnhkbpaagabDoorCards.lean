/-
  DERIVED. GIVEN WITH THE SEED: THE CARDS: each row of YtmbkcnhkbpaagabDoorRows.lean that lists a variable, with what it lists TIED to the program's text (the seventh form; the later family's looks); each row that meets fmt, with fmt's text TOLD by the authors' own Lean function (tested against real Go, not proved from fmt's source: count such statements apart). THE CARD IS WHAT COUNTS. Prove the row's statement (the work); the ties are given (YtmbkcnhkbpaagabDoorTie.lean); close each card by the builder's one call (the guide's Derived/Test/ToyasCard.lean, 'card_holds'). Laid BY PROGRAM, IN A SANDBOX (cutbox-door.mjs). By AI agents, Wed Nov 11 2026. No macro, syntax, notation, axiom, sorry.
-/
import Derived.Test.YtmbkcnhkbpaagabDoorRows
import GoSem.ClaimSeven
namespace Go.Proofs.YtmbkcnhkbpaagabDoor
namespace Rows

/-- THE TIED CARD OF 'quarrylaw04.BitmapRanks'. -/
def bitmapRanksCard : Claim7 := { stood := { row := bitmapRanksRow, standIns := [], harness := (true, "5988d9cb6c32769cecd46ed17240f4d4351274542b9d4a23695ec57815396f61"), looks := false }, kinds := [], alts := [], laidByText := true, laidKinds := [.data], laidTests := true, laidLooks := .later }
def BitmapRanksCardSaid : Prop := Claim7.holds Tryd.pinned (.plain (OpenSpec.ofChange bitmapRanksSpec)) bitmapRanksCard

/-- THE TIED CARD OF 'quarrylaw04.BitmapAlgebra'. -/
def bitmapAlgebraCard : Claim7 := { stood := { row := bitmapAlgebraRow, standIns := [], harness := (true, "5988d9cb6c32769cecd46ed17240f4d4351274542b9d4a23695ec57815396f61"), looks := false }, kinds := [], alts := [], laidByText := true, laidKinds := [.data], laidTests := true, laidLooks := .later }
def BitmapAlgebraCardSaid : Prop := Claim7.holds Tryd.pinned (.plain (OpenSpec.ofChange bitmapAlgebraSpec)) bitmapAlgebraCard

/-- THE TIED CARD OF 'quarrylaw04.BitmapKeeps'. -/
def bitmapKeepsCard : Claim7 := { stood := { row := bitmapKeepsRow, standIns := [], harness := (true, "5988d9cb6c32769cecd46ed17240f4d4351274542b9d4a23695ec57815396f61"), looks := false }, kinds := [], alts := [], laidByText := true, laidKinds := [.data], laidTests := true, laidLooks := .later }
def BitmapKeepsCardSaid : Prop := Claim7.holds Tryd.pinned (.plain (OpenSpec.ofChange bitmapKeepsSpec)) bitmapKeepsCard

/-- THE SECOND FORM's CARD OF 'quarrylaw04.BitmapRanks'. -/
def bitmapRanksUptoCard : Claim7 := { stood := { row := bitmapRanksUptoRow, standIns := [], harness := (true, "5988d9cb6c32769cecd46ed17240f4d4351274542b9d4a23695ec57815396f61"), looks := false }, kinds := [], alts := [], laidByText := true, laidKinds := [.data], laidTests := true, laidLooks := .later }
def BitmapRanksUptoCardSaid : Prop := Claim7.holds Tryd.pinned (.plain (OpenSpec.upto bitmapRanksSpec)) bitmapRanksUptoCard

/-- THE SECOND FORM's CARD OF 'quarrylaw04.BitmapAlgebra'. -/
def bitmapAlgebraUptoCard : Claim7 := { stood := { row := bitmapAlgebraUptoRow, standIns := [], harness := (true, "5988d9cb6c32769cecd46ed17240f4d4351274542b9d4a23695ec57815396f61"), looks := false }, kinds := [], alts := [], laidByText := true, laidKinds := [.data], laidTests := true, laidLooks := .later }
def BitmapAlgebraUptoCardSaid : Prop := Claim7.holds Tryd.pinned (.plain (OpenSpec.upto bitmapAlgebraSpec)) bitmapAlgebraUptoCard

/-- THE SECOND FORM's CARD OF 'quarrylaw04.BitmapKeeps'. -/
def bitmapKeepsUptoCard : Claim7 := { stood := { row := bitmapKeepsUptoRow, standIns := [], harness := (true, "5988d9cb6c32769cecd46ed17240f4d4351274542b9d4a23695ec57815396f61"), looks := false }, kinds := [], alts := [], laidByText := true, laidKinds := [.data], laidTests := true, laidLooks := .later }
def BitmapKeepsUptoCardSaid : Prop := Claim7.holds Tryd.pinned (.plain (OpenSpec.upto bitmapKeepsSpec)) bitmapKeepsUptoCard
end Rows
end Go.Proofs.YtmbkcnhkbpaagabDoor
