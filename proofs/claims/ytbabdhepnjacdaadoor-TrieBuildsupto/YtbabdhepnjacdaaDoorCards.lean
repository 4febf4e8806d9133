/-
  DERIVED. GIVEN WITH THE SEED: THE CARDS: each row of YtbabdhepnjacdaaDoorRows.lean that lists a variable, with what it lists TIED to the program's text (the seventh form; the later family's looks); each row that meets fmt, with fmt's text TOLD by the authors' own Lean function (tested against real Go, not proved from fmt's source: count such statements apart). THE CARD IS WHAT COUNTS. Prove the row's statement (the work); the ties are given (YtbabdhepnjacdaaDoorTie.lean); close each card by the builder's one call (the guide's Derived/Test/ToyasCard.lean, 'card_holds'). Laid BY PROGRAM, IN A SANDBOX (cutbox-door.mjs). By AI agents, Wed Nov 11 2026. No macro, syntax, notation, axiom, sorry.
-/
import Derived.Test.YtbabdhepnjacdaaDoorRows
import GoSem.ClaimSeven
namespace Go.Proofs.YtbabdhepnjacdaaDoor
namespace Rows

/-- THE TIED CARD OF 'quarrylaw23.TrieBuilds'. -/
def trieBuildsCard : Claim7 := { stood := { row := trieBuildsRow, standIns := [], harness := (true, "bf3e04c682c18badb43f15d8c18da36f9a0d5b7be17a090a8ac44dc46b5948d5"), looks := true }, kinds := [], alts := [], laidByText := true, laidKinds := [.data, .pinned], laidTests := true, laidLooks := .later }
def TrieBuildsCardSaid : Prop := Claim7.holds Tryd.pinned (.plain (OpenSpec.ofChange trieBuildsSpec)) trieBuildsCard

/-- THE TIED CARD OF 'quarrylaw23.TriePaths'. -/
def triePathsCard : Claim7 := { stood := { row := triePathsRow, standIns := [], harness := (true, "bf3e04c682c18badb43f15d8c18da36f9a0d5b7be17a090a8ac44dc46b5948d5"), looks := true }, kinds := [], alts := [], laidByText := true, laidKinds := [.data, .pinned], laidTests := true, laidLooks := .later }
def TriePathsCardSaid : Prop := Claim7.holds Tryd.pinned (.plain (OpenSpec.ofChange triePathsSpec)) triePathsCard

/-- THE TIED CARD OF 'quarrylaw23.TrieGoes'. -/
def trieGoesCard : Claim7 := { stood := { row := trieGoesRow, standIns := [], harness := (true, "bf3e04c682c18badb43f15d8c18da36f9a0d5b7be17a090a8ac44dc46b5948d5"), looks := true }, kinds := [], alts := [], laidByText := true, laidKinds := [.data, .pinned], laidTests := true, laidLooks := .later }
def TrieGoesCardSaid : Prop := Claim7.holds Tryd.pinned (.plain (OpenSpec.ofChange trieGoesSpec)) trieGoesCard

/-- THE TIED CARD OF 'quarrylaw23.TrieBack'. -/
def trieBackCard : Claim7 := { stood := { row := trieBackRow, standIns := [], harness := (true, "bf3e04c682c18badb43f15d8c18da36f9a0d5b7be17a090a8ac44dc46b5948d5"), looks := true }, kinds := [], alts := [], laidByText := true, laidKinds := [.data, .pinned], laidTests := true, laidLooks := .later }
def TrieBackCardSaid : Prop := Claim7.holds Tryd.pinned (.plain (OpenSpec.ofChange trieBackSpec)) trieBackCard

/-- THE TIED CARD OF 'quarrylaw23.TrieShares'. -/
def trieSharesCard : Claim7 := { stood := { row := trieSharesRow, standIns := [], harness := (true, "bf3e04c682c18badb43f15d8c18da36f9a0d5b7be17a090a8ac44dc46b5948d5"), looks := true }, kinds := [], alts := [], laidByText := true, laidKinds := [.data, .pinned], laidTests := true, laidLooks := .later }
def TrieSharesCardSaid : Prop := Claim7.holds Tryd.pinned (.plain (OpenSpec.ofChange trieSharesSpec)) trieSharesCard

/-- THE TIED CARD OF 'quarrylaw23.TrieFollows'. -/
def trieFollowsCard : Claim7 := { stood := { row := trieFollowsRow, standIns := [], harness := (true, "bf3e04c682c18badb43f15d8c18da36f9a0d5b7be17a090a8ac44dc46b5948d5"), looks := true }, kinds := [], alts := [], laidByText := true, laidKinds := [.data, .pinned], laidTests := true, laidLooks := .later }
def TrieFollowsCardSaid : Prop := Claim7.holds Tryd.pinned (.plain (OpenSpec.ofChange trieFollowsSpec)) trieFollowsCard

/-- THE SECOND FORM's CARD OF 'quarrylaw23.TrieBuilds'. -/
def trieBuildsUptoCard : Claim7 := { stood := { row := trieBuildsUptoRow, standIns := [], harness := (true, "bf3e04c682c18badb43f15d8c18da36f9a0d5b7be17a090a8ac44dc46b5948d5"), looks := true }, kinds := [], alts := [], laidByText := true, laidKinds := [.data, .pinned], laidTests := true, laidLooks := .later }
def TrieBuildsUptoCardSaid : Prop := Claim7.holds Tryd.pinned (.plain (OpenSpec.upto trieBuildsSpec)) trieBuildsUptoCard

/-- THE SECOND FORM's CARD OF 'quarrylaw23.TriePaths'. -/
def triePathsUptoCard : Claim7 := { stood := { row := triePathsUptoRow, standIns := [], harness := (true, "bf3e04c682c18badb43f15d8c18da36f9a0d5b7be17a090a8ac44dc46b5948d5"), looks := true }, kinds := [], alts := [], laidByText := true, laidKinds := [.data, .pinned], laidTests := true, laidLooks := .later }
def TriePathsUptoCardSaid : Prop := Claim7.holds Tryd.pinned (.plain (OpenSpec.upto triePathsSpec)) triePathsUptoCard

/-- THE SECOND FORM's CARD OF 'quarrylaw23.TrieGoes'. -/
def trieGoesUptoCard : Claim7 := { stood := { row := trieGoesUptoRow, standIns := [], harness := (true, "bf3e04c682c18badb43f15d8c18da36f9a0d5b7be17a090a8ac44dc46b5948d5"), looks := true }, kinds := [], alts := [], laidByText := true, laidKinds := [.data, .pinned], laidTests := true, laidLooks := .later }
def TrieGoesUptoCardSaid : Prop := Claim7.holds Tryd.pinned (.plain (OpenSpec.upto trieGoesSpec)) trieGoesUptoCard

/-- THE SECOND FORM's CARD OF 'quarrylaw23.TrieBack'. -/
def trieBackUptoCard : Claim7 := { stood := { row := trieBackUptoRow, standIns := [], harness := (true, "bf3e04c682c18badb43f15d8c18da36f9a0d5b7be17a090a8ac44dc46b5948d5"), looks := true }, kinds := [], alts := [], laidByText := true, laidKinds := [.data, .pinned], laidTests := true, laidLooks := .later }
def TrieBackUptoCardSaid : Prop := Claim7.holds Tryd.pinned (.plain (OpenSpec.upto trieBackSpec)) trieBackUptoCard

/-- THE SECOND FORM's CARD OF 'quarrylaw23.TrieShares'. -/
def trieSharesUptoCard : Claim7 := { stood := { row := trieSharesUptoRow, standIns := [], harness := (true, "bf3e04c682c18badb43f15d8c18da36f9a0d5b7be17a090a8ac44dc46b5948d5"), looks := true }, kinds := [], alts := [], laidByText := true, laidKinds := [.data, .pinned], laidTests := true, laidLooks := .later }
def TrieSharesUptoCardSaid : Prop := Claim7.holds Tryd.pinned (.plain (OpenSpec.upto trieSharesSpec)) trieSharesUptoCard

/-- THE SECOND FORM's CARD OF 'quarrylaw23.TrieFollows'. -/
def trieFollowsUptoCard : Claim7 := { stood := { row := trieFollowsUptoRow, standIns := [], harness := (true, "bf3e04c682c18badb43f15d8c18da36f9a0d5b7be17a090a8ac44dc46b5948d5"), looks := true }, kinds := [], alts := [], laidByText := true, laidKinds := [.data, .pinned], laidTests := true, laidLooks := .later }
def TrieFollowsUptoCardSaid : Prop := Claim7.holds Tryd.pinned (.plain (OpenSpec.upto trieFollowsSpec)) trieFollowsUptoCard
end Rows
end Go.Proofs.YtbabdhepnjacdaaDoor
