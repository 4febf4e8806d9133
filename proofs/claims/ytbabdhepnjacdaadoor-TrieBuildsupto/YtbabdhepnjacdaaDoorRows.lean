/-
  NARROWER THAN 'FOR EVERY INPUT', by the rows' own cells (each row's printed sentence says how): TrieBuilds: laid · TriePaths: laid · TrieGoes: laid · TrieBack: laid · TrieShares: laid · TrieFollows: laid.
  DERIVED. THE GIVEN ROWS OF THIS SEAT. 6 by the template 'for every input the law returns true; each argument reads behind the call as it read before'; 0 by the template 'total and deterministic' (their statements: YtbabdhepnjacdaaDoorTotals.lean).
  GIVEN WITH THE SEED: the statements are not yours to turn. If you find one false, say at which input.
  Laid BY PROGRAM, IN A SANDBOX (cutbox-rows.mjs): the forced cells as the released guide's own fill.sh prints them over the translation b8beb45808518765… (all of the seat's roots in one cut). By AI agents, Wed Nov 11 2026. No macro, syntax, notation, axiom, sorry.
-/
import Derived.Test.YtbabdhepnjacdaaDoorChecked
import GoSem.PinnedTables
import GoSem.Claim
import GoSem.ClaimJoined
import GoSem.ClaimMapViews
import Derived.JoinedTies
import Derived.KernelRfl
namespace Go.Proofs.YtbabdhepnjacdaaDoor
/- THE CELL 'sum', in the pinned program and in every row, IS THE sha256 OF THE DUMP (.gsa) THAT YtbabdhepnjacdaaDoorProg.lean LOADS. Nothing in Lean hashes anything: it is a label: what it is worth is what the hold of that sum in a sandbox is worth. -/
noncomputable def Tryd.pinned : Pinned := { name := "ytbabdhepnjacdaadoor", sum := "b8beb45808518765abe7d363598a251bbbfc267cbb40887d01a264f60d00da78", checked := Tryd.checked }
namespace Rows
def none {H : Type} : Left H := { results := [], args := [] }

/- WHAT THE LISTED PACKAGE-LEVEL VARIABLES READ AS WHEN THE CALL BEGINS. Each datum BY PROGRAM (the guide's laid-datum.mjs) off the statement by which the dump's own 'gosem.cut.vars' lays the variable. In a bare row this is a premise. The card (YtbabdhepnjacdaaDoorCards.lean) ties it to the program's text. -/
def laid_unicode_utf8_acceptRanges {H : Type} : DataW H := .agg [.agg [.lit (.int .u8 128), .lit (.int .u8 191)], .agg [.lit (.int .u8 160), .lit (.int .u8 191)], .agg [.lit (.int .u8 128), .lit (.int .u8 159)], .agg [.lit (.int .u8 144), .lit (.int .u8 191)], .agg [.lit (.int .u8 128), .lit (.int .u8 143)], .agg [.lit (.int .u8 0), .lit (.int .u8 0)], .agg [.lit (.int .u8 0), .lit (.int .u8 0)], .agg [.lit (.int .u8 0), .lit (.int .u8 0)], .agg [.lit (.int .u8 0), .lit (.int .u8 0)], .agg [.lit (.int .u8 0), .lit (.int .u8 0)], .agg [.lit (.int .u8 0), .lit (.int .u8 0)], .agg [.lit (.int .u8 0), .lit (.int .u8 0)], .agg [.lit (.int .u8 0), .lit (.int .u8 0)], .agg [.lit (.int .u8 0), .lit (.int .u8 0)], .agg [.lit (.int .u8 0), .lit (.int .u8 0)], .agg [.lit (.int .u8 0), .lit (.int .u8 0)]]
/-- One of Go's own tables, pinned by name: the form's constant. -/
def laid_unicode_utf8_first : DataW Unit := Go.Pinned.utf8First

/-- 'quarrylaw23.TrieBuilds': WHATEVER THE INPUT: true; the input reads as it did. -/
def trieBuildsSpec : ChangeSpec := { name := "trieBuilds", fn := fun _ => fun
  | [d] => { results := [.lit (.bool true)], args := [d] }
  | _ => none }
def trieBuildsRow : OpenClaim := { program := "ytbabdhepnjacdaadoor", sum := "b8beb45808518765abe7d363598a251bbbfc267cbb40887d01a264f60d00da78", func := "quarry/quarrylaw23.TrieBuilds", spec := "trieBuilds", named := ["unicode/utf8.first", "unicode/utf8.acceptRanges"], plainKeys := false, apart := false, laid := [("unicode/utf8.acceptRanges", laid_unicode_utf8_acceptRanges), ("unicode/utf8.first", laid_unicode_utf8_first)] }
def TrieBuildsSaid : Prop := trieBuildsRow.holds Tryd.pinned (OpenSpec.ofChange trieBuildsSpec)

/-- ITS FALSE NEIGHBOUR: 'it returns false'. Refute it at one input. -/
def trieBuildsWrong : ChangeSpec := { name := "trieBuilds", fn := fun _ => fun
  | [d] => { results := [.lit (.bool false)], args := [d] }
  | _ => none }
def TrieBuildsWrongFalsely : Prop := trieBuildsRow.holds Tryd.pinned (OpenSpec.ofChange trieBuildsWrong)

/-- 'quarrylaw23.TriePaths': WHATEVER THE INPUT: true; the input reads as it did. -/
def triePathsSpec : ChangeSpec := { name := "triePaths", fn := fun _ => fun
  | [d] => { results := [.lit (.bool true)], args := [d] }
  | _ => none }
def triePathsRow : OpenClaim := { program := "ytbabdhepnjacdaadoor", sum := "b8beb45808518765abe7d363598a251bbbfc267cbb40887d01a264f60d00da78", func := "quarry/quarrylaw23.TriePaths", spec := "triePaths", recurses := true, named := ["unicode/utf8.first", "unicode/utf8.acceptRanges"], plainKeys := false, apart := false, laid := [("unicode/utf8.acceptRanges", laid_unicode_utf8_acceptRanges), ("unicode/utf8.first", laid_unicode_utf8_first)] }
def TriePathsSaid : Prop := triePathsRow.holds Tryd.pinned (OpenSpec.ofChange triePathsSpec)

/-- ITS FALSE NEIGHBOUR: 'it returns false'. Refute it at one input. -/
def triePathsWrong : ChangeSpec := { name := "triePaths", fn := fun _ => fun
  | [d] => { results := [.lit (.bool false)], args := [d] }
  | _ => none }
def TriePathsWrongFalsely : Prop := triePathsRow.holds Tryd.pinned (OpenSpec.ofChange triePathsWrong)

/-- 'quarrylaw23.TrieGoes': WHATEVER THE INPUT: true; the input reads as it did. -/
def trieGoesSpec : ChangeSpec := { name := "trieGoes", fn := fun _ => fun
  | [d1, d2] => { results := [.lit (.bool true)], args := [d1, d2] }
  | _ => none }
def trieGoesRow : OpenClaim := { program := "ytbabdhepnjacdaadoor", sum := "b8beb45808518765abe7d363598a251bbbfc267cbb40887d01a264f60d00da78", func := "quarry/quarrylaw23.TrieGoes", spec := "trieGoes", recurses := true, named := ["unicode/utf8.first", "unicode/utf8.acceptRanges"], plainKeys := false, apart := false, laid := [("unicode/utf8.acceptRanges", laid_unicode_utf8_acceptRanges), ("unicode/utf8.first", laid_unicode_utf8_first)] }
def TrieGoesSaid : Prop := trieGoesRow.holds Tryd.pinned (OpenSpec.ofChange trieGoesSpec)

/-- ITS FALSE NEIGHBOUR: 'it returns false'. Refute it at one input. -/
def trieGoesWrong : ChangeSpec := { name := "trieGoes", fn := fun _ => fun
  | [d1, d2] => { results := [.lit (.bool false)], args := [d1, d2] }
  | _ => none }
def TrieGoesWrongFalsely : Prop := trieGoesRow.holds Tryd.pinned (OpenSpec.ofChange trieGoesWrong)

/-- 'quarrylaw23.TrieBack': WHATEVER THE INPUT: true; the input reads as it did. -/
def trieBackSpec : ChangeSpec := { name := "trieBack", fn := fun _ => fun
  | [d] => { results := [.lit (.bool true)], args := [d] }
  | _ => none }
def trieBackRow : OpenClaim := { program := "ytbabdhepnjacdaadoor", sum := "b8beb45808518765abe7d363598a251bbbfc267cbb40887d01a264f60d00da78", func := "quarry/quarrylaw23.TrieBack", spec := "trieBack", named := ["unicode/utf8.first", "unicode/utf8.acceptRanges"], plainKeys := false, apart := false, laid := [("unicode/utf8.acceptRanges", laid_unicode_utf8_acceptRanges), ("unicode/utf8.first", laid_unicode_utf8_first)] }
def TrieBackSaid : Prop := trieBackRow.holds Tryd.pinned (OpenSpec.ofChange trieBackSpec)

/-- ITS FALSE NEIGHBOUR: 'it returns false'. Refute it at one input. -/
def trieBackWrong : ChangeSpec := { name := "trieBack", fn := fun _ => fun
  | [d] => { results := [.lit (.bool false)], args := [d] }
  | _ => none }
def TrieBackWrongFalsely : Prop := trieBackRow.holds Tryd.pinned (OpenSpec.ofChange trieBackWrong)

/-- 'quarrylaw23.TrieShares': WHATEVER THE INPUT: true; the input reads as it did. -/
def trieSharesSpec : ChangeSpec := { name := "trieShares", fn := fun _ => fun
  | [d1, d2] => { results := [.lit (.bool true)], args := [d1, d2] }
  | _ => none }
def trieSharesRow : OpenClaim := { program := "ytbabdhepnjacdaadoor", sum := "b8beb45808518765abe7d363598a251bbbfc267cbb40887d01a264f60d00da78", func := "quarry/quarrylaw23.TrieShares", spec := "trieShares", named := ["unicode/utf8.first", "unicode/utf8.acceptRanges"], plainKeys := false, apart := false, laid := [("unicode/utf8.acceptRanges", laid_unicode_utf8_acceptRanges), ("unicode/utf8.first", laid_unicode_utf8_first)] }
def TrieSharesSaid : Prop := trieSharesRow.holds Tryd.pinned (OpenSpec.ofChange trieSharesSpec)

/-- ITS FALSE NEIGHBOUR: 'it returns false'. Refute it at one input. -/
def trieSharesWrong : ChangeSpec := { name := "trieShares", fn := fun _ => fun
  | [d1, d2] => { results := [.lit (.bool false)], args := [d1, d2] }
  | _ => none }
def TrieSharesWrongFalsely : Prop := trieSharesRow.holds Tryd.pinned (OpenSpec.ofChange trieSharesWrong)

/-- 'quarrylaw23.TrieFollows': WHATEVER THE INPUT: true; the input reads as it did. -/
def trieFollowsSpec : ChangeSpec := { name := "trieFollows", fn := fun _ => fun
  | [d1, d2] => { results := [.lit (.bool true)], args := [d1, d2] }
  | _ => none }
def trieFollowsRow : OpenClaim := { program := "ytbabdhepnjacdaadoor", sum := "b8beb45808518765abe7d363598a251bbbfc267cbb40887d01a264f60d00da78", func := "quarry/quarrylaw23.TrieFollows", spec := "trieFollows", recurses := true, named := ["unicode/utf8.first", "unicode/utf8.acceptRanges"], plainKeys := false, apart := false, laid := [("unicode/utf8.acceptRanges", laid_unicode_utf8_acceptRanges), ("unicode/utf8.first", laid_unicode_utf8_first)] }
def TrieFollowsSaid : Prop := trieFollowsRow.holds Tryd.pinned (OpenSpec.ofChange trieFollowsSpec)

/-- ITS FALSE NEIGHBOUR: 'it returns false'. Refute it at one input. -/
def trieFollowsWrong : ChangeSpec := { name := "trieFollows", fn := fun _ => fun
  | [d1, d2] => { results := [.lit (.bool false)], args := [d1, d2] }
  | _ => none }
def TrieFollowsWrongFalsely : Prop := trieFollowsRow.holds Tryd.pinned (OpenSpec.ofChange trieFollowsWrong)

/- THE SECOND FORM. 'bulk': how many values and letters a reading holds, each counted each time it is reached (what is shared counts as often as it is met; a slice's spare places count too). A statement '..UptoSaid' is the law's where the arguments, and the package variables that the reading takes, are together of bulk at most 1048576: NARROWER than '..Said'. Prove '..Said' where nothing that the law and all that it calls make is longer than what came in: it says more and counts as full. Else prove '..UptoSaid'. A law counts once. -/
mutual
def uptoBulk {H : Type} : DataW H → Nat
  | .lit (.string bytes) => bytes.length + 1
  | .lit _ => 1
  | .nil => 1
  | .ptr d => uptoBulk d + 1
  | .slice elems spare => uptoBulkAll elems + uptoBulkAll spare + 1
  | .agg parts => uptoBulkAll parts + 1
  | .iface _ d => uptoBulk d + 1
  | .map entries => uptoBulkEntries entries + 1
  | .held _ => 1
def uptoBulkAll {H : Type} : List (DataW H) → Nat
  | [] => 0
  | d :: r => uptoBulk d + uptoBulkAll r
def uptoBulkEntries {H : Type} : List (Lit × DataW H) → Nat
  | [] => 0
  | x :: r => uptoBulkEntry x + uptoBulkEntries r
def uptoBulkEntry {H : Type} : Lit × DataW H → Nat
  | (.string bytes, d) => bytes.length + uptoBulk d + 1
  | (_, d) => uptoBulk d + 1
 end
def uptoSmall : (H : Type) → List (DataW H) → Bool := fun _ ds => decide (uptoBulkAll ds ≤ 1048576)
def OpenSpec.upto (s : _root_.Go.ChangeSpec) : _root_.Go.OpenSpec := { _root_.Go.OpenSpec.ofChange s with cond := some uptoSmall }

/-- 'quarrylaw23.TrieBuilds', WHERE WHAT IT READS IS OF BULK AT MOST 1048576: true; the input reads as it did. -/
def trieBuildsUptoRow : OpenClaim := { program := "ytbabdhepnjacdaadoor", sum := "b8beb45808518765abe7d363598a251bbbfc267cbb40887d01a264f60d00da78", func := "quarry/quarrylaw23.TrieBuilds", spec := "trieBuilds", named := ["unicode/utf8.first", "unicode/utf8.acceptRanges"], plainKeys := false, apart := false, laid := [("unicode/utf8.acceptRanges", laid_unicode_utf8_acceptRanges), ("unicode/utf8.first", laid_unicode_utf8_first)], narrowed := true }
def TrieBuildsUptoSaid : Prop := trieBuildsUptoRow.holds Tryd.pinned (OpenSpec.upto trieBuildsSpec)

/-- 'quarrylaw23.TriePaths', WHERE WHAT IT READS IS OF BULK AT MOST 1048576: true; the input reads as it did. -/
def triePathsUptoRow : OpenClaim := { program := "ytbabdhepnjacdaadoor", sum := "b8beb45808518765abe7d363598a251bbbfc267cbb40887d01a264f60d00da78", func := "quarry/quarrylaw23.TriePaths", spec := "triePaths", recurses := true, named := ["unicode/utf8.first", "unicode/utf8.acceptRanges"], plainKeys := false, apart := false, laid := [("unicode/utf8.acceptRanges", laid_unicode_utf8_acceptRanges), ("unicode/utf8.first", laid_unicode_utf8_first)], narrowed := true }
def TriePathsUptoSaid : Prop := triePathsUptoRow.holds Tryd.pinned (OpenSpec.upto triePathsSpec)

/-- 'quarrylaw23.TrieGoes', WHERE WHAT IT READS IS OF BULK AT MOST 1048576: true; the input reads as it did. -/
def trieGoesUptoRow : OpenClaim := { program := "ytbabdhepnjacdaadoor", sum := "b8beb45808518765abe7d363598a251bbbfc267cbb40887d01a264f60d00da78", func := "quarry/quarrylaw23.TrieGoes", spec := "trieGoes", recurses := true, named := ["unicode/utf8.first", "unicode/utf8.acceptRanges"], plainKeys := false, apart := false, laid := [("unicode/utf8.acceptRanges", laid_unicode_utf8_acceptRanges), ("unicode/utf8.first", laid_unicode_utf8_first)], narrowed := true }
def TrieGoesUptoSaid : Prop := trieGoesUptoRow.holds Tryd.pinned (OpenSpec.upto trieGoesSpec)

/-- 'quarrylaw23.TrieBack', WHERE WHAT IT READS IS OF BULK AT MOST 1048576: true; the input reads as it did. -/
def trieBackUptoRow : OpenClaim := { program := "ytbabdhepnjacdaadoor", sum := "b8beb45808518765abe7d363598a251bbbfc267cbb40887d01a264f60d00da78", func := "quarry/quarrylaw23.TrieBack", spec := "trieBack", named := ["unicode/utf8.first", "unicode/utf8.acceptRanges"], plainKeys := false, apart := false, laid := [("unicode/utf8.acceptRanges", laid_unicode_utf8_acceptRanges), ("unicode/utf8.first", laid_unicode_utf8_first)], narrowed := true }
def TrieBackUptoSaid : Prop := trieBackUptoRow.holds Tryd.pinned (OpenSpec.upto trieBackSpec)

/-- 'quarrylaw23.TrieShares', WHERE WHAT IT READS IS OF BULK AT MOST 1048576: true; the input reads as it did. -/
def trieSharesUptoRow : OpenClaim := { program := "ytbabdhepnjacdaadoor", sum := "b8beb45808518765abe7d363598a251bbbfc267cbb40887d01a264f60d00da78", func := "quarry/quarrylaw23.TrieShares", spec := "trieShares", named := ["unicode/utf8.first", "unicode/utf8.acceptRanges"], plainKeys := false, apart := false, laid := [("unicode/utf8.acceptRanges", laid_unicode_utf8_acceptRanges), ("unicode/utf8.first", laid_unicode_utf8_first)], narrowed := true }
def TrieSharesUptoSaid : Prop := trieSharesUptoRow.holds Tryd.pinned (OpenSpec.upto trieSharesSpec)

/-- 'quarrylaw23.TrieFollows', WHERE WHAT IT READS IS OF BULK AT MOST 1048576: true; the input reads as it did. -/
def trieFollowsUptoRow : OpenClaim := { program := "ytbabdhepnjacdaadoor", sum := "b8beb45808518765abe7d363598a251bbbfc267cbb40887d01a264f60d00da78", func := "quarry/quarrylaw23.TrieFollows", spec := "trieFollows", recurses := true, named := ["unicode/utf8.first", "unicode/utf8.acceptRanges"], plainKeys := false, apart := false, laid := [("unicode/utf8.acceptRanges", laid_unicode_utf8_acceptRanges), ("unicode/utf8.first", laid_unicode_utf8_first)], narrowed := true }
def TrieFollowsUptoSaid : Prop := trieFollowsUptoRow.holds Tryd.pinned (OpenSpec.upto trieFollowsSpec)

end Rows
end Go.Proofs.YtbabdhepnjacdaaDoor
