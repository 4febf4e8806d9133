/-
  NARROWER THAN 'FOR EVERY INPUT', by the rows' own cells (each row's printed sentence says how): PointerBack: laid · PointerChains: laid · PointerFinds: loops, laid · PointerLikes: loops, laid.
  DERIVED. THE GIVEN ROWS OF THIS SEAT. 4 by the template 'for every input the law returns true; each argument reads behind the call as it read before'; 0 by the template 'total and deterministic' (their statements: YtjlcliicdclooaaDoorTotals.lean).
  GIVEN WITH THE SEED: the statements are not yours to turn. If you find one false, say at which input.
  Laid BY PROGRAM, IN A SANDBOX (cutbox-rows.mjs): the forced cells as the released guide's own fill.sh prints them over the translation 67e1b5a8071294ec… (all of the seat's roots in one cut). By AI agents, Wed Nov 11 2026. No macro, syntax, notation, axiom, sorry.
-/
import Derived.Test.YtjlcliicdclooaaDoorChecked
import GoSem.PinnedTables
import GoSem.Claim
import GoSem.ClaimJoined
import GoSem.ClaimMapViews
import Derived.JoinedTies
import Derived.KernelRfl
namespace Go.Proofs.YtjlcliicdclooaaDoor
/- THE CELL 'sum', in the pinned program and in every row, IS THE sha256 OF THE DUMP (.gsa) THAT YtjlcliicdclooaaDoorProg.lean LOADS. Nothing in Lean hashes anything: it is a label: what it is worth is what the hold of that sum in a sandbox is worth. -/
noncomputable def Tryd.pinned : Pinned := { name := "ytjlcliicdclooaadoor", sum := "67e1b5a8071294ecd55f7b86ad5b37e802583fb286daaa6c0b2380237828dd8c", checked := Tryd.checked }
namespace Rows
def none {H : Type} : Left H := { results := [], args := [] }

/- WHAT THE LISTED PACKAGE-LEVEL VARIABLES READ AS WHEN THE CALL BEGINS. Each datum BY PROGRAM (the guide's laid-datum.mjs) off the statement by which the dump's own 'gosem.cut.vars' lays the variable. In a bare row this is a premise. The card (YtjlcliicdclooaaDoorCards.lean) ties it to the program's text. -/
def laid_unicode_utf8_acceptRanges {H : Type} : DataW H := .agg [.agg [.lit (.int .u8 128), .lit (.int .u8 191)], .agg [.lit (.int .u8 160), .lit (.int .u8 191)], .agg [.lit (.int .u8 128), .lit (.int .u8 159)], .agg [.lit (.int .u8 144), .lit (.int .u8 191)], .agg [.lit (.int .u8 128), .lit (.int .u8 143)], .agg [.lit (.int .u8 0), .lit (.int .u8 0)], .agg [.lit (.int .u8 0), .lit (.int .u8 0)], .agg [.lit (.int .u8 0), .lit (.int .u8 0)], .agg [.lit (.int .u8 0), .lit (.int .u8 0)], .agg [.lit (.int .u8 0), .lit (.int .u8 0)], .agg [.lit (.int .u8 0), .lit (.int .u8 0)], .agg [.lit (.int .u8 0), .lit (.int .u8 0)], .agg [.lit (.int .u8 0), .lit (.int .u8 0)], .agg [.lit (.int .u8 0), .lit (.int .u8 0)], .agg [.lit (.int .u8 0), .lit (.int .u8 0)], .agg [.lit (.int .u8 0), .lit (.int .u8 0)]]
/-- One of Go's own tables, pinned by name: the form's constant. -/
def laid_unicode_utf8_first : DataW Unit := Go.Pinned.utf8First

/-- 'quarrylaw20.PointerBack': WHATEVER THE INPUT: true; the input reads as it did. -/
def pointerBackSpec : ChangeSpec := { name := "pointerBack", fn := fun _ => fun
  | [d1, d2] => { results := [.lit (.bool true)], args := [d1, d2] }
  | _ => none }
def pointerBackRow : OpenClaim := { program := "ytjlcliicdclooaadoor", sum := "67e1b5a8071294ecd55f7b86ad5b37e802583fb286daaa6c0b2380237828dd8c", func := "quarry/quarrylaw20.PointerBack", spec := "pointerBack", inPlace := ["internal/bytealg.IndexByteString", "internal/bytealg.IndexString", "internal/abi.NoEscape", "internal/bytealg.CountString", "internal/bytealg.MakeNoZero"], recurses := true, named := ["unicode/utf8.first", "unicode/utf8.acceptRanges", "internal/bytealg.MaxLen"], apart := false, laid := [("unicode/utf8.acceptRanges", laid_unicode_utf8_acceptRanges), ("unicode/utf8.first", laid_unicode_utf8_first)] }
def PointerBackSaid : Prop := pointerBackRow.holds Tryd.pinned (OpenSpec.ofChange pointerBackSpec)

/-- ITS FALSE NEIGHBOUR: 'it returns false'. Refute it at one input. -/
def pointerBackWrong : ChangeSpec := { name := "pointerBack", fn := fun _ => fun
  | [d1, d2] => { results := [.lit (.bool false)], args := [d1, d2] }
  | _ => none }
def PointerBackWrongFalsely : Prop := pointerBackRow.holds Tryd.pinned (OpenSpec.ofChange pointerBackWrong)

/-- 'quarrylaw20.PointerChains': WHATEVER THE INPUT: true; the input reads as it did. -/
def pointerChainsSpec : ChangeSpec := { name := "pointerChains", fn := fun _ => fun
  | [d1, d2, d3] => { results := [.lit (.bool true)], args := [d1, d2, d3] }
  | _ => none }
def pointerChainsRow : OpenClaim := { program := "ytjlcliicdclooaadoor", sum := "67e1b5a8071294ecd55f7b86ad5b37e802583fb286daaa6c0b2380237828dd8c", func := "quarry/quarrylaw20.PointerChains", spec := "pointerChains", inPlace := ["internal/bytealg.IndexByteString", "internal/bytealg.IndexString", "internal/abi.NoEscape"], recurses := true, named := ["unicode/utf8.first", "unicode/utf8.acceptRanges", "internal/bytealg.MaxLen"], apart := false, laid := [("unicode/utf8.acceptRanges", laid_unicode_utf8_acceptRanges), ("unicode/utf8.first", laid_unicode_utf8_first)] }
def PointerChainsSaid : Prop := pointerChainsRow.holds Tryd.pinned (OpenSpec.ofChange pointerChainsSpec)

/-- ITS FALSE NEIGHBOUR: 'it returns false'. Refute it at one input. -/
def pointerChainsWrong : ChangeSpec := { name := "pointerChains", fn := fun _ => fun
  | [d1, d2, d3] => { results := [.lit (.bool false)], args := [d1, d2, d3] }
  | _ => none }
def PointerChainsWrongFalsely : Prop := pointerChainsRow.holds Tryd.pinned (OpenSpec.ofChange pointerChainsWrong)

/-- 'quarrylaw20.PointerFinds': WHATEVER THE INPUT: true; the input reads as it did. -/
def pointerFindsSpec : ChangeSpec := { name := "pointerFinds", fn := fun _ => fun
  | [d1, d2] => { results := [.lit (.bool true)], args := [d1, d2] }
  | _ => none }
def pointerFindsRow : OpenClaim := { program := "ytjlcliicdclooaadoor", sum := "67e1b5a8071294ecd55f7b86ad5b37e802583fb286daaa6c0b2380237828dd8c", func := "quarry/quarrylaw20.PointerFinds", spec := "pointerFinds", inPlace := ["internal/bytealg.IndexByteString", "internal/bytealg.IndexString", "internal/abi.NoEscape"], recurses := true, named := ["unicode/utf8.first", "unicode/utf8.acceptRanges", "internal/bytealg.MaxLen"], loops := true, apart := false, laid := [("unicode/utf8.acceptRanges", laid_unicode_utf8_acceptRanges), ("unicode/utf8.first", laid_unicode_utf8_first)] }
def PointerFindsSaid : Prop := pointerFindsRow.holds Tryd.pinned (OpenSpec.ofChange pointerFindsSpec)

/-- ITS FALSE NEIGHBOUR: 'it returns false'. Refute it at one input. -/
def pointerFindsWrong : ChangeSpec := { name := "pointerFinds", fn := fun _ => fun
  | [d1, d2] => { results := [.lit (.bool false)], args := [d1, d2] }
  | _ => none }
def PointerFindsWrongFalsely : Prop := pointerFindsRow.holds Tryd.pinned (OpenSpec.ofChange pointerFindsWrong)

/-- 'quarrylaw20.PointerLikes': WHATEVER THE INPUT: true; the input reads as it did. -/
def pointerLikesSpec : ChangeSpec := { name := "pointerLikes", fn := fun _ => fun
  | [d1, d2, d3] => { results := [.lit (.bool true)], args := [d1, d2, d3] }
  | _ => none }
def pointerLikesRow : OpenClaim := { program := "ytjlcliicdclooaadoor", sum := "67e1b5a8071294ecd55f7b86ad5b37e802583fb286daaa6c0b2380237828dd8c", func := "quarry/quarrylaw20.PointerLikes", spec := "pointerLikes", inPlace := ["internal/bytealg.IndexByteString", "internal/bytealg.IndexString", "internal/abi.NoEscape", "internal/bytealg.abigen_runtime_cmpstring"], unfollowed := true, recurses := true, named := ["unicode/utf8.first", "unicode/utf8.acceptRanges", "internal/bytealg.MaxLen"], loops := true, apart := false, laid := [("unicode/utf8.acceptRanges", laid_unicode_utf8_acceptRanges), ("unicode/utf8.first", laid_unicode_utf8_first)] }
def PointerLikesSaid : Prop := pointerLikesRow.holds Tryd.pinned (OpenSpec.ofChange pointerLikesSpec)

/-- ITS FALSE NEIGHBOUR: 'it returns false'. Refute it at one input. -/
def pointerLikesWrong : ChangeSpec := { name := "pointerLikes", fn := fun _ => fun
  | [d1, d2, d3] => { results := [.lit (.bool false)], args := [d1, d2, d3] }
  | _ => none }
def PointerLikesWrongFalsely : Prop := pointerLikesRow.holds Tryd.pinned (OpenSpec.ofChange pointerLikesWrong)

/- THE SECOND FORM. 'bulk': how many values and letters a reading holds, each counted each time it is reached (what is shared counts as often as it is met; a slice's spare places count too). A statement '..UptoSaid' is the law's where the arguments, and the package variables that the reading takes, are together of bulk at most 1048576: NARROWER than '..Said'. Prove '..Said' where nothing that the law and all that it calls make is longer than what came in: it says more and counts as full. Else prove '..UptoSaid'. A law counts once. -/
mutual
def uptoBulk {H : Type} : DataW H → Nat
  | .lit (.string bytes) => bytes.length + 1
  | .lit _ => 1
  | .nil => 1
  | .ptr d => uptoBulk d + 1
  | .slice elems spare => uptoBulkAll elems + uptoBulkAll spare + 1
  | .agg parts => uptoBulkAll parts + 1
  | .iface _ d => uptoBulk d + 1
  | .map entries => uptoBulkEntries entries + 1
  | .held _ => 1
def uptoBulkAll {H : Type} : List (DataW H) → Nat
  | [] => 0
  | d :: r => uptoBulk d + uptoBulkAll r
def uptoBulkEntries {H : Type} : List (Lit × DataW H) → Nat
  | [] => 0
  | x :: r => uptoBulkEntry x + uptoBulkEntries r
def uptoBulkEntry {H : Type} : Lit × DataW H → Nat
  | (.string bytes, d) => bytes.length + uptoBulk d + 1
  | (_, d) => uptoBulk d + 1
 end
def uptoSmall : (H : Type) → List (DataW H) → Bool := fun _ ds => decide (uptoBulkAll ds ≤ 1048576)
def OpenSpec.upto (s : _root_.Go.ChangeSpec) : _root_.Go.OpenSpec := { _root_.Go.OpenSpec.ofChange s with cond := some uptoSmall }

/-- 'quarrylaw20.PointerBack', WHERE WHAT IT READS IS OF BULK AT MOST 1048576: true; the input reads as it did. -/
def pointerBackUptoRow : OpenClaim := { program := "ytjlcliicdclooaadoor", sum := "67e1b5a8071294ecd55f7b86ad5b37e802583fb286daaa6c0b2380237828dd8c", func := "quarry/quarrylaw20.PointerBack", spec := "pointerBack", inPlace := ["internal/bytealg.IndexByteString", "internal/bytealg.IndexString", "internal/abi.NoEscape", "internal/bytealg.CountString", "internal/bytealg.MakeNoZero"], recurses := true, named := ["unicode/utf8.first", "unicode/utf8.acceptRanges", "internal/bytealg.MaxLen"], apart := false, laid := [("unicode/utf8.acceptRanges", laid_unicode_utf8_acceptRanges), ("unicode/utf8.first", laid_unicode_utf8_first)], narrowed := true }
def PointerBackUptoSaid : Prop := pointerBackUptoRow.holds Tryd.pinned (OpenSpec.upto pointerBackSpec)

/-- 'quarrylaw20.PointerChains', WHERE WHAT IT READS IS OF BULK AT MOST 1048576: true; the input reads as it did. -/
def pointerChainsUptoRow : OpenClaim := { program := "ytjlcliicdclooaadoor", sum := "67e1b5a8071294ecd55f7b86ad5b37e802583fb286daaa6c0b2380237828dd8c", func := "quarry/quarrylaw20.PointerChains", spec := "pointerChains", inPlace := ["internal/bytealg.IndexByteString", "internal/bytealg.IndexString", "internal/abi.NoEscape"], recurses := true, named := ["unicode/utf8.first", "unicode/utf8.acceptRanges", "internal/bytealg.MaxLen"], apart := false, laid := [("unicode/utf8.acceptRanges", laid_unicode_utf8_acceptRanges), ("unicode/utf8.first", laid_unicode_utf8_first)], narrowed := true }
def PointerChainsUptoSaid : Prop := pointerChainsUptoRow.holds Tryd.pinned (OpenSpec.upto pointerChainsSpec)

/-- 'quarrylaw20.PointerFinds', WHERE WHAT IT READS IS OF BULK AT MOST 1048576: true; the input reads as it did. -/
def pointerFindsUptoRow : OpenClaim := { program := "ytjlcliicdclooaadoor", sum := "67e1b5a8071294ecd55f7b86ad5b37e802583fb286daaa6c0b2380237828dd8c", func := "quarry/quarrylaw20.PointerFinds", spec := "pointerFinds", inPlace := ["internal/bytealg.IndexByteString", "internal/bytealg.IndexString", "internal/abi.NoEscape"], recurses := true, named := ["unicode/utf8.first", "unicode/utf8.acceptRanges", "internal/bytealg.MaxLen"], loops := true, apart := false, laid := [("unicode/utf8.acceptRanges", laid_unicode_utf8_acceptRanges), ("unicode/utf8.first", laid_unicode_utf8_first)], narrowed := true }
def PointerFindsUptoSaid : Prop := pointerFindsUptoRow.holds Tryd.pinned (OpenSpec.upto pointerFindsSpec)

/-- 'quarrylaw20.PointerLikes', WHERE WHAT IT READS IS OF BULK AT MOST 1048576: true; the input reads as it did. -/
def pointerLikesUptoRow : OpenClaim := { program := "ytjlcliicdclooaadoor", sum := "67e1b5a8071294ecd55f7b86ad5b37e802583fb286daaa6c0b2380237828dd8c", func := "quarry/quarrylaw20.PointerLikes", spec := "pointerLikes", inPlace := ["internal/bytealg.IndexByteString", "internal/bytealg.IndexString", "internal/abi.NoEscape", "internal/bytealg.abigen_runtime_cmpstring"], unfollowed := true, recurses := true, named := ["unicode/utf8.first", "unicode/utf8.acceptRanges", "internal/bytealg.MaxLen"], loops := true, apart := false, laid := [("unicode/utf8.acceptRanges", laid_unicode_utf8_acceptRanges), ("unicode/utf8.first", laid_unicode_utf8_first)], narrowed := true }
def PointerLikesUptoSaid : Prop := pointerLikesUptoRow.holds Tryd.pinned (OpenSpec.upto pointerLikesSpec)

end Rows
end Go.Proofs.YtjlcliicdclooaaDoor
