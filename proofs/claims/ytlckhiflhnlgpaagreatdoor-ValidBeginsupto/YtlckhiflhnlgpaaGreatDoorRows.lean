/-
  NARROWER THAN 'FOR EVERY INPUT', by the rows' own cells (each row's printed sentence says how): ValidLimits: laid · ValidCheck: laid · ValidScalar: laid · ValidValue: laid · ValidBegins: laid · ValidDepths: laid.
  DERIVED. THE GIVEN ROWS OF THIS SEAT. 6 by the template 'for every input the law returns true; each argument reads behind the call as it read before'; 0 by the template 'total and deterministic' (their statements: YtlckhiflhnlgpaaGreatDoorTotals.lean).
  GIVEN WITH THE SEED: the statements are not yours to turn. If you find one false, say at which input.
  Laid BY PROGRAM, IN A SANDBOX (cutbox-rows.mjs): the forced cells as the released guide's own fill.sh prints them over the translation df5aaaa8a2d3db23… (all of the seat's roots in one cut). By AI agents, Wed Nov 11 2026. No macro, syntax, notation, axiom, sorry.
-/
import Derived.Test.YtlckhiflhnlgpaaGreatDoorChecked
import GoSem.PinnedTables
import GoSem.Claim
import GoSem.ClaimJoined
import GoSem.ClaimMapViews
import Derived.JoinedTies
import Derived.KernelRfl
namespace Go.Proofs.YtlckhiflhnlgpaaGreatDoor
/- THE CELL 'sum', in the pinned program and in every row, IS THE sha256 OF THE DUMP (.gsa) THAT YtlckhiflhnlgpaaGreatDoorProg.lean LOADS. Nothing in Lean hashes anything: it is a label: what it is worth is what the hold of that sum in a sandbox is worth. -/
noncomputable def Tryz.pinned : Pinned := { name := "ytlckhiflhnlgpaagreatdoor", sum := "df5aaaa8a2d3db23ed99f4829eecec85254ff8a56fc0d28d1479e7a058153e23", checked := Tryz.checked }
namespace Rows
def none {H : Type} : Left H := { results := [], args := [] }

/- WHAT THE LISTED PACKAGE-LEVEL VARIABLES READ AS WHEN THE CALL BEGINS. Each datum BY PROGRAM (the guide's laid-datum.mjs) off the statement by which the dump's own 'gosem.cut.vars' lays the variable. In a bare row this is a premise. The card (YtlckhiflhnlgpaaGreatDoorCards.lean) ties it to the program's text. -/
def laid_math_bits_deBruijn64tab {H : Type} : DataW H := .agg [.lit (.int .u8 0), .lit (.int .u8 1), .lit (.int .u8 56), .lit (.int .u8 2), .lit (.int .u8 57), .lit (.int .u8 49), .lit (.int .u8 28), .lit (.int .u8 3), .lit (.int .u8 61), .lit (.int .u8 58), .lit (.int .u8 42), .lit (.int .u8 50), .lit (.int .u8 38), .lit (.int .u8 29), .lit (.int .u8 17), .lit (.int .u8 4), .lit (.int .u8 62), .lit (.int .u8 47), .lit (.int .u8 59), .lit (.int .u8 36), .lit (.int .u8 45), .lit (.int .u8 43), .lit (.int .u8 51), .lit (.int .u8 22), .lit (.int .u8 53), .lit (.int .u8 39), .lit (.int .u8 33), .lit (.int .u8 30), .lit (.int .u8 24), .lit (.int .u8 18), .lit (.int .u8 12), .lit (.int .u8 5), .lit (.int .u8 63), .lit (.int .u8 55), .lit (.int .u8 48), .lit (.int .u8 27), .lit (.int .u8 60), .lit (.int .u8 41), .lit (.int .u8 37), .lit (.int .u8 16), .lit (.int .u8 46), .lit (.int .u8 35), .lit (.int .u8 44), .lit (.int .u8 21), .lit (.int .u8 52), .lit (.int .u8 32), .lit (.int .u8 23), .lit (.int .u8 11), .lit (.int .u8 54), .lit (.int .u8 26), .lit (.int .u8 40), .lit (.int .u8 15), .lit (.int .u8 34), .lit (.int .u8 20), .lit (.int .u8 31), .lit (.int .u8 10), .lit (.int .u8 25), .lit (.int .u8 14), .lit (.int .u8 19), .lit (.int .u8 9), .lit (.int .u8 13), .lit (.int .u8 8), .lit (.int .u8 7), .lit (.int .u8 6)]
def laid_unicode_utf8_acceptRanges {H : Type} : DataW H := .agg [.agg [.lit (.int .u8 128), .lit (.int .u8 191)], .agg [.lit (.int .u8 160), .lit (.int .u8 191)], .agg [.lit (.int .u8 128), .lit (.int .u8 159)], .agg [.lit (.int .u8 144), .lit (.int .u8 191)], .agg [.lit (.int .u8 128), .lit (.int .u8 143)], .agg [.lit (.int .u8 0), .lit (.int .u8 0)], .agg [.lit (.int .u8 0), .lit (.int .u8 0)], .agg [.lit (.int .u8 0), .lit (.int .u8 0)], .agg [.lit (.int .u8 0), .lit (.int .u8 0)], .agg [.lit (.int .u8 0), .lit (.int .u8 0)], .agg [.lit (.int .u8 0), .lit (.int .u8 0)], .agg [.lit (.int .u8 0), .lit (.int .u8 0)], .agg [.lit (.int .u8 0), .lit (.int .u8 0)], .agg [.lit (.int .u8 0), .lit (.int .u8 0)], .agg [.lit (.int .u8 0), .lit (.int .u8 0)], .agg [.lit (.int .u8 0), .lit (.int .u8 0)]]
def laid_quarry_marks_table {H : Type} : DataW H := .agg [.lit (.int .u8 0), .lit (.int .u8 0), .lit (.int .u8 0), .lit (.int .u8 0), .lit (.int .u8 0), .lit (.int .u8 0), .lit (.int .u8 0), .lit (.int .u8 0), .lit (.int .u8 0), .lit (.int .u8 2), .lit (.int .u8 2), .lit (.int .u8 0), .lit (.int .u8 0), .lit (.int .u8 2), .lit (.int .u8 0), .lit (.int .u8 0), .lit (.int .u8 0), .lit (.int .u8 0), .lit (.int .u8 0), .lit (.int .u8 0), .lit (.int .u8 0), .lit (.int .u8 0), .lit (.int .u8 0), .lit (.int .u8 0), .lit (.int .u8 0), .lit (.int .u8 0), .lit (.int .u8 0), .lit (.int .u8 0), .lit (.int .u8 0), .lit (.int .u8 0), .lit (.int .u8 0), .lit (.int .u8 0), .lit (.int .u8 2), .lit (.int .u8 0), .lit (.int .u8 0), .lit (.int .u8 0), .lit (.int .u8 0), .lit (.int .u8 0), .lit (.int .u8 0), .lit (.int .u8 0), .lit (.int .u8 0), .lit (.int .u8 0), .lit (.int .u8 0), .lit (.int .u8 0), .lit (.int .u8 1), .lit (.int .u8 0), .lit (.int .u8 0), .lit (.int .u8 0), .lit (.int .u8 0), .lit (.int .u8 0), .lit (.int .u8 0), .lit (.int .u8 0), .lit (.int .u8 0), .lit (.int .u8 0), .lit (.int .u8 0), .lit (.int .u8 0), .lit (.int .u8 0), .lit (.int .u8 0), .lit (.int .u8 1), .lit (.int .u8 0), .lit (.int .u8 0), .lit (.int .u8 0), .lit (.int .u8 0), .lit (.int .u8 0), .lit (.int .u8 0), .lit (.int .u8 0), .lit (.int .u8 0), .lit (.int .u8 0), .lit (.int .u8 0), .lit (.int .u8 0), .lit (.int .u8 0), .lit (.int .u8 0), .lit (.int .u8 0), .lit (.int .u8 0), .lit (.int .u8 0), .lit (.int .u8 0), .lit (.int .u8 0), .lit (.int .u8 0), .lit (.int .u8 0), .lit (.int .u8 0), .lit (.int .u8 0), .lit (.int .u8 0), .lit (.int .u8 0), .lit (.int .u8 0), .lit (.int .u8 0), .lit (.int .u8 0), .lit (.int .u8 0), .lit (.int .u8 0), .lit (.int .u8 0), .lit (.int .u8 0), .lit (.int .u8 0), .lit (.int .u8 1), .lit (.int .u8 0), .lit (.int .u8 1), .lit (.int .u8 0), .lit (.int .u8 0), .lit (.int .u8 0), .lit (.int .u8 0), .lit (.int .u8 0), .lit (.int .u8 0), .lit (.int .u8 0), .lit (.int .u8 0), .lit (.int .u8 0), .lit (.int .u8 0), .lit (.int .u8 0), .lit (.int .u8 0), .lit (.int .u8 0), .lit (.int .u8 0), .lit (.int .u8 0), .lit (.int .u8 0), .lit (.int .u8 0), .lit (.int .u8 0), .lit (.int .u8 0), .lit (.int .u8 0), .lit (.int .u8 0), .lit (.int .u8 0), .lit (.int .u8 0), .lit (.int .u8 0), .lit (.int .u8 0), .lit (.int .u8 0), .lit (.int .u8 0), .lit (.int .u8 0), .lit (.int .u8 0), .lit (.int .u8 1), .lit (.int .u8 0), .lit (.int .u8 1), .lit (.int .u8 0), .lit (.int .u8 0)]
/-- One of Go's own tables, pinned by name: the form's constant. -/
def laid_unicode_utf8_first : DataW Unit := Go.Pinned.utf8First

/-- 'quarrylaw16.ValidLimits': WHATEVER THE INPUT: true; the input reads as it did. -/
def validLimitsSpec : ChangeSpec := { name := "validLimits", fn := fun _ => fun
  | [] => { results := [.lit (.bool true)], args := [] }
  | _ => none }
def validLimitsRow : OpenClaim := { program := "ytlckhiflhnlgpaagreatdoor", sum := "df5aaaa8a2d3db23ed99f4829eecec85254ff8a56fc0d28d1479e7a058153e23", func := "quarry/quarrylaw16.ValidLimits", spec := "validLimits", inPlace := ["internal/bytealg.IndexByteString", "internal/bytealg.IndexString", "internal/bytealg.MakeNoZero"], unfollowed := true, recurses := true, named := ["unicode/utf8.first", "unicode/utf8.acceptRanges", "math/bits.deBruijn64tab", "quarry/marks.table", "internal/bytealg.MaxLen"], apart := false, laid := [("math/bits.deBruijn64tab", laid_math_bits_deBruijn64tab), ("unicode/utf8.acceptRanges", laid_unicode_utf8_acceptRanges), ("quarry/marks.table", laid_quarry_marks_table), ("unicode/utf8.first", laid_unicode_utf8_first)] }
def ValidLimitsSaid : Prop := validLimitsRow.holds Tryz.pinned (OpenSpec.ofChange validLimitsSpec)

/-- ITS FALSE NEIGHBOUR: 'it returns false'. Refute it at one input. -/
def validLimitsWrong : ChangeSpec := { name := "validLimits", fn := fun _ => fun
  | [] => { results := [.lit (.bool false)], args := [] }
  | _ => none }
def ValidLimitsWrongFalsely : Prop := validLimitsRow.holds Tryz.pinned (OpenSpec.ofChange validLimitsWrong)

/-- 'quarrylaw16.ValidCheck': WHATEVER THE INPUT: true; the input reads as it did. -/
def validCheckSpec : ChangeSpec := { name := "validCheck", fn := fun _ => fun
  | [d1, d2] => { results := [.lit (.bool true)], args := [d1, d2] }
  | _ => none }
def validCheckRow : OpenClaim := { program := "ytlckhiflhnlgpaagreatdoor", sum := "df5aaaa8a2d3db23ed99f4829eecec85254ff8a56fc0d28d1479e7a058153e23", func := "quarry/quarrylaw16.ValidCheck", spec := "validCheck", inPlace := ["internal/bytealg.IndexByteString", "internal/bytealg.IndexString", "internal/bytealg.MakeNoZero"], unfollowed := true, recurses := true, named := ["unicode/utf8.first", "unicode/utf8.acceptRanges", "math/bits.deBruijn64tab", "quarry/marks.table", "internal/bytealg.MaxLen"], apart := false, laid := [("math/bits.deBruijn64tab", laid_math_bits_deBruijn64tab), ("unicode/utf8.acceptRanges", laid_unicode_utf8_acceptRanges), ("quarry/marks.table", laid_quarry_marks_table), ("unicode/utf8.first", laid_unicode_utf8_first)] }
def ValidCheckSaid : Prop := validCheckRow.holds Tryz.pinned (OpenSpec.ofChange validCheckSpec)

/-- ITS FALSE NEIGHBOUR: 'it returns false'. Refute it at one input. -/
def validCheckWrong : ChangeSpec := { name := "validCheck", fn := fun _ => fun
  | [d1, d2] => { results := [.lit (.bool false)], args := [d1, d2] }
  | _ => none }
def ValidCheckWrongFalsely : Prop := validCheckRow.holds Tryz.pinned (OpenSpec.ofChange validCheckWrong)

/-- 'quarrylaw16.ValidScalar': WHATEVER THE INPUT: true; the input reads as it did. -/
def validScalarSpec : ChangeSpec := { name := "validScalar", fn := fun _ => fun
  | [d] => { results := [.lit (.bool true)], args := [d] }
  | _ => none }
def validScalarRow : OpenClaim := { program := "ytlckhiflhnlgpaagreatdoor", sum := "df5aaaa8a2d3db23ed99f4829eecec85254ff8a56fc0d28d1479e7a058153e23", func := "quarry/quarrylaw16.ValidScalar", spec := "validScalar", inPlace := ["internal/bytealg.IndexByteString", "internal/bytealg.IndexString", "internal/bytealg.MakeNoZero"], unfollowed := true, recurses := true, named := ["unicode/utf8.first", "unicode/utf8.acceptRanges", "math/bits.deBruijn64tab", "quarry/marks.table", "internal/bytealg.MaxLen"], apart := false, laid := [("math/bits.deBruijn64tab", laid_math_bits_deBruijn64tab), ("unicode/utf8.acceptRanges", laid_unicode_utf8_acceptRanges), ("quarry/marks.table", laid_quarry_marks_table), ("unicode/utf8.first", laid_unicode_utf8_first)] }
def ValidScalarSaid : Prop := validScalarRow.holds Tryz.pinned (OpenSpec.ofChange validScalarSpec)

/-- ITS FALSE NEIGHBOUR: 'it returns false'. Refute it at one input. -/
def validScalarWrong : ChangeSpec := { name := "validScalar", fn := fun _ => fun
  | [d] => { results := [.lit (.bool false)], args := [d] }
  | _ => none }
def ValidScalarWrongFalsely : Prop := validScalarRow.holds Tryz.pinned (OpenSpec.ofChange validScalarWrong)

/-- 'quarrylaw16.ValidValue': WHATEVER THE INPUT: true; the input reads as it did. -/
def validValueSpec : ChangeSpec := { name := "validValue", fn := fun _ => fun
  | [d1, d2] => { results := [.lit (.bool true)], args := [d1, d2] }
  | _ => none }
def validValueRow : OpenClaim := { program := "ytlckhiflhnlgpaagreatdoor", sum := "df5aaaa8a2d3db23ed99f4829eecec85254ff8a56fc0d28d1479e7a058153e23", func := "quarry/quarrylaw16.ValidValue", spec := "validValue", inPlace := ["internal/bytealg.IndexByteString", "internal/bytealg.IndexString", "internal/bytealg.MakeNoZero"], unfollowed := true, recurses := true, named := ["unicode/utf8.first", "unicode/utf8.acceptRanges", "math/bits.deBruijn64tab", "quarry/marks.table", "internal/bytealg.MaxLen"], apart := false, laid := [("math/bits.deBruijn64tab", laid_math_bits_deBruijn64tab), ("unicode/utf8.acceptRanges", laid_unicode_utf8_acceptRanges), ("quarry/marks.table", laid_quarry_marks_table), ("unicode/utf8.first", laid_unicode_utf8_first)] }
def ValidValueSaid : Prop := validValueRow.holds Tryz.pinned (OpenSpec.ofChange validValueSpec)

/-- ITS FALSE NEIGHBOUR: 'it returns false'. Refute it at one input. -/
def validValueWrong : ChangeSpec := { name := "validValue", fn := fun _ => fun
  | [d1, d2] => { results := [.lit (.bool false)], args := [d1, d2] }
  | _ => none }
def ValidValueWrongFalsely : Prop := validValueRow.holds Tryz.pinned (OpenSpec.ofChange validValueWrong)

/-- 'quarrylaw16.ValidBegins': WHATEVER THE INPUT: true; the input reads as it did. -/
def validBeginsSpec : ChangeSpec := { name := "validBegins", fn := fun _ => fun
  | [d1, d2] => { results := [.lit (.bool true)], args := [d1, d2] }
  | _ => none }
def validBeginsRow : OpenClaim := { program := "ytlckhiflhnlgpaagreatdoor", sum := "df5aaaa8a2d3db23ed99f4829eecec85254ff8a56fc0d28d1479e7a058153e23", func := "quarry/quarrylaw16.ValidBegins", spec := "validBegins", inPlace := ["internal/bytealg.IndexByteString", "internal/bytealg.IndexString", "internal/bytealg.MakeNoZero"], unfollowed := true, recurses := true, named := ["unicode/utf8.first", "unicode/utf8.acceptRanges", "math/bits.deBruijn64tab", "quarry/marks.table", "internal/bytealg.MaxLen"], apart := false, laid := [("math/bits.deBruijn64tab", laid_math_bits_deBruijn64tab), ("unicode/utf8.acceptRanges", laid_unicode_utf8_acceptRanges), ("quarry/marks.table", laid_quarry_marks_table), ("unicode/utf8.first", laid_unicode_utf8_first)] }
def ValidBeginsSaid : Prop := validBeginsRow.holds Tryz.pinned (OpenSpec.ofChange validBeginsSpec)

/-- ITS FALSE NEIGHBOUR: 'it returns false'. Refute it at one input. -/
def validBeginsWrong : ChangeSpec := { name := "validBegins", fn := fun _ => fun
  | [d1, d2] => { results := [.lit (.bool false)], args := [d1, d2] }
  | _ => none }
def ValidBeginsWrongFalsely : Prop := validBeginsRow.holds Tryz.pinned (OpenSpec.ofChange validBeginsWrong)

/-- 'quarrylaw16.ValidDepths': WHATEVER THE INPUT: true; the input reads as it did. -/
def validDepthsSpec : ChangeSpec := { name := "validDepths", fn := fun _ => fun
  | [d1, d2] => { results := [.lit (.bool true)], args := [d1, d2] }
  | _ => none }
def validDepthsRow : OpenClaim := { program := "ytlckhiflhnlgpaagreatdoor", sum := "df5aaaa8a2d3db23ed99f4829eecec85254ff8a56fc0d28d1479e7a058153e23", func := "quarry/quarrylaw16.ValidDepths", spec := "validDepths", inPlace := ["internal/bytealg.IndexByteString", "internal/bytealg.IndexString", "internal/bytealg.MakeNoZero"], unfollowed := true, recurses := true, named := ["unicode/utf8.first", "unicode/utf8.acceptRanges", "math/bits.deBruijn64tab", "quarry/marks.table", "internal/bytealg.MaxLen"], apart := false, laid := [("math/bits.deBruijn64tab", laid_math_bits_deBruijn64tab), ("unicode/utf8.acceptRanges", laid_unicode_utf8_acceptRanges), ("quarry/marks.table", laid_quarry_marks_table), ("unicode/utf8.first", laid_unicode_utf8_first)] }
def ValidDepthsSaid : Prop := validDepthsRow.holds Tryz.pinned (OpenSpec.ofChange validDepthsSpec)

/-- ITS FALSE NEIGHBOUR: 'it returns false'. Refute it at one input. -/
def validDepthsWrong : ChangeSpec := { name := "validDepths", fn := fun _ => fun
  | [d1, d2] => { results := [.lit (.bool false)], args := [d1, d2] }
  | _ => none }
def ValidDepthsWrongFalsely : Prop := validDepthsRow.holds Tryz.pinned (OpenSpec.ofChange validDepthsWrong)

/- THE SECOND FORM. 'bulk': how many values and letters a reading holds, each counted each time it is reached (what is shared counts as often as it is met; a slice's spare places count too). A statement '..UptoSaid' is the law's where the arguments, and the package variables that the reading takes, are together of bulk at most 1048576: NARROWER than '..Said'. Prove '..Said' where nothing that the law and all that it calls make is longer than what came in: it says more and counts as full. Else prove '..UptoSaid'. A law counts once. -/
mutual
def uptoBulk {H : Type} : DataW H → Nat
  | .lit (.string bytes) => bytes.length + 1
  | .lit _ => 1
  | .nil => 1
  | .ptr d => uptoBulk d + 1
  | .slice elems spare => uptoBulkAll elems + uptoBulkAll spare + 1
  | .agg parts => uptoBulkAll parts + 1
  | .iface _ d => uptoBulk d + 1
  | .map entries => uptoBulkEntries entries + 1
  | .held _ => 1
def uptoBulkAll {H : Type} : List (DataW H) → Nat
  | [] => 0
  | d :: r => uptoBulk d + uptoBulkAll r
def uptoBulkEntries {H : Type} : List (Lit × DataW H) → Nat
  | [] => 0
  | x :: r => uptoBulkEntry x + uptoBulkEntries r
def uptoBulkEntry {H : Type} : Lit × DataW H → Nat
  | (.string bytes, d) => bytes.length + uptoBulk d + 1
  | (_, d) => uptoBulk d + 1
 end
def uptoSmall : (H : Type) → List (DataW H) → Bool := fun _ ds => decide (uptoBulkAll ds ≤ 1048576)
def OpenSpec.upto (s : _root_.Go.ChangeSpec) : _root_.Go.OpenSpec := { _root_.Go.OpenSpec.ofChange s with cond := some uptoSmall }

/-- 'quarrylaw16.ValidLimits', WHERE WHAT IT READS IS OF BULK AT MOST 1048576: true; the input reads as it did. -/
def validLimitsUptoRow : OpenClaim := { program := "ytlckhiflhnlgpaagreatdoor", sum := "df5aaaa8a2d3db23ed99f4829eecec85254ff8a56fc0d28d1479e7a058153e23", func := "quarry/quarrylaw16.ValidLimits", spec := "validLimits", inPlace := ["internal/bytealg.IndexByteString", "internal/bytealg.IndexString", "internal/bytealg.MakeNoZero"], unfollowed := true, recurses := true, named := ["unicode/utf8.first", "unicode/utf8.acceptRanges", "math/bits.deBruijn64tab", "quarry/marks.table", "internal/bytealg.MaxLen"], apart := false, laid := [("math/bits.deBruijn64tab", laid_math_bits_deBruijn64tab), ("unicode/utf8.acceptRanges", laid_unicode_utf8_acceptRanges), ("quarry/marks.table", laid_quarry_marks_table), ("unicode/utf8.first", laid_unicode_utf8_first)], narrowed := true }
def ValidLimitsUptoSaid : Prop := validLimitsUptoRow.holds Tryz.pinned (OpenSpec.upto validLimitsSpec)

/-- 'quarrylaw16.ValidCheck', WHERE WHAT IT READS IS OF BULK AT MOST 1048576: true; the input reads as it did. -/
def validCheckUptoRow : OpenClaim := { program := "ytlckhiflhnlgpaagreatdoor", sum := "df5aaaa8a2d3db23ed99f4829eecec85254ff8a56fc0d28d1479e7a058153e23", func := "quarry/quarrylaw16.ValidCheck", spec := "validCheck", inPlace := ["internal/bytealg.IndexByteString", "internal/bytealg.IndexString", "internal/bytealg.MakeNoZero"], unfollowed := true, recurses := true, named := ["unicode/utf8.first", "unicode/utf8.acceptRanges", "math/bits.deBruijn64tab", "quarry/marks.table", "internal/bytealg.MaxLen"], apart := false, laid := [("math/bits.deBruijn64tab", laid_math_bits_deBruijn64tab), ("unicode/utf8.acceptRanges", laid_unicode_utf8_acceptRanges), ("quarry/marks.table", laid_quarry_marks_table), ("unicode/utf8.first", laid_unicode_utf8_first)], narrowed := true }
def ValidCheckUptoSaid : Prop := validCheckUptoRow.holds Tryz.pinned (OpenSpec.upto validCheckSpec)

/-- 'quarrylaw16.ValidScalar', WHERE WHAT IT READS IS OF BULK AT MOST 1048576: true; the input reads as it did. -/
def validScalarUptoRow : OpenClaim := { program := "ytlckhiflhnlgpaagreatdoor", sum := "df5aaaa8a2d3db23ed99f4829eecec85254ff8a56fc0d28d1479e7a058153e23", func := "quarry/quarrylaw16.ValidScalar", spec := "validScalar", inPlace := ["internal/bytealg.IndexByteString", "internal/bytealg.IndexString", "internal/bytealg.MakeNoZero"], unfollowed := true, recurses := true, named := ["unicode/utf8.first", "unicode/utf8.acceptRanges", "math/bits.deBruijn64tab", "quarry/marks.table", "internal/bytealg.MaxLen"], apart := false, laid := [("math/bits.deBruijn64tab", laid_math_bits_deBruijn64tab), ("unicode/utf8.acceptRanges", laid_unicode_utf8_acceptRanges), ("quarry/marks.table", laid_quarry_marks_table), ("unicode/utf8.first", laid_unicode_utf8_first)], narrowed := true }
def ValidScalarUptoSaid : Prop := validScalarUptoRow.holds Tryz.pinned (OpenSpec.upto validScalarSpec)

/-- 'quarrylaw16.ValidValue', WHERE WHAT IT READS IS OF BULK AT MOST 1048576: true; the input reads as it did. -/
def validValueUptoRow : OpenClaim := { program := "ytlckhiflhnlgpaagreatdoor", sum := "df5aaaa8a2d3db23ed99f4829eecec85254ff8a56fc0d28d1479e7a058153e23", func := "quarry/quarrylaw16.ValidValue", spec := "validValue", inPlace := ["internal/bytealg.IndexByteString", "internal/bytealg.IndexString", "internal/bytealg.MakeNoZero"], unfollowed := true, recurses := true, named := ["unicode/utf8.first", "unicode/utf8.acceptRanges", "math/bits.deBruijn64tab", "quarry/marks.table", "internal/bytealg.MaxLen"], apart := false, laid := [("math/bits.deBruijn64tab", laid_math_bits_deBruijn64tab), ("unicode/utf8.acceptRanges", laid_unicode_utf8_acceptRanges), ("quarry/marks.table", laid_quarry_marks_table), ("unicode/utf8.first", laid_unicode_utf8_first)], narrowed := true }
def ValidValueUptoSaid : Prop := validValueUptoRow.holds Tryz.pinned (OpenSpec.upto validValueSpec)

/-- 'quarrylaw16.ValidBegins', WHERE WHAT IT READS IS OF BULK AT MOST 1048576: true; the input reads as it did. -/
def validBeginsUptoRow : OpenClaim := { program := "ytlckhiflhnlgpaagreatdoor", sum := "df5aaaa8a2d3db23ed99f4829eecec85254ff8a56fc0d28d1479e7a058153e23", func := "quarry/quarrylaw16.ValidBegins", spec := "validBegins", inPlace := ["internal/bytealg.IndexByteString", "internal/bytealg.IndexString", "internal/bytealg.MakeNoZero"], unfollowed := true, recurses := true, named := ["unicode/utf8.first", "unicode/utf8.acceptRanges", "math/bits.deBruijn64tab", "quarry/marks.table", "internal/bytealg.MaxLen"], apart := false, laid := [("math/bits.deBruijn64tab", laid_math_bits_deBruijn64tab), ("unicode/utf8.acceptRanges", laid_unicode_utf8_acceptRanges), ("quarry/marks.table", laid_quarry_marks_table), ("unicode/utf8.first", laid_unicode_utf8_first)], narrowed := true }
def ValidBeginsUptoSaid : Prop := validBeginsUptoRow.holds Tryz.pinned (OpenSpec.upto validBeginsSpec)

/-- 'quarrylaw16.ValidDepths', WHERE WHAT IT READS IS OF BULK AT MOST 1048576: true; the input reads as it did. -/
def validDepthsUptoRow : OpenClaim := { program := "ytlckhiflhnlgpaagreatdoor", sum := "df5aaaa8a2d3db23ed99f4829eecec85254ff8a56fc0d28d1479e7a058153e23", func := "quarry/quarrylaw16.ValidDepths", spec := "validDepths", inPlace := ["internal/bytealg.IndexByteString", "internal/bytealg.IndexString", "internal/bytealg.MakeNoZero"], unfollowed := true, recurses := true, named := ["unicode/utf8.first", "unicode/utf8.acceptRanges", "math/bits.deBruijn64tab", "quarry/marks.table", "internal/bytealg.MaxLen"], apart := false, laid := [("math/bits.deBruijn64tab", laid_math_bits_deBruijn64tab), ("unicode/utf8.acceptRanges", laid_unicode_utf8_acceptRanges), ("quarry/marks.table", laid_quarry_marks_table), ("unicode/utf8.first", laid_unicode_utf8_first)], narrowed := true }
def ValidDepthsUptoSaid : Prop := validDepthsUptoRow.holds Tryz.pinned (OpenSpec.upto validDepthsSpec)

end Rows
end Go.Proofs.YtlckhiflhnlgpaaGreatDoor
