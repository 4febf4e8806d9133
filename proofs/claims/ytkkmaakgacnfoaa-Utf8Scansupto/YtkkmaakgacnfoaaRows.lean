/-
  No cell of these rows narrows 'for every input' (looked for: loops, veiled, ifaces, maps, wideKeys, modest, calm, conditions, laid).
  DERIVED. THE GIVEN ROWS OF THIS SEAT. 5 by the template 'for every input the law returns true; each argument reads behind the call as it read before'; 0 by the template 'total and deterministic' (their statements: YtkkmaakgacnfoaaTotals.lean).
  GIVEN WITH THE SEED: the statements are not yours to turn. If you find one false, say at which input.
  Laid BY PROGRAM, IN A SANDBOX (cutbox-rows.mjs): the forced cells as the released guide's own fill.sh prints them over the translation 3b406657ccbd440d… (all of the seat's roots in one cut). By AI agents, Wed Nov 11 2026. No macro, syntax, notation, axiom, sorry.
-/
import Derived.Test.YtkkmaakgacnfoaaChecked
import GoSem.Claim
import GoSem.ClaimJoined
import GoSem.ClaimMapViews
import Derived.JoinedTies
import Derived.KernelRfl
namespace Go.Proofs.Ytkkmaakgacnfoaa
/- THE CELL 'sum', in the pinned program and in every row, IS THE sha256 OF THE DUMP (.gsa) THAT YtkkmaakgacnfoaaProg.lean LOADS. Nothing in Lean hashes anything: it is a label: what it is worth is what the hold of that sum in a sandbox is worth. -/
noncomputable def Try.pinned : Pinned := { name := "ytkkmaakgacnfoaa", sum := "3b406657ccbd440db34f1f2a777179ea5539deb99450e3ac06d44602b63e3b72", checked := Try.checked }
namespace Rows
def none {H : Type} : Left H := { results := [], args := [] }

/-- 'quarrylaw05.Utf8Bads': WHATEVER THE INPUT: true; the input reads as it did. -/
def utf8BadsSpec : ChangeSpec := { name := "utf8Bads", fn := fun _ => fun
  | [d] => { results := [.lit (.bool true)], args := [d] }
  | _ => none }
def utf8BadsRow : OpenClaim := { program := "ytkkmaakgacnfoaa", sum := "3b406657ccbd440db34f1f2a777179ea5539deb99450e3ac06d44602b63e3b72", func := "quarry/quarrylaw05.Utf8Bads", spec := "utf8Bads", apart := false }
def Utf8BadsSaid : Prop := utf8BadsRow.holds Try.pinned (OpenSpec.ofChange utf8BadsSpec)

/-- ITS FALSE NEIGHBOUR: 'it returns false'. Refute it at one input. -/
def utf8BadsWrong : ChangeSpec := { name := "utf8Bads", fn := fun _ => fun
  | [d] => { results := [.lit (.bool false)], args := [d] }
  | _ => none }
def Utf8BadsWrongFalsely : Prop := utf8BadsRow.holds Try.pinned (OpenSpec.ofChange utf8BadsWrong)

/-- 'quarrylaw05.Utf8Scans': WHATEVER THE INPUT: true; the input reads as it did. -/
def utf8ScansSpec : ChangeSpec := { name := "utf8Scans", fn := fun _ => fun
  | [d] => { results := [.lit (.bool true)], args := [d] }
  | _ => none }
def utf8ScansRow : OpenClaim := { program := "ytkkmaakgacnfoaa", sum := "3b406657ccbd440db34f1f2a777179ea5539deb99450e3ac06d44602b63e3b72", func := "quarry/quarrylaw05.Utf8Scans", spec := "utf8Scans", apart := false }
def Utf8ScansSaid : Prop := utf8ScansRow.holds Try.pinned (OpenSpec.ofChange utf8ScansSpec)

/-- ITS FALSE NEIGHBOUR: 'it returns false'. Refute it at one input. -/
def utf8ScansWrong : ChangeSpec := { name := "utf8Scans", fn := fun _ => fun
  | [d] => { results := [.lit (.bool false)], args := [d] }
  | _ => none }
def Utf8ScansWrongFalsely : Prop := utf8ScansRow.holds Try.pinned (OpenSpec.ofChange utf8ScansWrong)

/-- 'quarrylaw05.Utf8Runes': WHATEVER THE INPUT: true; the input reads as it did. -/
def utf8RunesSpec : ChangeSpec := { name := "utf8Runes", fn := fun _ => fun
  | [d1, d2] => { results := [.lit (.bool true)], args := [d1, d2] }
  | _ => none }
def utf8RunesRow : OpenClaim := { program := "ytkkmaakgacnfoaa", sum := "3b406657ccbd440db34f1f2a777179ea5539deb99450e3ac06d44602b63e3b72", func := "quarry/quarrylaw05.Utf8Runes", spec := "utf8Runes", unfollowed := true, recurses := true, apart := false }
def Utf8RunesSaid : Prop := utf8RunesRow.holds Try.pinned (OpenSpec.ofChange utf8RunesSpec)

/-- ITS FALSE NEIGHBOUR: 'it returns false'. Refute it at one input. -/
def utf8RunesWrong : ChangeSpec := { name := "utf8Runes", fn := fun _ => fun
  | [d1, d2] => { results := [.lit (.bool false)], args := [d1, d2] }
  | _ => none }
def Utf8RunesWrongFalsely : Prop := utf8RunesRow.holds Try.pinned (OpenSpec.ofChange utf8RunesWrong)

/-- 'quarrylaw05.Utf8Sizes': WHATEVER THE INPUT: true; the input reads as it did. -/
def utf8SizesSpec : ChangeSpec := { name := "utf8Sizes", fn := fun _ => fun
  | [d] => { results := [.lit (.bool true)], args := [d] }
  | _ => none }
def utf8SizesRow : OpenClaim := { program := "ytkkmaakgacnfoaa", sum := "3b406657ccbd440db34f1f2a777179ea5539deb99450e3ac06d44602b63e3b72", func := "quarry/quarrylaw05.Utf8Sizes", spec := "utf8Sizes", apart := false }
def Utf8SizesSaid : Prop := utf8SizesRow.holds Try.pinned (OpenSpec.ofChange utf8SizesSpec)

/-- ITS FALSE NEIGHBOUR: 'it returns false'. Refute it at one input. -/
def utf8SizesWrong : ChangeSpec := { name := "utf8Sizes", fn := fun _ => fun
  | [d] => { results := [.lit (.bool false)], args := [d] }
  | _ => none }
def Utf8SizesWrongFalsely : Prop := utf8SizesRow.holds Try.pinned (OpenSpec.ofChange utf8SizesWrong)

/-- 'quarrylaw05.Utf8All': WHATEVER THE INPUT: true; the input reads as it did. -/
def utf8AllSpec : ChangeSpec := { name := "utf8All", fn := fun _ => fun
  | [] => { results := [.lit (.bool true)], args := [] }
  | _ => none }
def utf8AllRow : OpenClaim := { program := "ytkkmaakgacnfoaa", sum := "3b406657ccbd440db34f1f2a777179ea5539deb99450e3ac06d44602b63e3b72", func := "quarry/quarrylaw05.Utf8All", spec := "utf8All", unfollowed := true, recurses := true, apart := false }
def Utf8AllSaid : Prop := utf8AllRow.holds Try.pinned (OpenSpec.ofChange utf8AllSpec)

/-- ITS FALSE NEIGHBOUR: 'it returns false'. Refute it at one input. -/
def utf8AllWrong : ChangeSpec := { name := "utf8All", fn := fun _ => fun
  | [] => { results := [.lit (.bool false)], args := [] }
  | _ => none }
def Utf8AllWrongFalsely : Prop := utf8AllRow.holds Try.pinned (OpenSpec.ofChange utf8AllWrong)

/- THE SECOND FORM. 'bulk': how many values and letters a reading holds, each counted each time it is reached (what is shared counts as often as it is met; a slice's spare places count too). A statement '..UptoSaid' is the law's where the arguments, and the package variables that the reading takes, are together of bulk at most 1048576: NARROWER than '..Said'. Prove '..Said' where nothing that the law and all that it calls make is longer than what came in: it says more and counts as full. Else prove '..UptoSaid'. A law counts once. -/
mutual
def uptoBulk {H : Type} : DataW H → Nat
  | .lit (.string bytes) => bytes.length + 1
  | .lit _ => 1
  | .nil => 1
  | .ptr d => uptoBulk d + 1
  | .slice elems spare => uptoBulkAll elems + uptoBulkAll spare + 1
  | .agg parts => uptoBulkAll parts + 1
  | .iface _ d => uptoBulk d + 1
  | .map entries => uptoBulkEntries entries + 1
  | .held _ => 1
def uptoBulkAll {H : Type} : List (DataW H) → Nat
  | [] => 0
  | d :: r => uptoBulk d + uptoBulkAll r
def uptoBulkEntries {H : Type} : List (Lit × DataW H) → Nat
  | [] => 0
  | x :: r => uptoBulkEntry x + uptoBulkEntries r
def uptoBulkEntry {H : Type} : Lit × DataW H → Nat
  | (.string bytes, d) => bytes.length + uptoBulk d + 1
  | (_, d) => uptoBulk d + 1
 end
def uptoSmall : (H : Type) → List (DataW H) → Bool := fun _ ds => decide (uptoBulkAll ds ≤ 1048576)
def OpenSpec.upto (s : _root_.Go.ChangeSpec) : _root_.Go.OpenSpec := { _root_.Go.OpenSpec.ofChange s with cond := some uptoSmall }

/-- 'quarrylaw05.Utf8Bads', WHERE WHAT IT READS IS OF BULK AT MOST 1048576: true; the input reads as it did. -/
def utf8BadsUptoRow : OpenClaim := { program := "ytkkmaakgacnfoaa", sum := "3b406657ccbd440db34f1f2a777179ea5539deb99450e3ac06d44602b63e3b72", func := "quarry/quarrylaw05.Utf8Bads", spec := "utf8Bads", apart := false, narrowed := true }
def Utf8BadsUptoSaid : Prop := utf8BadsUptoRow.holds Try.pinned (OpenSpec.upto utf8BadsSpec)

/-- 'quarrylaw05.Utf8Scans', WHERE WHAT IT READS IS OF BULK AT MOST 1048576: true; the input reads as it did. -/
def utf8ScansUptoRow : OpenClaim := { program := "ytkkmaakgacnfoaa", sum := "3b406657ccbd440db34f1f2a777179ea5539deb99450e3ac06d44602b63e3b72", func := "quarry/quarrylaw05.Utf8Scans", spec := "utf8Scans", apart := false, narrowed := true }
def Utf8ScansUptoSaid : Prop := utf8ScansUptoRow.holds Try.pinned (OpenSpec.upto utf8ScansSpec)

/-- 'quarrylaw05.Utf8Runes', WHERE WHAT IT READS IS OF BULK AT MOST 1048576: true; the input reads as it did. -/
def utf8RunesUptoRow : OpenClaim := { program := "ytkkmaakgacnfoaa", sum := "3b406657ccbd440db34f1f2a777179ea5539deb99450e3ac06d44602b63e3b72", func := "quarry/quarrylaw05.Utf8Runes", spec := "utf8Runes", unfollowed := true, recurses := true, apart := false, narrowed := true }
def Utf8RunesUptoSaid : Prop := utf8RunesUptoRow.holds Try.pinned (OpenSpec.upto utf8RunesSpec)

/-- 'quarrylaw05.Utf8Sizes', WHERE WHAT IT READS IS OF BULK AT MOST 1048576: true; the input reads as it did. -/
def utf8SizesUptoRow : OpenClaim := { program := "ytkkmaakgacnfoaa", sum := "3b406657ccbd440db34f1f2a777179ea5539deb99450e3ac06d44602b63e3b72", func := "quarry/quarrylaw05.Utf8Sizes", spec := "utf8Sizes", apart := false, narrowed := true }
def Utf8SizesUptoSaid : Prop := utf8SizesUptoRow.holds Try.pinned (OpenSpec.upto utf8SizesSpec)

/-- 'quarrylaw05.Utf8All', WHERE WHAT IT READS IS OF BULK AT MOST 1048576: true; the input reads as it did. -/
def utf8AllUptoRow : OpenClaim := { program := "ytkkmaakgacnfoaa", sum := "3b406657ccbd440db34f1f2a777179ea5539deb99450e3ac06d44602b63e3b72", func := "quarry/quarrylaw05.Utf8All", spec := "utf8All", unfollowed := true, recurses := true, apart := false, narrowed := true }
def Utf8AllUptoSaid : Prop := utf8AllUptoRow.holds Try.pinned (OpenSpec.upto utf8AllSpec)

end Rows
end Go.Proofs.Ytkkmaakgacnfoaa
