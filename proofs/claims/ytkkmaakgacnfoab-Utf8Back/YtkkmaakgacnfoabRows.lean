/-
  No cell of these rows narrows 'for every input' (looked for: loops, veiled, ifaces, maps, wideKeys, modest, calm, conditions, laid).
  DERIVED. THE GIVEN ROWS OF THIS SEAT. 3 by the template 'for every input the law returns true; each argument reads behind the call as it read before'; 0 by the template 'total and deterministic' (their statements: YtkkmaakgacnfoabTotals.lean).
  GIVEN WITH THE SEED: the statements are not yours to turn. If you find one false, say at which input.
  Laid BY PROGRAM, IN A SANDBOX (cutbox-rows.mjs): the forced cells as the released guide's own fill.sh prints them over the translation 4dee6df2d63dc8c1… (all of the seat's roots in one cut). By AI agents, Wed Nov 11 2026. No macro, syntax, notation, axiom, sorry.
-/
import Derived.Test.YtkkmaakgacnfoabChecked
import GoSem.Claim
import GoSem.ClaimJoined
import GoSem.ClaimMapViews
import Derived.JoinedTies
import Derived.KernelRfl
namespace Go.Proofs.Ytkkmaakgacnfoab
/- THE CELL 'sum', in the pinned program and in every row, IS THE sha256 OF THE DUMP (.gsa) THAT YtkkmaakgacnfoabProg.lean LOADS. Nothing in Lean hashes anything: it is a label: what it is worth is what the hold of that sum in a sandbox is worth. -/
noncomputable def Try.pinned : Pinned := { name := "ytkkmaakgacnfoab", sum := "4dee6df2d63dc8c19a386d823b48e2d4d67b78f8feb50933a77459b68491d2e8", checked := Try.checked }
namespace Rows
def none {H : Type} : Left H := { results := [], args := [] }

/-- 'quarrylaw05.Utf8Back': WHATEVER THE INPUT: true; the input reads as it did. -/
def utf8BackSpec : ChangeSpec := { name := "utf8Back", fn := fun _ => fun
  | [d] => { results := [.lit (.bool true)], args := [d] }
  | _ => none }
def utf8BackRow : OpenClaim := { program := "ytkkmaakgacnfoab", sum := "4dee6df2d63dc8c19a386d823b48e2d4d67b78f8feb50933a77459b68491d2e8", func := "quarry/quarrylaw05.Utf8Back", spec := "utf8Back", unfollowed := true, recurses := true, apart := false }
def Utf8BackSaid : Prop := utf8BackRow.holds Try.pinned (OpenSpec.ofChange utf8BackSpec)

/-- ITS FALSE NEIGHBOUR: 'it returns false'. Refute it at one input. -/
def utf8BackWrong : ChangeSpec := { name := "utf8Back", fn := fun _ => fun
  | [d] => { results := [.lit (.bool false)], args := [d] }
  | _ => none }
def Utf8BackWrongFalsely : Prop := utf8BackRow.holds Try.pinned (OpenSpec.ofChange utf8BackWrong)

/-- 'quarrylaw05.Utf8Pieces': WHATEVER THE INPUT: true; the input reads as it did. -/
def utf8PiecesSpec : ChangeSpec := { name := "utf8Pieces", fn := fun _ => fun
  | [d] => { results := [.lit (.bool true)], args := [d] }
  | _ => none }
def utf8PiecesRow : OpenClaim := { program := "ytkkmaakgacnfoab", sum := "4dee6df2d63dc8c19a386d823b48e2d4d67b78f8feb50933a77459b68491d2e8", func := "quarry/quarrylaw05.Utf8Pieces", spec := "utf8Pieces", apart := false }
def Utf8PiecesSaid : Prop := utf8PiecesRow.holds Try.pinned (OpenSpec.ofChange utf8PiecesSpec)

/-- ITS FALSE NEIGHBOUR: 'it returns false'. Refute it at one input. -/
def utf8PiecesWrong : ChangeSpec := { name := "utf8Pieces", fn := fun _ => fun
  | [d] => { results := [.lit (.bool false)], args := [d] }
  | _ => none }
def Utf8PiecesWrongFalsely : Prop := utf8PiecesRow.holds Try.pinned (OpenSpec.ofChange utf8PiecesWrong)

/-- 'quarrylaw05.Utf8Farthest': WHATEVER THE INPUT: true; the input reads as it did. -/
def utf8FarthestSpec : ChangeSpec := { name := "utf8Farthest", fn := fun _ => fun
  | [d] => { results := [.lit (.bool true)], args := [d] }
  | _ => none }
def utf8FarthestRow : OpenClaim := { program := "ytkkmaakgacnfoab", sum := "4dee6df2d63dc8c19a386d823b48e2d4d67b78f8feb50933a77459b68491d2e8", func := "quarry/quarrylaw05.Utf8Farthest", spec := "utf8Farthest", apart := false }
def Utf8FarthestSaid : Prop := utf8FarthestRow.holds Try.pinned (OpenSpec.ofChange utf8FarthestSpec)

/-- ITS FALSE NEIGHBOUR: 'it returns false'. Refute it at one input. -/
def utf8FarthestWrong : ChangeSpec := { name := "utf8Farthest", fn := fun _ => fun
  | [d] => { results := [.lit (.bool false)], args := [d] }
  | _ => none }
def Utf8FarthestWrongFalsely : Prop := utf8FarthestRow.holds Try.pinned (OpenSpec.ofChange utf8FarthestWrong)

/- THE SECOND FORM. 'bulk': how many values and letters a reading holds, each counted each time it is reached (what is shared counts as often as it is met; a slice's spare places count too). A statement '..UptoSaid' is the law's where the arguments, and the package variables that the reading takes, are together of bulk at most 1048576: NARROWER than '..Said'. Prove '..Said' where nothing that the law and all that it calls make is longer than what came in: it says more and counts as full. Else prove '..UptoSaid'. A law counts once. -/
mutual
def uptoBulk {H : Type} : DataW H → Nat
  | .lit (.string bytes) => bytes.length + 1
  | .lit _ => 1
  | .nil => 1
  | .ptr d => uptoBulk d + 1
  | .slice elems spare => uptoBulkAll elems + uptoBulkAll spare + 1
  | .agg parts => uptoBulkAll parts + 1
  | .iface _ d => uptoBulk d + 1
  | .map entries => uptoBulkEntries entries + 1
  | .held _ => 1
def uptoBulkAll {H : Type} : List (DataW H) → Nat
  | [] => 0
  | d :: r => uptoBulk d + uptoBulkAll r
def uptoBulkEntries {H : Type} : List (Lit × DataW H) → Nat
  | [] => 0
  | x :: r => uptoBulkEntry x + uptoBulkEntries r
def uptoBulkEntry {H : Type} : Lit × DataW H → Nat
  | (.string bytes, d) => bytes.length + uptoBulk d + 1
  | (_, d) => uptoBulk d + 1
 end
def uptoSmall : (H : Type) → List (DataW H) → Bool := fun _ ds => decide (uptoBulkAll ds ≤ 1048576)
def OpenSpec.upto (s : _root_.Go.ChangeSpec) : _root_.Go.OpenSpec := { _root_.Go.OpenSpec.ofChange s with cond := some uptoSmall }

/-- 'quarrylaw05.Utf8Back', WHERE WHAT IT READS IS OF BULK AT MOST 1048576: true; the input reads as it did. -/
def utf8BackUptoRow : OpenClaim := { program := "ytkkmaakgacnfoab", sum := "4dee6df2d63dc8c19a386d823b48e2d4d67b78f8feb50933a77459b68491d2e8", func := "quarry/quarrylaw05.Utf8Back", spec := "utf8Back", unfollowed := true, recurses := true, apart := false, narrowed := true }
def Utf8BackUptoSaid : Prop := utf8BackUptoRow.holds Try.pinned (OpenSpec.upto utf8BackSpec)

/-- 'quarrylaw05.Utf8Pieces', WHERE WHAT IT READS IS OF BULK AT MOST 1048576: true; the input reads as it did. -/
def utf8PiecesUptoRow : OpenClaim := { program := "ytkkmaakgacnfoab", sum := "4dee6df2d63dc8c19a386d823b48e2d4d67b78f8feb50933a77459b68491d2e8", func := "quarry/quarrylaw05.Utf8Pieces", spec := "utf8Pieces", apart := false, narrowed := true }
def Utf8PiecesUptoSaid : Prop := utf8PiecesUptoRow.holds Try.pinned (OpenSpec.upto utf8PiecesSpec)

/-- 'quarrylaw05.Utf8Farthest', WHERE WHAT IT READS IS OF BULK AT MOST 1048576: true; the input reads as it did. -/
def utf8FarthestUptoRow : OpenClaim := { program := "ytkkmaakgacnfoab", sum := "4dee6df2d63dc8c19a386d823b48e2d4d67b78f8feb50933a77459b68491d2e8", func := "quarry/quarrylaw05.Utf8Farthest", spec := "utf8Farthest", apart := false, narrowed := true }
def Utf8FarthestUptoSaid : Prop := utf8FarthestUptoRow.holds Try.pinned (OpenSpec.upto utf8FarthestSpec)

end Rows
end Go.Proofs.Ytkkmaakgacnfoab
