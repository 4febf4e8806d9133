/-
  No cell of these rows narrows 'for every input' (looked for: loops, veiled, ifaces, maps, wideKeys, modest, calm, conditions, laid).
  DERIVED. THE GIVEN ROWS OF THIS SEAT. 6 by the template 'for every input the law returns true; each argument reads behind the call as it read before'; 0 by the template 'total and deterministic' (their statements: YtlcihopklnnhdaaTotals.lean).
  GIVEN WITH THE SEED: the statements are not yours to turn. If you find one false, say at which input.
  Laid BY PROGRAM, IN A SANDBOX (cutbox-rows.mjs): the forced cells as the released guide's own fill.sh prints them over the translation 5b9acc79a4f1152e… (all of the seat's roots in one cut). By AI agents, Wed Nov 11 2026. No macro, syntax, notation, axiom, sorry.
-/
import Derived.Test.YtlcihopklnnhdaaChecked
import GoSem.Claim
import GoSem.ClaimJoined
import GoSem.ClaimMapViews
import Derived.JoinedTies
import Derived.KernelRfl
namespace Go.Proofs.Ytlcihopklnnhdaa
/- THE CELL 'sum', in the pinned program and in every row, IS THE sha256 OF THE DUMP (.gsa) THAT YtlcihopklnnhdaaProg.lean LOADS. Nothing in Lean hashes anything: it is a label: what it is worth is what the hold of that sum in a sandbox is worth. -/
noncomputable def Try.pinned : Pinned := { name := "ytlcihopklnnhdaa", sum := "5b9acc79a4f1152eab6e1983ee49fe563c689f1ec4ded38bbdf3985cd53f9812", checked := Try.checked }
namespace Rows
def none {H : Type} : Left H := { results := [], args := [] }

/-- 'quarrylaw15.TextsMeans': WHATEVER THE INPUT: true; the input reads as it did. -/
def textsMeansSpec : ChangeSpec := { name := "textsMeans", fn := fun _ => fun
  | [d] => { results := [.lit (.bool true)], args := [d] }
  | _ => none }
def textsMeansRow : OpenClaim := { program := "ytlcihopklnnhdaa", sum := "5b9acc79a4f1152eab6e1983ee49fe563c689f1ec4ded38bbdf3985cd53f9812", func := "quarry/quarrylaw15.TextsMeans", spec := "textsMeans", inPlace := ["internal/abi.NoEscape"], apart := false }
def TextsMeansSaid : Prop := textsMeansRow.holds Try.pinned (OpenSpec.ofChange textsMeansSpec)

/-- ITS FALSE NEIGHBOUR: 'it returns false'. Refute it at one input. -/
def textsMeansWrong : ChangeSpec := { name := "textsMeans", fn := fun _ => fun
  | [d] => { results := [.lit (.bool false)], args := [d] }
  | _ => none }
def TextsMeansWrongFalsely : Prop := textsMeansRow.holds Try.pinned (OpenSpec.ofChange textsMeansWrong)

/-- 'quarrylaw15.TextsWrites': WHATEVER THE INPUT: true; the input reads as it did. -/
def textsWritesSpec : ChangeSpec := { name := "textsWrites", fn := fun _ => fun
  | [d] => { results := [.lit (.bool true)], args := [d] }
  | _ => none }
def textsWritesRow : OpenClaim := { program := "ytlcihopklnnhdaa", sum := "5b9acc79a4f1152eab6e1983ee49fe563c689f1ec4ded38bbdf3985cd53f9812", func := "quarry/quarrylaw15.TextsWrites", spec := "textsWrites", inPlace := ["internal/abi.NoEscape"], apart := false }
def TextsWritesSaid : Prop := textsWritesRow.holds Try.pinned (OpenSpec.ofChange textsWritesSpec)

/-- ITS FALSE NEIGHBOUR: 'it returns false'. Refute it at one input. -/
def textsWritesWrong : ChangeSpec := { name := "textsWrites", fn := fun _ => fun
  | [d] => { results := [.lit (.bool false)], args := [d] }
  | _ => none }
def TextsWritesWrongFalsely : Prop := textsWritesRow.holds Try.pinned (OpenSpec.ofChange textsWritesWrong)

/-- 'quarrylaw15.TextsSames': WHATEVER THE INPUT: true; the input reads as it did. -/
def textsSamesSpec : ChangeSpec := { name := "textsSames", fn := fun _ => fun
  | [d1, d2] => { results := [.lit (.bool true)], args := [d1, d2] }
  | _ => none }
def textsSamesRow : OpenClaim := { program := "ytlcihopklnnhdaa", sum := "5b9acc79a4f1152eab6e1983ee49fe563c689f1ec4ded38bbdf3985cd53f9812", func := "quarry/quarrylaw15.TextsSames", spec := "textsSames", inPlace := ["internal/abi.NoEscape"], apart := false }
def TextsSamesSaid : Prop := textsSamesRow.holds Try.pinned (OpenSpec.ofChange textsSamesSpec)

/-- ITS FALSE NEIGHBOUR: 'it returns false'. Refute it at one input. -/
def textsSamesWrong : ChangeSpec := { name := "textsSames", fn := fun _ => fun
  | [d1, d2] => { results := [.lit (.bool false)], args := [d1, d2] }
  | _ => none }
def TextsSamesWrongFalsely : Prop := textsSamesRow.holds Try.pinned (OpenSpec.ofChange textsSamesWrong)

/-- 'quarrylaw15.TextsEnds': WHATEVER THE INPUT: true; the input reads as it did. -/
def textsEndsSpec : ChangeSpec := { name := "textsEnds", fn := fun _ => fun
  | [d1, d2] => { results := [.lit (.bool true)], args := [d1, d2] }
  | _ => none }
def textsEndsRow : OpenClaim := { program := "ytlcihopklnnhdaa", sum := "5b9acc79a4f1152eab6e1983ee49fe563c689f1ec4ded38bbdf3985cd53f9812", func := "quarry/quarrylaw15.TextsEnds", spec := "textsEnds", apart := false }
def TextsEndsSaid : Prop := textsEndsRow.holds Try.pinned (OpenSpec.ofChange textsEndsSpec)

/-- ITS FALSE NEIGHBOUR: 'it returns false'. Refute it at one input. -/
def textsEndsWrong : ChangeSpec := { name := "textsEnds", fn := fun _ => fun
  | [d1, d2] => { results := [.lit (.bool false)], args := [d1, d2] }
  | _ => none }
def TextsEndsWrongFalsely : Prop := textsEndsRow.holds Try.pinned (OpenSpec.ofChange textsEndsWrong)

/-- 'quarrylaw15.TextsBack': WHATEVER THE INPUT: true; the input reads as it did. -/
def textsBackSpec : ChangeSpec := { name := "textsBack", fn := fun _ => fun
  | [d1, d2] => { results := [.lit (.bool true)], args := [d1, d2] }
  | _ => none }
def textsBackRow : OpenClaim := { program := "ytlcihopklnnhdaa", sum := "5b9acc79a4f1152eab6e1983ee49fe563c689f1ec4ded38bbdf3985cd53f9812", func := "quarry/quarrylaw15.TextsBack", spec := "textsBack", inPlace := ["internal/abi.NoEscape"], apart := false }
def TextsBackSaid : Prop := textsBackRow.holds Try.pinned (OpenSpec.ofChange textsBackSpec)

/-- ITS FALSE NEIGHBOUR: 'it returns false'. Refute it at one input. -/
def textsBackWrong : ChangeSpec := { name := "textsBack", fn := fun _ => fun
  | [d1, d2] => { results := [.lit (.bool false)], args := [d1, d2] }
  | _ => none }
def TextsBackWrongFalsely : Prop := textsBackRow.holds Try.pinned (OpenSpec.ofChange textsBackWrong)

/-- 'quarrylaw15.TextsSpells': WHATEVER THE INPUT: true; the input reads as it did. -/
def textsSpellsSpec : ChangeSpec := { name := "textsSpells", fn := fun _ => fun
  | [d1, d2] => { results := [.lit (.bool true)], args := [d1, d2] }
  | _ => none }
def textsSpellsRow : OpenClaim := { program := "ytlcihopklnnhdaa", sum := "5b9acc79a4f1152eab6e1983ee49fe563c689f1ec4ded38bbdf3985cd53f9812", func := "quarry/quarrylaw15.TextsSpells", spec := "textsSpells", inPlace := ["internal/abi.NoEscape"], unfollowed := true, recurses := true, apart := false }
def TextsSpellsSaid : Prop := textsSpellsRow.holds Try.pinned (OpenSpec.ofChange textsSpellsSpec)

/-- ITS FALSE NEIGHBOUR: 'it returns false'. Refute it at one input. -/
def textsSpellsWrong : ChangeSpec := { name := "textsSpells", fn := fun _ => fun
  | [d1, d2] => { results := [.lit (.bool false)], args := [d1, d2] }
  | _ => none }
def TextsSpellsWrongFalsely : Prop := textsSpellsRow.holds Try.pinned (OpenSpec.ofChange textsSpellsWrong)

/- THE SECOND FORM. 'bulk': how many values and letters a reading holds, each counted each time it is reached (what is shared counts as often as it is met; a slice's spare places count too). A statement '..UptoSaid' is the law's where the arguments, and the package variables that the reading takes, are together of bulk at most 1048576: NARROWER than '..Said'. Prove '..Said' where nothing that the law and all that it calls make is longer than what came in: it says more and counts as full. Else prove '..UptoSaid'. A law counts once. -/
mutual
def uptoBulk {H : Type} : DataW H → Nat
  | .lit (.string bytes) => bytes.length + 1
  | .lit _ => 1
  | .nil => 1
  | .ptr d => uptoBulk d + 1
  | .slice elems spare => uptoBulkAll elems + uptoBulkAll spare + 1
  | .agg parts => uptoBulkAll parts + 1
  | .iface _ d => uptoBulk d + 1
  | .map entries => uptoBulkEntries entries + 1
  | .held _ => 1
def uptoBulkAll {H : Type} : List (DataW H) → Nat
  | [] => 0
  | d :: r => uptoBulk d + uptoBulkAll r
def uptoBulkEntries {H : Type} : List (Lit × DataW H) → Nat
  | [] => 0
  | x :: r => uptoBulkEntry x + uptoBulkEntries r
def uptoBulkEntry {H : Type} : Lit × DataW H → Nat
  | (.string bytes, d) => bytes.length + uptoBulk d + 1
  | (_, d) => uptoBulk d + 1
 end
def uptoSmall : (H : Type) → List (DataW H) → Bool := fun _ ds => decide (uptoBulkAll ds ≤ 1048576)
def OpenSpec.upto (s : _root_.Go.ChangeSpec) : _root_.Go.OpenSpec := { _root_.Go.OpenSpec.ofChange s with cond := some uptoSmall }

/-- 'quarrylaw15.TextsMeans', WHERE WHAT IT READS IS OF BULK AT MOST 1048576: true; the input reads as it did. -/
def textsMeansUptoRow : OpenClaim := { program := "ytlcihopklnnhdaa", sum := "5b9acc79a4f1152eab6e1983ee49fe563c689f1ec4ded38bbdf3985cd53f9812", func := "quarry/quarrylaw15.TextsMeans", spec := "textsMeans", inPlace := ["internal/abi.NoEscape"], apart := false, narrowed := true }
def TextsMeansUptoSaid : Prop := textsMeansUptoRow.holds Try.pinned (OpenSpec.upto textsMeansSpec)

/-- 'quarrylaw15.TextsWrites', WHERE WHAT IT READS IS OF BULK AT MOST 1048576: true; the input reads as it did. -/
def textsWritesUptoRow : OpenClaim := { program := "ytlcihopklnnhdaa", sum := "5b9acc79a4f1152eab6e1983ee49fe563c689f1ec4ded38bbdf3985cd53f9812", func := "quarry/quarrylaw15.TextsWrites", spec := "textsWrites", inPlace := ["internal/abi.NoEscape"], apart := false, narrowed := true }
def TextsWritesUptoSaid : Prop := textsWritesUptoRow.holds Try.pinned (OpenSpec.upto textsWritesSpec)

/-- 'quarrylaw15.TextsSames', WHERE WHAT IT READS IS OF BULK AT MOST 1048576: true; the input reads as it did. -/
def textsSamesUptoRow : OpenClaim := { program := "ytlcihopklnnhdaa", sum := "5b9acc79a4f1152eab6e1983ee49fe563c689f1ec4ded38bbdf3985cd53f9812", func := "quarry/quarrylaw15.TextsSames", spec := "textsSames", inPlace := ["internal/abi.NoEscape"], apart := false, narrowed := true }
def TextsSamesUptoSaid : Prop := textsSamesUptoRow.holds Try.pinned (OpenSpec.upto textsSamesSpec)

/-- 'quarrylaw15.TextsEnds', WHERE WHAT IT READS IS OF BULK AT MOST 1048576: true; the input reads as it did. -/
def textsEndsUptoRow : OpenClaim := { program := "ytlcihopklnnhdaa", sum := "5b9acc79a4f1152eab6e1983ee49fe563c689f1ec4ded38bbdf3985cd53f9812", func := "quarry/quarrylaw15.TextsEnds", spec := "textsEnds", apart := false, narrowed := true }
def TextsEndsUptoSaid : Prop := textsEndsUptoRow.holds Try.pinned (OpenSpec.upto textsEndsSpec)

/-- 'quarrylaw15.TextsBack', WHERE WHAT IT READS IS OF BULK AT MOST 1048576: true; the input reads as it did. -/
def textsBackUptoRow : OpenClaim := { program := "ytlcihopklnnhdaa", sum := "5b9acc79a4f1152eab6e1983ee49fe563c689f1ec4ded38bbdf3985cd53f9812", func := "quarry/quarrylaw15.TextsBack", spec := "textsBack", inPlace := ["internal/abi.NoEscape"], apart := false, narrowed := true }
def TextsBackUptoSaid : Prop := textsBackUptoRow.holds Try.pinned (OpenSpec.upto textsBackSpec)

/-- 'quarrylaw15.TextsSpells', WHERE WHAT IT READS IS OF BULK AT MOST 1048576: true; the input reads as it did. -/
def textsSpellsUptoRow : OpenClaim := { program := "ytlcihopklnnhdaa", sum := "5b9acc79a4f1152eab6e1983ee49fe563c689f1ec4ded38bbdf3985cd53f9812", func := "quarry/quarrylaw15.TextsSpells", spec := "textsSpells", inPlace := ["internal/abi.NoEscape"], unfollowed := true, recurses := true, apart := false, narrowed := true }
def TextsSpellsUptoSaid : Prop := textsSpellsUptoRow.holds Try.pinned (OpenSpec.upto textsSpellsSpec)

end Rows
end Go.Proofs.Ytlcihopklnnhdaa
