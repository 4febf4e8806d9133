/-
  No cell of these rows narrows 'for every input' (looked for: loops, veiled, ifaces, maps, wideKeys, modest, calm, conditions, laid).
  DERIVED. THE GIVEN ROWS OF THIS SEAT. 3 by the template 'for every input the law returns true; each argument reads behind the call as it read before'; 0 by the template 'total and deterministic' (their statements: YtdkcgfcmmdkmpaaTotals.lean).
  GIVEN WITH THE SEED: the statements are not yours to turn. If you find one false, say at which input.
  Laid BY PROGRAM, IN A SANDBOX (cutbox-rows.mjs): the forced cells as the released guide's own fill.sh prints them over the translation 629dd5957c98f238… (all of the seat's roots in one cut). By AI agents, Wed Nov 11 2026. No macro, syntax, notation, axiom, sorry.
-/
import Derived.Test.YtdkcgfcmmdkmpaaChecked
import GoSem.Claim
import GoSem.ClaimJoined
import GoSem.ClaimMapViews
import Derived.JoinedTies
import Derived.KernelRfl
namespace Go.Proofs.Ytdkcgfcmmdkmpaa
/- THE CELL 'sum', in the pinned program and in every row, IS THE sha256 OF THE DUMP (.gsa) THAT YtdkcgfcmmdkmpaaProg.lean LOADS. Nothing in Lean hashes anything: it is a label: what it is worth is what the hold of that sum in a sandbox is worth. -/
noncomputable def Try.pinned : Pinned := { name := "ytdkcgfcmmdkmpaa", sum := "629dd5957c98f238c3aed5a86d761b9b89d0db9f0c200750aa9ca01d3271f3c6", checked := Try.checked }
namespace Rows
def none {H : Type} : Left H := { results := [], args := [] }

/-- 'quarrylaw20.PointerPlaces': WHATEVER THE INPUT: true; the input reads as it did. -/
def pointerPlacesSpec : ChangeSpec := { name := "pointerPlaces", fn := fun _ => fun
  | [d] => { results := [.lit (.bool true)], args := [d] }
  | _ => none }
def pointerPlacesRow : OpenClaim := { program := "ytdkcgfcmmdkmpaa", sum := "629dd5957c98f238c3aed5a86d761b9b89d0db9f0c200750aa9ca01d3271f3c6", func := "quarry/quarrylaw20.PointerPlaces", spec := "pointerPlaces", apart := false }
def PointerPlacesSaid : Prop := pointerPlacesRow.holds Try.pinned (OpenSpec.ofChange pointerPlacesSpec)

/-- ITS FALSE NEIGHBOUR: 'it returns false'. Refute it at one input. -/
def pointerPlacesWrong : ChangeSpec := { name := "pointerPlaces", fn := fun _ => fun
  | [d] => { results := [.lit (.bool false)], args := [d] }
  | _ => none }
def PointerPlacesWrongFalsely : Prop := pointerPlacesRow.holds Try.pinned (OpenSpec.ofChange pointerPlacesWrong)

/-- 'quarrylaw20.PointerParses': WHATEVER THE INPUT: true; the input reads as it did. -/
def pointerParsesSpec : ChangeSpec := { name := "pointerParses", fn := fun _ => fun
  | [d] => { results := [.lit (.bool true)], args := [d] }
  | _ => none }
def pointerParsesRow : OpenClaim := { program := "ytdkcgfcmmdkmpaa", sum := "629dd5957c98f238c3aed5a86d761b9b89d0db9f0c200750aa9ca01d3271f3c6", func := "quarry/quarrylaw20.PointerParses", spec := "pointerParses", inPlace := ["internal/bytealg.IndexByteString", "internal/bytealg.IndexString", "internal/abi.NoEscape"], named := ["internal/bytealg.MaxLen"], apart := false }
def PointerParsesSaid : Prop := pointerParsesRow.holds Try.pinned (OpenSpec.ofChange pointerParsesSpec)

/-- ITS FALSE NEIGHBOUR: 'it returns false'. Refute it at one input. -/
def pointerParsesWrong : ChangeSpec := { name := "pointerParses", fn := fun _ => fun
  | [d] => { results := [.lit (.bool false)], args := [d] }
  | _ => none }
def PointerParsesWrongFalsely : Prop := pointerParsesRow.holds Try.pinned (OpenSpec.ofChange pointerParsesWrong)

/-- 'quarrylaw20.PointerWithin': WHATEVER THE INPUT: true; the input reads as it did. -/
def pointerWithinSpec : ChangeSpec := { name := "pointerWithin", fn := fun _ => fun
  | [d1, d2] => { results := [.lit (.bool true)], args := [d1, d2] }
  | _ => none }
def pointerWithinRow : OpenClaim := { program := "ytdkcgfcmmdkmpaa", sum := "629dd5957c98f238c3aed5a86d761b9b89d0db9f0c200750aa9ca01d3271f3c6", func := "quarry/quarrylaw20.PointerWithin", spec := "pointerWithin", inPlace := ["internal/bytealg.IndexByteString", "internal/bytealg.IndexString", "internal/abi.NoEscape"], named := ["internal/bytealg.MaxLen"], apart := false }
def PointerWithinSaid : Prop := pointerWithinRow.holds Try.pinned (OpenSpec.ofChange pointerWithinSpec)

/-- ITS FALSE NEIGHBOUR: 'it returns false'. Refute it at one input. -/
def pointerWithinWrong : ChangeSpec := { name := "pointerWithin", fn := fun _ => fun
  | [d1, d2] => { results := [.lit (.bool false)], args := [d1, d2] }
  | _ => none }
def PointerWithinWrongFalsely : Prop := pointerWithinRow.holds Try.pinned (OpenSpec.ofChange pointerWithinWrong)

/- THE SECOND FORM. 'bulk': how many values and letters a reading holds, each counted each time it is reached (what is shared counts as often as it is met; a slice's spare places count too). A statement '..UptoSaid' is the law's where the arguments, and the package variables that the reading takes, are together of bulk at most 1048576: NARROWER than '..Said'. Prove '..Said' where nothing that the law and all that it calls make is longer than what came in: it says more and counts as full. Else prove '..UptoSaid'. A law counts once. -/
mutual
def uptoBulk {H : Type} : DataW H → Nat
  | .lit (.string bytes) => bytes.length + 1
  | .lit _ => 1
  | .nil => 1
  | .ptr d => uptoBulk d + 1
  | .slice elems spare => uptoBulkAll elems + uptoBulkAll spare + 1
  | .agg parts => uptoBulkAll parts + 1
  | .iface _ d => uptoBulk d + 1
  | .map entries => uptoBulkEntries entries + 1
  | .held _ => 1
def uptoBulkAll {H : Type} : List (DataW H) → Nat
  | [] => 0
  | d :: r => uptoBulk d + uptoBulkAll r
def uptoBulkEntries {H : Type} : List (Lit × DataW H) → Nat
  | [] => 0
  | x :: r => uptoBulkEntry x + uptoBulkEntries r
def uptoBulkEntry {H : Type} : Lit × DataW H → Nat
  | (.string bytes, d) => bytes.length + uptoBulk d + 1
  | (_, d) => uptoBulk d + 1
 end
def uptoSmall : (H : Type) → List (DataW H) → Bool := fun _ ds => decide (uptoBulkAll ds ≤ 1048576)
def OpenSpec.upto (s : _root_.Go.ChangeSpec) : _root_.Go.OpenSpec := { _root_.Go.OpenSpec.ofChange s with cond := some uptoSmall }

/-- 'quarrylaw20.PointerPlaces', WHERE WHAT IT READS IS OF BULK AT MOST 1048576: true; the input reads as it did. -/
def pointerPlacesUptoRow : OpenClaim := { program := "ytdkcgfcmmdkmpaa", sum := "629dd5957c98f238c3aed5a86d761b9b89d0db9f0c200750aa9ca01d3271f3c6", func := "quarry/quarrylaw20.PointerPlaces", spec := "pointerPlaces", apart := false, narrowed := true }
def PointerPlacesUptoSaid : Prop := pointerPlacesUptoRow.holds Try.pinned (OpenSpec.upto pointerPlacesSpec)

/-- 'quarrylaw20.PointerParses', WHERE WHAT IT READS IS OF BULK AT MOST 1048576: true; the input reads as it did. -/
def pointerParsesUptoRow : OpenClaim := { program := "ytdkcgfcmmdkmpaa", sum := "629dd5957c98f238c3aed5a86d761b9b89d0db9f0c200750aa9ca01d3271f3c6", func := "quarry/quarrylaw20.PointerParses", spec := "pointerParses", inPlace := ["internal/bytealg.IndexByteString", "internal/bytealg.IndexString", "internal/abi.NoEscape"], named := ["internal/bytealg.MaxLen"], apart := false, narrowed := true }
def PointerParsesUptoSaid : Prop := pointerParsesUptoRow.holds Try.pinned (OpenSpec.upto pointerParsesSpec)

/-- 'quarrylaw20.PointerWithin', WHERE WHAT IT READS IS OF BULK AT MOST 1048576: true; the input reads as it did. -/
def pointerWithinUptoRow : OpenClaim := { program := "ytdkcgfcmmdkmpaa", sum := "629dd5957c98f238c3aed5a86d761b9b89d0db9f0c200750aa9ca01d3271f3c6", func := "quarry/quarrylaw20.PointerWithin", spec := "pointerWithin", inPlace := ["internal/bytealg.IndexByteString", "internal/bytealg.IndexString", "internal/abi.NoEscape"], named := ["internal/bytealg.MaxLen"], apart := false, narrowed := true }
def PointerWithinUptoSaid : Prop := pointerWithinUptoRow.holds Try.pinned (OpenSpec.upto pointerWithinSpec)

end Rows
end Go.Proofs.Ytdkcgfcmmdkmpaa
