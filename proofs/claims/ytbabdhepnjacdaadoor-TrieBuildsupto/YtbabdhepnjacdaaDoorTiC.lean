/-
 trie.apart: steps as the keys of a map.
-/
import Derived.Test.YtbabdhepnjacdaaDoorTiB
import Derived.Maps.OwnSet
import Derived.DeepKeys4
namespace Go.Proofs.YtbabdhepnjacdaaDoor
open Go.RowKit Go.Shelf Go.Maps Go.ChangeMaps Go.WideShapes Go.WideMaps
/-- A step that can be a key. -/
def stpK (s : Stp) : Prop := s.name.size ≤ capT ∧ i64B s.kind ∧ i64B s.place
def keyT (s : Stp) : Lit := .string (keyBytes [.int .i64 s.kind, .string s.name.data.toList, .int .i64 s.place])
/-- A set of steps in memory. -/
def SetP (w : World) (B n : Nat) (p : Stp → Prop) : Prop := ∃ D : DataW Unit, w.ownsMap Tryd.prog 53 unitElem B n D ∧ Tidy D ∧ ∀ s, stpK s → (Maps.has D (keyT s) = true ↔ p s)
theorem SetP.lt {w : World} {B n : Nat} {p : Stp → Prop} (h : SetP w B n p) : B < w.heap.size := by
 obtain ⟨D, h, _⟩ := h
 exact h.lt
theorem SetP.kept {w w' : World} {B n : Nat} {p : Stp → Prop} (h : SetP w B n p) (hb : Below w.heap.size w w') : SetP w' B n p := by
 have hl := h.lt
 obtain ⟨D, ⟨es, clock, h1, h2⟩, h3⟩ := h
 exact ⟨D, ⟨es, clock, (hb.block B hl).trans h1, h2⟩, h3⟩
end Go.Proofs.YtbabdhepnjacdaaDoor
