/-
 What the reference's Unescape answers.
-/
import Derived.Test.YtbabdhepnjacdaaDoorTxMath
import Derived.Test.YtbabdhepnjacdaaDoorPack1
import Derived.Test.YtbabdhepnjacdaaDoorPack3
namespace Go.Proofs.YtbabdhepnjacdaaDoor
open Go.RowKit Go.Shelf
theorem rowT_kept {w w' : World} {B n : Nat} {v : Value} {xs : List Value} (h : w.ownsRow B 5 1 v n xs) (hb : Below w.heap.size w w') : w'.ownsRow B 5 1 v n xs :=
 h.kept (grown_of_below hb) (by cases h : v.ownBlock <;> simp)
/-- What holds between two pieces. -/
def UnR (s r : ByteArray) (o : List Nat) : Prop := unescL (byts s) = (unescL (byts r)).map (o ++ ·) ∧ (∀ x ∈ o, x < 256) ∧ o.length + r.size ≤ s.size
theorem UnR.step {s r r' : ByteArray} {o o2 : List Nat} {k : Nat} (h : UnR s r o) (hr : 0 < r.size) (hs : stepL (byts r) = some (k, o2)) (hr' : byts r' = (byts r).drop k) : UnR s r' (o ++ o2) ∧ r'.size < r.size := by
 obtain ⟨h1, h2, h3⟩ := h
 have hne : byts r ≠ [] := fun e => by
  have := byts_length r
  rw [e] at this
  simp at this
  omega
 obtain ⟨k1, k2, k3, k4⟩ := stepL_some hne (byts_lt r) hs
 have hl : r'.size = r.size - k := by rw [← byts_length, hr', List.length_drop, byts_length]
 rw [byts_length] at k2
 refine ⟨⟨?_, ?_, ?_⟩, by omega⟩
 ·rw [h1, unescL_some hne (byts_lt r) hs, hr', Option.map_map]
  congr 1
  funext x
  simp
 ·intro x hx
  rcases List.mem_append.1 hx with hx | hx
  ·exact h2 x hx
  ·exact k4 x hx
 ·rw [List.length_append]
  omega
end Go.Proofs.YtbabdhepnjacdaaDoor
