/-
 A text as numbers, and numbers as a text.
-/
import Derived.Below
namespace Go.Proofs.YtgpagaielnemmaaDoor
/-- The bytes of a text. -/
def byts (s : ByteArray) : List Nat := s.data.toList.map UInt8.toNat
theorem byts_length (s : ByteArray) : (byts s).length = s.size := by
 unfold byts
 rw [List.length_map, Array.length_toList]
 rfl
/-- The byte number i of a text. -/
def byt (s : ByteArray) (i : Nat) : Nat := (s.data.toList.getD i 0).toNat
theorem byts_get (s : ByteArray) (i : Nat) (h : i < s.size) : (byts s)[i]? = some (byt s i) := by
 have h' : i < s.data.toList.length := by rw [Array.length_toList]; exact h
 unfold byts byt
 rw [List.getElem?_map, List.getD_eq_getElem?_getD, List.getElem?_eq_getElem h']
 rfl
theorem byts_take (s : ByteArray) (i : Nat) (h : i < s.size) : (byts s).take (i + 1) = (byts s).take i ++ [byt s i] := by
 rw [List.take_add_one, byts_get s i h]
 rfl
theorem byts_drop (s : ByteArray) (i : Nat) (h : i < s.size) : (byts s).drop i = byt s i :: (byts s).drop (i + 1) := by
 have h1 := byts_get s i h
 have hl : i < (byts s).length := by rw [byts_length]; exact h
 rw [List.getElem?_eq_getElem hl] at h1
 rw [List.drop_eq_getElem_cons hl]
 rw [Option.some.inj h1]
theorem byts_whole (s : ByteArray) : (byts s).take s.size = byts s := List.take_of_length_le (by rw [byts_length]; exact Nat.le_refl _)
end Go.Proofs.YtgpagaielnemmaaDoor
