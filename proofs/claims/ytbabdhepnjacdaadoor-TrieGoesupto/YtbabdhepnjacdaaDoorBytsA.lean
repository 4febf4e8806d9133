/-
 A text as numbers, and numbers as a text.
-/
import Derived.Below
namespace Go.Proofs.YtbabdhepnjacdaaDoor
/-- The bytes of a text. -/
def byts (s : ByteArray) : List Nat := s.data.toList.map UInt8.toNat
theorem byts_length (s : ByteArray) : (byts s).length = s.size := by
 unfold byts
 rw [List.length_map, Array.length_toList]
 rfl
theorem byts_append (a b : ByteArray) : byts (a ++ b) = byts a ++ byts b := by
 unfold byts
 rw [ByteArray.data_append, Array.toList_append, List.map_append]
/-- The byte number i of a text. -/
def byt (s : ByteArray) (i : Nat) : Nat := (s.data.toList.getD i 0).toNat
theorem byts_get (s : ByteArray) (i : Nat) (h : i < s.size) : (byts s)[i]? = some (byt s i) := by
 have h' : i < s.data.toList.length := by rw [Array.length_toList]; exact h
 unfold byts byt
 rw [List.getElem?_map, List.getD_eq_getElem?_getD, List.getElem?_eq_getElem h']
 rfl
theorem byts_take (s : ByteArray) (i : Nat) (h : i < s.size) : (byts s).take (i + 1) = (byts s).take i ++ [byt s i] := by
 rw [List.take_add_one, byts_get s i h]
 rfl
theorem byts_drop (s : ByteArray) (i : Nat) (h : i < s.size) : (byts s).drop i = byt s i :: (byts s).drop (i + 1) := by
 have h1 := byts_get s i h
 have hl : i < (byts s).length := by rw [byts_length]; exact h
 rw [List.getElem?_eq_getElem hl] at h1
 rw [List.drop_eq_getElem_cons hl]
 rw [Option.some.inj h1]
theorem byts_whole (s : ByteArray) : (byts s).take s.size = byts s := List.take_of_length_le (by rw [byts_length]; exact Nat.le_refl _)
theorem byts_extract (s : ByteArray) (a b : Nat) : byts (s.extract a b) = ((byts s).drop a).take (b - a) := by
 unfold byts
 have e : (s.extract a b).data.toList = (s.data.toList.drop a).take (b - a) := by
  rw [ByteArray.data_extract, Array.toList_extract]
 rw [e, List.map_take, List.map_drop]
/-- The text of these bytes. -/
def mkS (l : List Nat) : ByteArray := ⟨(l.map UInt8.ofNat).toArray⟩
theorem mkS_size (l : List Nat) : (mkS l).size = l.length := by show (l.map UInt8.ofNat).toArray.size = _; simp
theorem byts_mkS {l : List Nat} (h : ∀ x ∈ l, x < 256) : byts (mkS l) = l := by
 unfold byts mkS
 simp only [List.map_map]
 conv => rhs; rw [← List.map_id l]
 apply List.map_congr_left
 intro x hx
 have := h x hx
 simp [UInt8.toNat_ofNat']
 omega
theorem mkS_byts (s : ByteArray) : mkS (byts s) = s := by
 apply ByteArray.ext
 apply Array.toList_inj.1
 show ((byts s).map UInt8.ofNat) = s.data.toList
 unfold byts
 rw [List.map_map]
 conv => rhs; rw [← List.map_id s.data.toList]
 apply List.map_congr_left
 intro x _
 simp
theorem byts_inj {a b : ByteArray} (h : byts a = byts b) : a = b := by rw [← mkS_byts a, ← mkS_byts b, h]
end Go.Proofs.YtbabdhepnjacdaaDoor
