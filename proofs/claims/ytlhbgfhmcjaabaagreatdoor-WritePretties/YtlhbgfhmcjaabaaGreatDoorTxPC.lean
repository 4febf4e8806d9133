/-
 What texts.Unescape answers.
-/
import Derived.Test.YtlhbgfhmcjaabaaGreatDoorTxPB
import Derived.Test.YtlhbgfhmcjaabaaGreatDoorPack4
namespace Go.Proofs.YtlhbgfhmcjaabaaGreatDoor
open Go.RowKit Go.Shelf
theorem BdI.fresh15 (w : World) : BdI (w.alloc (.cells #[.pointer none, .slice none 0 0] 49)) w.heap.size (w.heap.size + 1) [] := ⟨_, _, At.new w _ _, .inl rfl, World.ownsRow_nil _ _ _ _⟩
/-- Numbers as bytes. -/
def bU (o : List Nat) : List UInt8 := o.map UInt8.ofNat
theorem bU_app (a b : List Nat) : bU (a ++ b) = bU a ++ bU b := List.map_append
theorem bU_len (a : List Nat) : (bU a).length = a.length := List.length_map _
theorem bU_mk (o : List Nat) : (⟨(bU o).toArray⟩ : ByteArray) = mkS o := rfl
theorem bU_byts (r : ByteArray) : bU (byts r) = r.data.toList := by
 unfold bU byts
 rw [List.map_map]
 have : (UInt8.ofNat ∘ UInt8.toNat) = id := by
  funext x
  simp
 rw [this, List.map_id]
theorem bU_head (r : ByteArray) (k : Nat) : (r.extract 0 k).data.toList = bU ((byts r).take k) := by
 rw [← bU_byts, byts_extract]
 simp
theorem none_from {r : ByteArray} (h : r.size = 0) : r = ⟨#[]⟩ := byts_inj (List.eq_nil_of_length_eq_zero (by rw [byts_length]; exact h))
theorem some_from {r : ByteArray} (h : r.size ≠ 0) : (r.toList == []) = false := by
 rw [beq_eq_false_iff_ne]
 intro e
 apply h
 have h2 : r.data.toList = [] := by rw [← Lib.toList_data, e]
 rw [← byts_length, byts, h2]
 rfl
end Go.Proofs.YtlhbgfhmcjaabaaGreatDoor
