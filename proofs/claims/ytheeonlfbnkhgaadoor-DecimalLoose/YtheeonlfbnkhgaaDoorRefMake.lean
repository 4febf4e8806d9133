/-
  What the reference's Make answers.
-/
import Derived.Test.YtheeonlfbnkhgaaDoorRefRead
namespace Go.Proofs.YtheeonlfbnkhgaaDoor
open Go.RowKit Go.Shelf

theorem lk_get {t : ByteArray} {j : Nat} {b : UInt8} (h : t.data.toList[j]? = some b) : lk t j = b.toNat ∧ j < t.size := by
  obtain ⟨h1, h2⟩ := List.getElem?_eq_some_iff.1 h
  have h3 : j < t.size := by rw [size_list] at h1; exact h1
  refine ⟨?_, h3⟩
  rw [lk_at t j h3, ← h2, Array.getElem_toList]
  rfl
theorem byte_eq {b : UInt8} (h : b.toNat = 48) : b = 48 := UInt8.toNat_inj.1 h
theorem lead_drop {t : ByteArray} {k : Nat} (hk : k ≤ t.size) (h1 : ∀ j, j < k → lk t j = 48) (h2 : k = t.size ∨ lk t k ≠ 48) : Lib.trimLeftB t.data.toList 48 = t.data.toList.drop k := by
  refine Lib.trimLeftB_drop _ _ k (by rw [size_list]; exact hk) (fun j b hj hb => ?_) (fun b hb => ?_)
  · exact byte_eq (by rw [← (lk_get hb).1]; exact h1 j hj)
  · obtain ⟨h3, h4⟩ := lk_get hb
    rcases h2 with h2 | h2
    · omega
    · intro e
      rw [e] at h3
      exact h2 h3
theorem trail_take {t : ByteArray} {k m : Nat} (hk : k ≤ m) (hm : m ≤ t.size) (h1 : ∀ j, m ≤ j → j < t.size → lk t j = 48) (h2 : m = k ∨ lk t (m - 1) ≠ 48) : Lib.trimRightB (t.data.toList.drop k) 48 = (t.data.toList.drop k).take (m - k) := by
  refine Lib.trimRightB_take _ _ (m - k) (by rw [List.length_drop, size_list]; omega) (fun j b hj hb => ?_) (fun b h0 hb => ?_)
  · rw [List.getElem?_drop] at hb
    obtain ⟨h3, h4⟩ := lk_get hb
    exact byte_eq (by rw [← h3]; exact h1 _ (by omega) h4)
  · rw [List.getElem?_drop] at hb
    obtain ⟨h3, h4⟩ := lk_get hb
    rcases h2 with h2 | h2
    · omega
    · intro e
      rw [e, show k + (m - k - 1) = m - 1 by omega] at h3
      exact h2 h3
/-- What Make answers. -/
def mkV (n : Bool) (t : ByteArray) (X : Int) : Value :=
  if Lib.trimLeftB t.data.toList 48 = [] then .tuple #[decV ⟨n, [], 0⟩, .bool true]
  else if inB (X + (((Lib.trimLeftB t.data.toList 48).length - (Lib.trimRightB (Lib.trimLeftB t.data.toList 48) 48).length : Nat) : Int)) then
    .tuple #[decV ⟨n, Lib.trimRightB (Lib.trimLeftB t.data.toList 48) 48, X + (((Lib.trimLeftB t.data.toList 48).length - (Lib.trimRightB (Lib.trimLeftB t.data.toList 48) 48).length : Nat) : Int)⟩, .bool true]
  else .tuple #[decV zeroD, .bool false]

end Go.Proofs.YtheeonlfbnkhgaaDoor
