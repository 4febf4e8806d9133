/-
 TrM, TrM2, TrM3, TrM4, TrM5, TrM6, one behind the other.
-/
import Derived.Test.YtlhbgfhmcjaabaaGreatDoorTrJA
import Derived.Test.YtlhbgfhmcjaabaaGreatDoorPack2
import Derived.Deep.MidRow
/- When two values that are well shaped are alike; quarryref17.covers. -/
namespace Go.Proofs.YtlhbgfhmcjaabaaGreatDoor
open Go.RowKit Go.Shelf
end Go.Proofs.YtlhbgfhmcjaabaaGreatDoor
/- quarryref17.covers, where alike is known of the Kids. -/
namespace Go.Proofs.YtlhbgfhmcjaabaaGreatDoor
open Go.RowKit Go.Shelf
end Go.Proofs.YtlhbgfhmcjaabaaGreatDoor
/- quarryref17.alike of values that are neither arrays nor objects. -/
namespace Go.Proofs.YtlhbgfhmcjaabaaGreatDoor
open Go.RowKit Go.Shelf
theorem ds_read17 (s : ByteArray) : (readS s 0).1.ds.length ≤ 2 * s.size := by
 have hd : ∀ (n : Num) (d : Dec), worthS n = some d → d.ds.length ≤ n.wh.size + n.be.size := by
  intro n d hn
  unfold worthS at hn
  split at hn
  ·injection hn with hn; rw [← hn]; exact Nat.zero_le _
  ·split at hn
   ·injection hn with hn
    rw [← hn]
    refine Nat.le_trans (trimR_length _ _) (Nat.le_trans (trimL_length _ _) ?_)
    rw [List.length_append, size_list, size_list]
    exact Nat.le_refl _
   ·cases hn
 obtain ⟨r, hrr⟩ : ∃ r, scanS s 0 = r := ⟨_, rfl⟩
 obtain ⟨on, en⟩ := r
 cases on with
 | none =>
  have : readS s 0 = (zeroD, en, 110) := by rw [readS, hrr]
  rw [this]; exact Nat.zero_le _
 | some n =>
  obtain ⟨q1, -, -⟩ := num_of hrr (Nat.zero_le _)
  have e1 : readS s 0 = match worthS n with | none => (zeroD, en, 111) | some d => (d, en, 0) := by rw [readS, hrr]; rfl
  cases hw : worthS n with
  | none => rw [hw] at e1; rw [e1]; exact Nat.zero_le _
  | some d =>
   rw [hw] at e1
   have := hd n d hw
   rw [e1]
   show d.ds.length ≤ _
   omega
theorem ds_size17 (r : ByteArray) : ((⟨(ofS r).1.ds.toArray⟩ : ByteArray)).size ≤ 2 * r.size := by
 show (ofS r).1.ds.toArray.size ≤ _
 rw [List.size_toArray]
 unfold ofS
 split
 ·exact ds_read17 r
 ·exact Nat.zero_le _
end Go.Proofs.YtlhbgfhmcjaabaaGreatDoor
/- quarryref17.alike of arrays, where it is known of the Kids. -/
namespace Go.Proofs.YtlhbgfhmcjaabaaGreatDoor
open Go.RowKit Go.Shelf
end Go.Proofs.YtlhbgfhmcjaabaaGreatDoor
/- quarryref17.alike, of objects and of all. -/
namespace Go.Proofs.YtlhbgfhmcjaabaaGreatDoor
open Go.RowKit Go.Shelf
end Go.Proofs.YtlhbgfhmcjaabaaGreatDoor
/- quarryref17.alike, of all; Alike, Like. -/
namespace Go.Proofs.YtlhbgfhmcjaabaaGreatDoor
open Go.RowKit Go.Shelf
mutual
/-- It has no more than 4294967296 names anywhere. -/
def nkV : Vt → Prop
 | .mk _ _ _ _ ks vs => ks.length ≤ 4294967296 ∧ nkL vs
def nkL : List Vt → Prop
 | [] => True
 | v :: vs => nkV v ∧ nkL vs
end
end Go.Proofs.YtlhbgfhmcjaabaaGreatDoor
