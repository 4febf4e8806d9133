/-
  What quarryref08.Bytes, begins, Index and Kind answer; what quarryref00.SameInts answers.
-/
import Derived.Test.YtomeaejjdjidlaaDoorMarkMath
import Derived.Test.YtomeaejjdjidlaaDoorRefQ
import Derived.Test.YtomeaejjdjidlaaDoorLstKit
namespace Go.Proofs.YtomeaejjdjidlaaDoor
open Go.RowKit Go.Shelf

theorem infoI8 : (Tryd.prog.info? 3).map (fun i => (i.zero, i.size, i.bytes)) = some (some (.int .i64 0), 1, 8) := by kernel_rfl
/-- What the first n bytes are. -/
def kds (s : ByteArray) (n : Nat) : List Nat := (List.range n).map (kdS s)
theorem kds_succ (s : ByteArray) (n : Nat) : kds s (n + 1) = kds s n ++ [kdS s n] := by simp [kds, List.range_succ]
theorem kds_len (s : ByteArray) (n : Nat) : (kds s n).length = n := by simp [kds]
theorem kds_get {s : ByteArray} {n i : Nat} (h : i < n) : (kds s n)[i]? = some (kdS s i) := by simp [kds, h]

/-- The list of what the bytes are, as it lies. -/
def KdAt (w : World) (ao : Option Addr) (s : ByteArray) (n : Nat) : Prop := ∀ i, i < n → ∃ g, ao = some ⟨g, 0, none⟩ ∧ g < w.heap.size ∧ w.cell? ⟨g, i, none⟩ = some (.int .i64 ((kdS s i : Nat) : Int))
theorem KdAt.kept {n m : Nat} {w w' : World} {ao : Option Addr} {s : ByteArray} (h : KdAt w ao s n) (hm : w.heap.size ≤ m) (hb : Below m w w') : KdAt w' ao s n := fun i hi => by
  obtain ⟨g, h1, h2, h3⟩ := h i hi
  exact ⟨g, h1, Nat.lt_of_lt_of_le h2 hb.size, (hb.cell (p := ⟨g, i, none⟩) (by show g < m; omega)).trans h3⟩
theorem beg_kd {s : ByteArray} {i : Nat} (h : i < s.size) : begS s i = ((kdS s i == 1 || kdS s i == 3) || (kdS s i == 6 && (i == 0 || kdS s (i - 1) != 6))) := by
  have h1 := kd_str h
  have h3 := kd_opens s i
  have h6 := kd_word h
  have e1 : (kdS s i == 1) = strS s i := by rw [Bool.eq_iff_iff, beq_iff_eq]; exact h1
  have e3 : (kdS s i == 3) = (markS s i && inS s i) := by rw [Bool.eq_iff_iff, beq_iff_eq]; exact h3
  have e6 : (kdS s i == 6) = wordS s i := by rw [Bool.eq_iff_iff, beq_iff_eq]; exact h6
  unfold begS
  rw [e1, e3, e6]
  cases i with
  | zero => simp [Bool.or_assoc]
  | succ i =>
    have h6' := kd_word (s := s) (i := i) (by omega)
    have e6' : (kdS s i == 6) = wordS s i := by rw [Bool.eq_iff_iff, beq_iff_eq]; exact h6'
    have e : (kdS s i != 6) = !wordS s i := by rw [← e6']; rfl
    simp [Bool.or_assoc, e]

/-- One more. -/
theorem wds_kept {N : Nat} {G : Nat → Bool} {V W : World} {ao : Option Addr} (h : Wds V ao (need N) (rowOf G N)) (hb : Below V.heap.size V W) : Wds W ao (need N) (rowOf G N) := h.kept hb
end Go.Proofs.YtomeaejjdjidlaaDoor
