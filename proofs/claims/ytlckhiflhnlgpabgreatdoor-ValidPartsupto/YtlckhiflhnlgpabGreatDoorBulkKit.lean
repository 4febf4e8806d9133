/-
  What the second form's bound gives of a row of bits and of a list of numbers.
-/
import Derived.Test.YtlckhiflhnlgpabGreatDoorBitOpen
import Derived.Test.YtlckhiflhnlgpabGreatDoorRows
namespace Go.Proofs.YtlckhiflhnlgpabGreatDoor

theorem bulk_one {H : Type} (d : DataW H) : 1 ≤ Rows.uptoBulk d := by
  cases d with
  | lit l => cases l <;> simp [Rows.uptoBulk]
  | _ => simp [Rows.uptoBulk]
theorem bulk_part {H : Type} {d : DataW H} {l : List (DataW H)} (h : d ∈ l) : Rows.uptoBulk d ≤ Rows.uptoBulkAll l := by
  induction l with
  | nil => cases h
  | cons x r ih =>
    simp only [Rows.uptoBulkAll]
    cases List.mem_cons.1 h with
    | inl e => subst e; omega
    | inr e => have := ih e; omega
theorem bulk_length {H : Type} (l : List (DataW H)) : l.length ≤ Rows.uptoBulkAll l := by
  induction l with
  | nil => simp [Rows.uptoBulkAll]
  | cons x r ih => have := bulk_one x; simp only [Rows.uptoBulkAll, List.length_cons]; omega
theorem bulk_long {H : Type} {d : DataW H} {k : Nat} (h : Long d k) : k ≤ Rows.uptoBulk d := by
  rcases h with rfl | ⟨el, sp, rfl, rfl⟩
  · exact Nat.zero_le _
  · have := bulk_length el
    simp only [Rows.uptoBulk]
    omega
theorem bulk_bits {H : Type} {l : List (DataW H)} (h : Rows.uptoBulkAll l ≤ 1048576) {n : Int} {d : DataW H} {k : Nat} (hm : DataW.agg [.lit (.int .i64 n), d] ∈ l) (hk : Long d k) : k ≤ 1048576 := by
  have h1 := bulk_part hm
  have h2 := bulk_long hk
  simp only [Rows.uptoBulk, Rows.uptoBulkAll] at h1
  omega
theorem bulk_nums {H : Type} {l : List (DataW H)} (h : Rows.uptoBulkAll l ≤ 1048576) {d : DataW H} {k : Nat} (hm : d ∈ l) (hk : Long d k) : k ≤ 1048576 := by
  have h1 := bulk_part hm
  have h2 := bulk_long hk
  omega
end Go.Proofs.YtlckhiflhnlgpabGreatDoor
