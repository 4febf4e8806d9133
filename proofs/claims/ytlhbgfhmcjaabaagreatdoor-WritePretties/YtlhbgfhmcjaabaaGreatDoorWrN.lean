/-
 Pretty texts: math.
-/
import Derived.Test.YtlhbgfhmcjaabaaGreatDoorWrM
import Derived.Test.YtlhbgfhmcjaabaaGreatDoorPack6
namespace Go.Proofs.YtlhbgfhmcjaabaaGreatDoor
open Go.RowKit Go.Shelf
/-- A line feed and so many spaces. -/
def lnS (D : Nat) : ByteArray := ⟨(10 :: List.replicate D 32).toArray⟩
def C2 : ByteArray := ⟨#[58, 32]⟩
theorem lnS_size (D : Nat) : (lnS D).size = D + 1 := by
 show (List.toArray _).size = _
 simp
theorem fd_ln {D ix d : Nat} (h : ix * d ≤ D) : fdL (lnS D) ix d = 10 :: List.replicate (ix * d) 32 := by
 unfold fdL
 rw [if_neg (by rw [lnS_size]; omega)]
 show ((lnS D).extract 0 (1 + ix * d)).data.toList = _
 rw [ByteArray.data_extract]
 unfold lnS
 simp only [List.extract_toArray, List.extract_eq_take_drop]
 rw [Nat.sub_zero, List.drop_zero, Nat.add_comm 1, List.take_succ_cons, List.take_replicate, Nat.min_eq_left h]
/-- The pretty text of a value. -/
def preL (ix : Nat) (t : Vt) : List UInt8 := ptV C2 (lnS (ix * depV t)) ix t 0
/-- What Pretty answers; F: whether it is well shaped. -/
def prS (F : Bool) (n : Int) (t : Vt) : ByteArray × Int := if F = false then (⟨#[]⟩, 1) else if n < 0 ∨ 8 < n then (⟨#[]⟩, 2) else (⟨(preL n.toNat t).toArray⟩, 0)
end Go.Proofs.YtlhbgfhmcjaabaaGreatDoor
