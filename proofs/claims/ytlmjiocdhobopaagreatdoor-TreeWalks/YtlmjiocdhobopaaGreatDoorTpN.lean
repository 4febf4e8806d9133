/-
 How many parts a value has, and how deep it is, is at most its bulk.
-/
import Derived.Test.YtlmjiocdhobopaaGreatDoorPack1
namespace Go.Proofs.YtlmjiocdhobopaaGreatDoor
mutual
theorem cnt_blk : ∀ t : Vt, cntV t ≤ blkV t
 | .mk k b r t ks vs => by
  have := cntL_blk vs
  unfold cntV blkV
  omega
theorem cntL_blk : ∀ vs : List Vt, cntL vs ≤ blkL vs
 | [] => Nat.le_refl _
 | v :: vs => by
  have := cnt_blk v
  have := cntL_blk vs
  unfold cntL blkL
  omega
end
end Go.Proofs.YtlmjiocdhobopaaGreatDoor
