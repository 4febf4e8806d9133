/-
  How many parts a value has, and how deep it is, is at most its bulk.
-/
import Derived.Test.YthfbmelfflpenaaDoorTrN
import Derived.Test.YthfbmelfflpenaaDoorTrD2
namespace Go.Proofs.YthfbmelfflpenaaDoor

mutual
theorem cnt_blk : ∀ t : Vt, cntV t ≤ blkV t
  | .mk k b r t ks vs => by
    have := cntL_blk vs
    unfold cntV blkV
    omega
theorem cntL_blk : ∀ vs : List Vt, cntL vs ≤ blkL vs
  | [] => Nat.le_refl _
  | v :: vs => by
    have := cnt_blk v
    have := cntL_blk vs
    unfold cntL blkL
    omega
end
mutual
theorem dep_blk : ∀ t : Vt, depV t ≤ blkV t
  | .mk k b r t ks vs => by
    have := depL_blk vs
    unfold depV blkV
    split <;> omega
theorem depL_blk : ∀ vs : List Vt, depL vs ≤ blkL vs
  | [] => Nat.le_refl _
  | v :: vs => by
    have := dep_blk v
    have := depL_blk vs
    unfold depL blkL
    omega
end
end Go.Proofs.YthfbmelfflpenaaDoor
