/-
  A value of a bulk that is bounded has few names.
-/
import Derived.Test.YthfbmelfflpenaaDoorTrN
import Derived.Test.YthfbmelfflpenaaDoorTrMA
namespace Go.Proofs.YthfbmelfflpenaaDoor

mutual
theorem nkV_blk : ∀ (t : Vt), blkV t ≤ 4194304 → nkV t
  | .mk k b r t ks vs, h => by
    unfold blkV at h
    unfold nkV
    have := blkK_len ks
    exact ⟨by omega, nkL_blk vs (by omega)⟩
theorem nkL_blk : ∀ (vs : List Vt), blkL vs ≤ 4194304 → nkL vs
  | [], _ => by unfold nkL; trivial
  | v :: vs, h => by
    unfold blkL at h
    unfold nkL
    exact ⟨nkV_blk v (by omega), nkL_blk vs (by omega)⟩
end
end Go.Proofs.YthfbmelfflpenaaDoor
