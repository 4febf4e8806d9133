/-
 A value of a bulk that is bounded has short texts.
-/
import Derived.Test.YtjlcliicdclooaaDoorTrN0
import Derived.Test.YtjlcliicdclooaaDoorTrHA
namespace Go.Proofs.YtjlcliicdclooaaDoor
mutual
theorem szV_blk : ∀ (t : Vt), blkV t ≤ 4294967296 → szV t
 | .mk k b r t ks vs, h => by
  unfold blkV at h
  unfold szV
  refine ⟨by omega, fun i k hk => ?_, szL_blk vs (by omega)⟩
  have := blkK_get hk
  omega
theorem szL_blk : ∀ (vs : List Vt), blkL vs ≤ 4294967296 → szL vs
 | [], _ => by unfold szL; trivial
 | v :: vs, h => by
  unfold blkL at h
  unfold szL
  exact ⟨szV_blk v (by omega), szL_blk vs (by omega)⟩
end
end Go.Proofs.YtjlcliicdclooaaDoor
