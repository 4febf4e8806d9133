/-
 Within, by the program and by the reference.
-/
import Derived.Test.YtjlcliicdclooaaDoorPtI
import Derived.Test.YtjlcliicdclooaaDoorTpB
namespace Go.Proofs.YtjlcliicdclooaaDoor
open Go.RowKit Go.Shelf
theorem KeysAt.take {w : World} {ao : Option Addr} {ks : List ByteArray} (h : KeysAt w ao ks) (n : Nat) : KeysAt w ao (ks.take n) := fun i s hi => by
 rw [List.getElem?_take] at hi
 split at hi
 ·exact h i s hi
 ·cases hi
theorem KeysG.cap {B : Nat} {W : World} {so : Option Addr} {n cap : Nat} {ks : List ByteArray} (h : KeysG B W (.slice so n cap) ks) : n ≤ cap ∧ (so = none → n = 0 ∧ cap = 0) ∧ cap ≤ 9223372036854775807 := by
 rcases h.1.2 with ⟨e, -⟩ | ⟨g, c, cur, e, hb, hg, hnc, hcm, hcs, htk⟩
 ·cases e; exact ⟨Nat.le_refl _, fun _ => ⟨rfl, rfl⟩, Nat.zero_le _⟩
 ·cases e; exact ⟨hnc, fun h => (by cases h), hcm⟩
end Go.Proofs.YtjlcliicdclooaaDoor
