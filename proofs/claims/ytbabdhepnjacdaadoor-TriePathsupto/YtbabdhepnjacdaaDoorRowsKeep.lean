/-
 What keeps a row.
-/
import Derived.Test.YtbabdhepnjacdaaDoorPack1
import Derived.Lib.ConvBytes
import Derived.Laws.AppendOwn
namespace Go.Proofs.YtbabdhepnjacdaaDoor
open Go.RowKit
theorem bytes_below (w : World) (e : TypeId) (s : ByteArray) : Below w.heap.size w (Lib.bytesWorld w e s) :=
 ⟨rfl, rfl, rfl, by rw [Lib.bytesWorld_size]; omega, fun k hk => Lib.bytesWorld_at_old w e s k hk⟩
/-- A row is kept where all that was there is. -/
theorem row_below {w w' : World} {B n : Nat} {e : TypeId} {v : Value} {xs : List Value} (h : w.ownsRow B e 1 v n xs) (hb : Below w.heap.size w w') : w'.ownsRow B e 1 v n xs := by
 obtain ⟨h1, h2 | ⟨g, cap, cur, h3, h4, h5, h6⟩⟩ := h
 ·exact ⟨h1, .inl h2⟩
 ·exact ⟨h1, .inr ⟨g, cap, cur, h3, h4, (hb.block g (Array.getElem?_eq_some_iff.1 h5).1).trans h5, h6⟩⟩
/-- A row of other elements isn't the one that grows. -/
theorem row_otherK {w w' : World} {B C n m : Nat} {e f : TypeId} {v u : Value} {xs ys : List Value} (hef : e ≠ f) (h : w.ownsRow B e 1 v n xs) (k : w.ownsRow C f 1 u m ys) (hg : w.grownBy w' u.ownBlock) : w'.ownsRow B e 1 v n xs := by
 obtain ⟨h1, h2 | ⟨g, cap, cur, h3, h4, h5, h6⟩⟩ := h
 ·exact ⟨h1, .inl h2⟩
 ·refine ⟨h1, .inr ⟨g, cap, cur, h3, h4, (hg.block g (Array.getElem?_eq_some_iff.1 h5).1 ?_).trans h5, h6⟩⟩
  intro hgu
  obtain ⟨_, ⟨rfl, _⟩ | ⟨g', _, cur', rfl, _, k5, _⟩⟩ := k
  ·cases hgu
  ·have : g = g' := by simpa [Value.ownBlock] using hgu
   subst this
   rw [h5] at k5
   simp at k5
   exact hef k5.2
end Go.Proofs.YtbabdhepnjacdaaDoor
