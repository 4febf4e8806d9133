/-
 Alike is a likeness.
-/
import Derived.Test.YtjlcliicdclooaaDoorTrMA
import Derived.Test.YtjlcliicdclooaaDoorDecCmp
import Derived.Test.YtjlcliicdclooaaDoorDecR
namespace Go.Proofs.YtjlcliicdclooaaDoor
open Go.RowKit Go.Shelf
theorem alk_iff (k : Int) (b : Bool) (r t : ByteArray) (ks : List ByteArray) (vs : List Vt) (k2 : Int) (b2 : Bool) (r2 t2 : ByteArray) (ks2 : List ByteArray) (vs2 : List Vt) :
  Alk (.mk k b r t ks vs) (.mk k2 b2 r2 t2 ks2 vs2) ↔ k = k2 ∧ (k = 2 → b = b2) ∧ (k = 4 → t = t2) ∧ (k = 3 → NumA r r2) ∧
   (k = 5 → vs.length = vs2.length ∧ ∀ (i : Nat) (x y : Vt), vs[i]? = some x → vs2[i]? = some y → Alk x y) ∧
   (k = 6 → (∀ (j : Nat) (nm : ByteArray), ks2[j]? = some nm → ∃ q : Nat, ks[q]? = some nm) ∧
    ∀ (i : Nat) (x : Vt), vs[i]? = some x → ∀ (nm : ByteArray), ks[i]? = some nm → IsFst ks nm (i : Int) → ∃ (q : Nat) (y : Vt), IsFst ks2 nm (q : Int) ∧ vs2[q]? = some y ∧ Alk x y) := by
 rw [Alk]
 exact Iff.rfl
theorem fst_has {ks : List ByteArray} {nm : ByteArray} {j : Nat} (h : ks[j]? = some nm) : ∃ i : Nat, IsFst ks nm (i : Int) ∧ ks[i]? = some nm := by
 obtain ⟨f, hf⟩ := fst_ex17 ks nm
 rcases hf with ⟨-, h'⟩ | ⟨i, rfl, h1, h2⟩
 ·exact absurd h (h' j)
 ·exact ⟨i, .inr ⟨i, rfl, h1, h2⟩, h1⟩
end Go.Proofs.YtjlcliicdclooaaDoor
