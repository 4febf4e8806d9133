/-
  What calls that answer a row of bits and an error number leave: the row lies in a block of its own.
-/
import Derived.Test.YtmjmcdoanolelaaDoorKitA
import Derived.Test.YtmjmcdoanolelaaDoorBitsA
import Derived.Test.YtmjmcdoanolelaaDoorMakeWalk
import Derived.Test.YtmjmcdoanolelaaDoorJoinOps
namespace Go.Proofs.YtmjmcdoanolelaaDoor
open Go.RowKit

/-- The slice's words lie in a block of their own, from B on; or there are none. -/
def Own (B : Nat) (w : World) (so : Option Addr) (r : Nat) (Z : Nat → Nat) : Prop := (so = none ∧ r = 0) ∨ ∃ g, so = some ⟨g, 0, none⟩ ∧ B ≤ g ∧ At w g (rowCells r Z) 46
theorem Own.kept {B : Nat} {w w' : World} {so : Option Addr} {r : Nat} {Z : Nat → Nat} (h : Own B w so r Z) (hb : Below w.heap.size w w') : Own B w' so r Z := by
  rcases h with h | ⟨g, h1, h2, h3⟩
  · exact .inl h
  · exact .inr ⟨g, h1, h2, h3.keptAll hb⟩
theorem Own.mono {B B' : Nat} {w : World} {so : Option Addr} {r : Nat} {Z : Nat → Nat} (h : Own B w so r Z) (hB : B' ≤ B) : Own B' w so r Z := by
  rcases h with h | ⟨g, h1, h2, h3⟩
  · exact .inl h
  · exact .inr ⟨g, h1, by omega, h3⟩
theorem Own.wds {B : Nat} {w : World} {so : Option Addr} {r : Nat} {Z : Nat → Nat} (h : Own B w so r Z) (hZ : ∀ j, j < r → Z j < 18446744073709551616) : Wds w so r Z := by
  rcases h with ⟨h1, h2⟩ | ⟨g, rfl, h2, h3⟩
  · intro j hj; omega
  · exact h3.wds hZ (Nat.le_refl _)
theorem Own.other {B : Nat} {w : World} {so : Option Addr} {r : Nat} {Z : Nat → Nat} (h : Own B w so r Z) {p : Addr} (hp : p.block < B) (v : Value) : Own B (w.setCell p v) so r Z := by
  rcases h with h | ⟨g, h1, h2, h3⟩
  · exact .inl h
  · exact .inr ⟨g, h1, h2, h3.other (by omega) v⟩
/-- A row and an error number come back. -/
def Gives (E q : Int) (r : Nat) (Z : Nat → Nat) (w : World) (e : Ending) (w' : World) : Prop := Below w.heap.size w w' ∧ ∃ so, Own w.heap.size w' so r Z ∧ e = .returned (.tuple #[bv q so r r, .int .i64 E])
theorem Gives.congr {E q : Int} {r : Nat} {Z Z' : Nat → Nat} {w w' : World} {e : Ending} (h : Gives E q r Z w e w') (hZ : ∀ j, j < r → Z j = Z' j) : Gives E q r Z' w e w' := by
  obtain ⟨h1, so, h2, h3⟩ := h
  refine ⟨h1, so, ?_, h3⟩
  rcases h2 with h | ⟨g, h4, h5, h6⟩
  · exact .inl h
  · exact .inr ⟨g, h4, h5, rowCells_congr hZ ▸ h6⟩
theorem Joined.gives {o : Nat → Nat → Nat} {n m : Int} {k l : Nat} {X Y : Nat → Nat} {w w' : World} {e : Ending} (h : Joined o n m k l X Y w e w') {E q : Int} {r : Nat} (hE : joinE n m k l X Y E q r) : Gives E q r (fun j => o (X j) (Y j)) w e w' := by
  obtain ⟨hb, h⟩ := h
  refine ⟨hb, ?_⟩
  rcases hE with ⟨h1, rfl, rfl, rfl⟩ | ⟨h1, h2, rfl, rfl, rfl⟩ | ⟨h1, h2, rfl, rfl, rfl⟩ <;> rcases h with ⟨h3, rfl⟩ | ⟨h3, h4, rfl⟩ | ⟨h3, h4, g, hg, hrow, rfl⟩
  · exact ⟨none, .inl ⟨rfl, rfl⟩, rfl⟩
  · exact (h1 h3).elim
  · exact (h1 h3).elim
  · exact (h3 h1).elim
  · exact ⟨none, .inl ⟨rfl, rfl⟩, rfl⟩
  · exact (h2 h4).elim
  · exact (h3 h1).elim
  · exact (h4 h2).elim
  · exact ⟨_, .inr ⟨g, rfl, hg, hrow⟩, rfl⟩
/-- Make's errors. -/
def makeE (n : Int) (k : Nat) (Z : Nat → Int) (E q : Int) (r : Nat) : Prop := (¬ good n k Z ∧ E = 2 ∧ q = 0 ∧ r = 0) ∨ (good n k Z ∧ E = 0 ∧ q = n ∧ r = need n.toNat)
theorem makeE_ex (n : Int) (k : Nat) (Z : Nat → Int) : ∃ E q r, makeE n k Z E q r := by
  by_cases h : good n k Z
  · exact ⟨0, n, need n.toNat, .inr ⟨h, rfl, rfl, rfl⟩⟩
  · exact ⟨2, 0, 0, .inl ⟨h, rfl, rfl, rfl⟩⟩
theorem Made.gives {n : Int} {k : Nat} {Z : Nat → Int} {w w' : World} {e : Ending} (h : Made w n k Z e w') {E q : Int} {r : Nat} (hE : makeE n k Z E q r) : Gives E q r (rowOf (setTo Z k) n.toNat) w e w' := by
  obtain ⟨hb, h⟩ := h
  refine ⟨hb, ?_⟩
  rcases hE with ⟨h1, rfl, rfl, rfl⟩ | ⟨h1, rfl, rfl, rfl⟩ <;> rcases h with ⟨h3, rfl⟩ | ⟨h3, g, K, hK, hg, hrow, rfl⟩
  · exact ⟨none, .inl ⟨rfl, rfl⟩, rfl⟩
  · exact (h1 h3).elim
  · exact (h3 h1).elim
  · obtain rfl := hK.out
    exact ⟨_, .inr ⟨g, rfl, hg, hrow⟩, rfl⟩
end Go.Proofs.YtmjmcdoanolelaaDoor
