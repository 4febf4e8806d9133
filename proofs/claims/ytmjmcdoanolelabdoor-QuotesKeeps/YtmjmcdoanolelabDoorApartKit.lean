/-
  Several rows of words that lie apart: what a store into one of them leaves of the others.
-/
import Derived.Test.YtmjmcdoanolelabDoorBitsB
import Derived.Test.YtmjmcdoanolelabDoorPack1
namespace Go.Proofs.YtmjmcdoanolelabDoor
open Go.RowKit

/-- One of several rows: its block and its length (no block: no words). -/
structure RowX where
  g : Option Nat
  r : Nat
/-- The row as a slice without room. -/
def slX (x : RowX) : Value := .slice (x.g.map fun g => ⟨g, 0, none⟩) x.r x.r
/-- The rows lie apart, from B on, each with its words. -/
def RowsX (w : World) (B : Nat) (rs : List RowX) (F : Nat → Nat → Nat) : Prop :=
  (∀ (k : Nat) (x : RowX), rs[k]? = some x → (x.g = none → x.r = 0) ∧ ∀ g, x.g = some g → B ≤ g ∧ At w g (rowCells x.r (F k)) 33) ∧
    ∀ (k l : Nat) (x y : RowX) (g : Nat), rs[k]? = some x → rs[l]? = some y → x.g = some g → y.g = some g → k = l
section
variable {w w' : World} {B : Nat} {rs : List RowX} {F : Nat → Nat → Nat}
theorem RowsX.at (h : RowsX w B rs F) {k : Nat} {x : RowX} (hk : rs[k]? = some x) {i : Nat} (hi : i < x.r) : ∃ g, x.g = some g ∧ B ≤ g ∧ At w g (rowCells x.r (F k)) 33 ∧ w.cell? ⟨g, i, none⟩ = some (.int .u64 ((F k i : Nat) : Int)) ∧ w.frozen? ⟨g, i, none⟩ = false := by
  obtain ⟨h1, h2⟩ := h.1 k x hk
  cases hg : x.g with
  | none => have := h1 hg; omega
  | some g =>
    obtain ⟨h3, h4⟩ := h2 g hg
    exact ⟨g, rfl, h3, h4, (h4.cell i).trans (rowCells_get _ hi), h4.frozen i⟩
theorem RowsX.kept (h : RowsX w B rs F) (hb : Below w.heap.size w w') : RowsX w' B rs F :=
  ⟨fun k x hk => ⟨(h.1 k x hk).1, fun g hg => ⟨((h.1 k x hk).2 g hg).1, ((h.1 k x hk).2 g hg).2.keptAll hb⟩⟩, h.2⟩
/-- A store into a block ahead of all rows. -/
theorem RowsX.other (h : RowsX w B rs F) {b i : Nat} (hb : b < B) (v : Value) : RowsX (w.setCell ⟨b, i, none⟩ v) B rs F :=
  ⟨fun k x hk => ⟨(h.1 k x hk).1, fun g hg => ⟨((h.1 k x hk).2 g hg).1, ((h.1 k x hk).2 g hg).2.other (p := ⟨b, i, none⟩) (by have := ((h.1 k x hk).2 g hg).1; show g ≠ b; omega) v⟩⟩, h.2⟩
/-- A store into one of the rows: the others are as they were. -/
theorem RowsX.set (h : RowsX w B rs F) {k : Nat} {x : RowX} {g : Nat} (hk : rs[k]? = some x) (hg : x.g = some g) (i v : Nat) :
    RowsX (w.setCell ⟨g, i, none⟩ (.int .u64 ((v : Nat) : Int))) B rs (fun l j => if l = k ∧ j = i then v else F l j) := by
  refine ⟨fun l y hl => ⟨(h.1 l y hl).1, fun g' hg' => ?_⟩, h.2⟩
  obtain ⟨h3, h4⟩ := (h.1 l y hl).2 g' hg'
  refine ⟨h3, ?_⟩
  by_cases e : g' = g
  · subst e
    have e2 : l = k := h.2 l k y x g' hl hk hg' hg
    subst e2
    obtain rfl : y = x := by rw [hl] at hk; exact Option.some.inj hk
    have := h4.set i (.int .u64 ((v : Nat) : Int))
    rw [rowCells_set] at this
    rw [rowCells_congr (Y' := fun j => if j = i then v else F l j) (fun j _ => by simp)]
    exact this
  · have hlk : l ≠ k := fun e2 => by
      subst e2
      rw [hl] at hk
      cases hk
      rw [hg] at hg'
      exact e (Option.some.inj hg').symm
    rw [rowCells_congr (Y' := F l) (fun j _ => by simp [hlk])]
    exact h4.other (p := ⟨g, i, none⟩) e _
theorem RowsX.congr {F' : Nat → Nat → Nat} (h : RowsX w B rs F) (hF : ∀ k x j, rs[k]? = some x → j < x.r → F k j = F' k j) : RowsX w B rs F' :=
  ⟨fun k x hk => ⟨(h.1 k x hk).1, fun g hg => ⟨((h.1 k x hk).2 g hg).1, by rw [rowCells_congr (Y' := F k) (fun j hj => (hF k x j hk hj).symm)]; exact ((h.1 k x hk).2 g hg).2⟩⟩, h.2⟩
end
end Go.Proofs.YtmjmcdoanolelabDoor
