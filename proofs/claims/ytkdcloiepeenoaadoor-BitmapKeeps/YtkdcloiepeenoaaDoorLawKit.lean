/-
  What the walks through the laws share.
-/
import Derived.Test.YtkdcloiepeenoaaDoorRefKit
import Derived.Test.YtkdcloiepeenoaaDoorLentBits
import Derived.Test.YtkdcloiepeenoaaDoorAwakeWalk
import Derived.Test.YtkdcloiepeenoaaDoorSameWalk
namespace Go.Proofs.YtkdcloiepeenoaaDoor
open Go.RowKit

theorem LentW.other {w : World} {g c k : Nat} {Z : Nat → Int} (h : LentW w g c k Z) {p : Addr} (hp : g ≠ p.block) (v : Value) : LentW (w.setCell p v) g c k Z := by
  obtain ⟨cur, h1, h2⟩ := h
  exact ⟨cur, h1.other hp v, h2⟩
theorem Own.other2 {B : Nat} {w : World} {so : Option Addr} {r : Nat} {Z : Nat → Nat} (h : Own B w so r Z) {b : Nat} (hp : b < B) (x y : Value) : Own B ((w.setCell ⟨b, 0, none⟩ x).setCell ⟨b, 1, none⟩ y) so r Z :=
  (h.other (p := ⟨b, 0, none⟩) hp x).other (p := ⟨b, 1, none⟩) hp y
theorem Wdf.other2 {B : Nat} {w : World} {so : Option Addr} {r : Nat} {Z : Nat → Nat} (h : Wdf B w so r Z) {b : Nat} (hp : b < B) (x y : Value) : Wdf B ((w.setCell ⟨b, 0, none⟩ x).setCell ⟨b, 1, none⟩ y) so r Z := fun j hj => by
  obtain ⟨h1, g, off, h2, h3, h4⟩ := h j hj
  exact ⟨h1, g, off, h2, h3, (cell_set2 (p := ⟨g, off + j, none⟩) (by show g ≠ b; omega) x y).trans h4⟩
theorem turnE_wf {n : Int} {k : Nat} {X : Nat → Nat} {E q : Int} {r : Nat} (h : turnE n k X E q r) (hn : (Lit.int .i64 n).wf = true) : (Lit.int .i64 q).wf = true ∧ r ≤ k := by
  rcases h with ⟨_, _, rfl, rfl⟩ | ⟨_, _, rfl, rfl⟩
  · exact ⟨by decide, Nat.zero_le _⟩
  · exact ⟨hn, Nat.le_refl _⟩
theorem joinE_wf {n m : Int} {k l : Nat} {X Y : Nat → Nat} {E q : Int} {r : Nat} (h : joinE n m k l X Y E q r) (hn : (Lit.int .i64 n).wf = true) : (Lit.int .i64 q).wf = true ∧ r ≤ k := by
  rcases h with ⟨_, _, rfl, rfl⟩ | ⟨_, _, _, rfl, rfl⟩ | ⟨_, _, _, rfl, rfl⟩
  · exact ⟨by decide, Nat.zero_le _⟩
  · exact ⟨by decide, Nat.zero_le _⟩
  · exact ⟨hn, Nat.le_refl _⟩
/-- Two rows that are the same. -/
theorem same_true (q : Int) (ao bo : Option Addr) (r cap cap' : Nat) (Z : Nat → Nat) (hq : (Lit.int .i64 q).wf = true) (hr : r ≤ 17592186044416) (w : World) (hW : Wds w ao r Z) (hV : Wds w bo r Z) :
    Calls Tryd.prog 16 #[bv q ao r cap, bv q bo r cap'] w fun e w' => e = .returned (.bool true) ∧ Below w.heap.size w w' :=
  same_calls q q ao bo r r cap cap' Z Z true hq hq hr hr ⟨fun _ => rfl, fun _ => ⟨rfl, rfl, fun _ _ => rfl⟩⟩ w hW hV
end Go.Proofs.YtkdcloiepeenoaaDoor
