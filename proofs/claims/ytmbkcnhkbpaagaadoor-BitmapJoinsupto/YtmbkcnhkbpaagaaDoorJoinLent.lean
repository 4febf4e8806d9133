/-
  Two rows of bits that come in, and what two calls of LentBits leave of them.
-/
import Derived.Test.YtmbkcnhkbpaagaaDoorLentBits
import Derived.Deep.RegionHeld
import Derived.Deep.DeepCutAuto
namespace Go.Proofs.YtmbkcnhkbpaagaaDoor
open Go.RowKit

theorem below_new (w : World) (o : Obj) : Below w.heap.size w (w.alloc o) := (Below.refl _ _).alloc (Nat.le_refl _) _
/-- The variables a and b, and all that lay there before. -/
def PairS (w : World) (n m : Int) (ao bo : Option Addr) (k l cap cap' : Nat) (w' : World) : Prop :=
  (w'.cell? ⟨w.heap.size, 0, none⟩ = some (.int .i64 n) ∧ w'.cell? ⟨w.heap.size, 1, none⟩ = some (.slice ao k cap) ∧ w'.cell? ⟨w.heap.size + 1, 0, none⟩ = some (.int .i64 m) ∧ w'.cell? ⟨w.heap.size + 1, 1, none⟩ = some (.slice bo l cap')) ∧
  At w' w.heap.size #[.int .i64 n, .slice ao k cap] 24 ∧ At w' (w.heap.size + 1) #[.int .i64 m, .slice bo l cap'] 24 ∧ Below w.heap.size w w'
theorem pairS_mk {w : World} {n m : Int} {ao bo : Option Addr} {k l cap cap' : Nat} {w' : World} (h1 : At w' w.heap.size #[.int .i64 n, .slice ao k cap] 24) (h2 : At w' (w.heap.size + 1) #[.int .i64 m, .slice bo l cap'] 24) (hb : Below w.heap.size w w') : PairS w n m ao bo k l cap cap' w' :=
  ⟨⟨h1.cell 0, h1.cell 1, h2.cell 0, h2.cell 1⟩, h1, h2, hb⟩
theorem PairS.kept {w : World} {n m : Int} {ao bo : Option Addr} {k l cap cap' : Nat} {w1 w2 : World} (h : PairS w n m ao bo k l cap cap' w1) (hb : Below w1.heap.size w1 w2) : PairS w n m ao bo k l cap cap' w2 :=
  pairS_mk (h.2.1.keptAll hb) (h.2.2.1.keptAll hb) (h.2.2.2.trans (hb.mono h.2.2.2.size))
theorem PairS.put {w : World} {n m : Int} {ao bo : Option Addr} {k l cap cap' : Nat} {w1 : World} (h : PairS w n m ao bo k l cap cap' w1) {p : Nat} (h1 : w.heap.size + 2 ≤ p) (x y : Value) : PairS w n m ao bo k l cap cap' ((w1.setCell ⟨p, 0, none⟩ x).setCell ⟨p, 1, none⟩ y) :=
  pairS_mk ((h.2.1.other (p := ⟨p, 0, none⟩) (by show w.heap.size ≠ p; omega) _).other (p := ⟨p, 1, none⟩) (by show w.heap.size ≠ p; omega) _) ((h.2.2.1.other (p := ⟨p, 0, none⟩) (by show w.heap.size + 1 ≠ p; omega) _).other (p := ⟨p, 1, none⟩) (by show w.heap.size + 1 ≠ p; omega) _)
    ((h.2.2.2.setCell (p := ⟨p, 0, none⟩) (by show w.heap.size ≤ p; omega) _).setCell (p := ⟨p, 1, none⟩) (by show w.heap.size ≤ p; omega) _)
theorem LentW.put {w : World} {g c k p : Nat} {Z : Nat → Int} {x y : Value} (h : LentW w g c k Z) (ha : At w p #[x, y] 24) (x' y' : Value) : LentW ((w.setCell ⟨p, 0, none⟩ x').setCell ⟨p, 1, none⟩ y') g c k Z := by
  obtain ⟨cur, h1, h2⟩ := h
  have hne : g ≠ p := fun e => by
    subst e
    unfold At at h1 ha
    rw [h1] at ha
    cases ha
  exact ⟨cur, (h1.other (p := ⟨p, 0, none⟩) hne _).other (p := ⟨p, 1, none⟩) hne _, h2⟩
/-- What the two calls and the two new variables leave. -/
def LentTwo (w : World) (n m : Int) (ao bo : Option Addr) (k l cap cap' : Nat) (X Y : Nat → Nat) (px py : Value) (W : World) : Prop :=
  ∃ g c g2 c2 p q, px = .pointer (some ⟨p, 0, none⟩) ∧ py = .pointer (some ⟨q, 0, none⟩) ∧ PairS w n m ao bo k l cap cap' W ∧ LentB W g c k X ∧ LentB W g2 c2 l Y ∧
    At W p #[.int .i64 n, .slice (some ⟨g, 0, none⟩) k c] 24 ∧ At W q #[.int .i64 m, .slice (some ⟨g2, 0, none⟩) l c2] 24
theorem lentTwo_mk {w W : World} {n m : Int} {ao bo : Option Addr} {k l cap cap' : Nat} {X Y : Nat → Nat} {g c g2 c2 p q : Nat} {x y x' y' : Value} (hS : PairS w n m ao bo k l cap cap' W) (h1 : LentB W g c k X) (h2 : LentB W g2 c2 l Y) (ap : At W p #[x, y] 24) (aq : At W q #[x', y'] 24) (hp : w.heap.size + 2 ≤ p) (hq : w.heap.size + 2 ≤ q) (hpq : p ≠ q) :
    LentTwo w n m ao bo k l cap cap' X Y (.pointer (some ⟨p, 0, none⟩)) (.pointer (some ⟨q, 0, none⟩)) ((((W.setCell ⟨p, 0, none⟩ (.int .i64 n)).setCell ⟨p, 1, none⟩ (.slice (some ⟨g, 0, none⟩) k c)).setCell ⟨q, 0, none⟩ (.int .i64 m)).setCell ⟨q, 1, none⟩ (.slice (some ⟨g2, 0, none⟩) l c2)) := by
  have aq' := (aq.other (p := ⟨p, 0, none⟩) (fun e => hpq e.symm) (.int .i64 n)).other (p := ⟨p, 1, none⟩) (fun e => hpq e.symm) (.slice (some ⟨g, 0, none⟩) k c)
  refine ⟨g, c, g2, c2, p, q, rfl, rfl, (hS.put hp _ _).put hq _ _, LentW.put (LentW.put h1 ap _ _) aq' _ _, LentW.put (LentW.put h2 ap _ _) aq' _ _, ?_, aq'.two⟩
  exact (ap.two.other (p := ⟨q, 0, none⟩) hpq _).other (p := ⟨q, 1, none⟩) hpq _
end Go.Proofs.YtmbkcnhkbpaagaaDoor
