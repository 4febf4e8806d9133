/-
  What the walk of quarrylaw08.MarksParts keeps.
-/
import Derived.Test.YthakingpeegagaaDoorCovMath
import Derived.Test.YthakingpeegagaaDoorMJoinA
import Derived.Test.YthakingpeegagaaDoorRowVar
import Derived.Test.YthakingpeegagaaDoorQuoC
import Derived.Test.YthakingpeegagaaDoorMkKind
import Derived.Test.YthakingpeegagaaDoorMkMin
import Derived.Test.YthakingpeegagaaDoorMkIndex
import Derived.Test.YthakingpeegagaaDoorBoolRow
import Derived.Test.YthakingpeegagaaDoorThreeRel
import Derived.Test.YthakingpeegagaaDoorRefQ
import Derived.Test.YthakingpeegagaaDoorRefMin
import Derived.Deep.DeepCutAuto
namespace Go.Proofs.YthakingpeegagaaDoor
open Go.RowKit Go.Shelf

theorem infoY8 : (Tryd.prog.info? 5).map (fun i => (i.zero, i.size, i.bytes)) = some (some (.int .u8 0), 1, 1) := by kernel_rfl
/-- These blocks hold these cells. -/
def AtL (l : List (Nat × Array Value × TypeId)) (W : World) : Prop := ∀ x ∈ l, At W x.1 x.2.1 x.2.2
section
variable {W Z : World} {l : List (Nat × Array Value × TypeId)}
theorem AtL.kept (h : AtL l W) (hb : Below W.heap.size W Z) : AtL l Z := fun x hx => (h x hx).keptAll hb
theorem AtL.get (h : AtL l W) {b : Nat} {cs : Array Value} {t : TypeId} (hx : (b, cs, t) ∈ l) : At W b cs t := h _ hx
theorem AtL.off (h : AtL l W) {p : Addr} (hp : ∀ x ∈ l, x.1 ≠ p.block) (v : Value) : AtL l (W.setCell p v) := fun x hx => (h x hx).other (hp x hx) v
end
/-- A row's answer, as a relation. -/
def RowR (m : Nat) (N : Nat) (G : Nat → Bool) (v : Value) (W : World) : Prop := ∃ g, v = .agg #[.int .i64 (N : Int), .slice (some ⟨g, 0, none⟩) (need N) (need N)] ∧ m ≤ g ∧ At W g (rowCells (need N) (rowOf G N)) 58
theorem rowR_kept {m N : Nat} {G : Nat → Bool} (r : Value) (W W' : World) (h : RowR m N G r W) (hb : Below W.heap.size W W') : RowR m N G r W' := by
  obtain ⟨g, h1, h2, h3⟩ := h
  exact ⟨g, h1, h2, h3.keptAll hb⟩
/-- What lies ahead of the first region. -/
def MpS (w : World) (s : ByteArray) (W : World) : Prop := At W w.heap.size #[.string s] 9 ∧ At W (w.heap.size + 1) #[.bool false] 4 ∧ Below w.heap.size w W ∧ w.heap.size + 2 ≤ W.heap.size
theorem MpS.kept {w W Z : World} {s : ByteArray} (h : MpS w s W) (hb : Below W.heap.size W Z) : MpS w s Z := ⟨h.1.keptAll hb, h.2.1.keptAll hb, h.2.2.1.trans (hb.mono h.2.2.1.size), Nat.le_trans h.2.2.2 hb.size⟩
theorem MpS.put {w W : World} {s : ByteArray} (h : MpS w s W) {b : Nat} (hb : w.heap.size + 2 ≤ b) (i : Nat) (v : Value) : MpS w s (W.setCell ⟨b, i, none⟩ v) :=
  ⟨h.1.other (p := ⟨b, i, none⟩) (by show w.heap.size ≠ b; omega) v, h.2.1.other (p := ⟨b, i, none⟩) (by show w.heap.size + 1 ≠ b; omega) v, h.2.2.1.setCell (p := ⟨b, i, none⟩) (by show w.heap.size ≤ b; omega) v, Nat.le_trans h.2.2.2 (KeepsOthers.setCell W ⟨b, i, none⟩ v).1⟩
/-- The three rows. -/
def MpB (w : World) (s : ByteArray) (b3 b4 b5 g3 g4 g5 : Nat) (W : World) : Prop :=
  RV W b3 g3 s.size (markS s) ∧ RV W b4 g4 s.size (inS s) ∧ RV W b5 g5 s.size (blankS s) ∧ MpS w s W ∧ (w.heap.size + 2 ≤ b3 ∧ w.heap.size + 2 ≤ b4 ∧ w.heap.size + 2 ≤ b5 ∧ w.heap.size + 2 ≤ g3 ∧ w.heap.size + 2 ≤ g4 ∧ w.heap.size + 2 ≤ g5)
section
variable {w W Z : World} {s : ByteArray} {b3 b4 b5 g3 g4 g5 : Nat}
theorem MpB.kept (h : MpB w s b3 b4 b5 g3 g4 g5 W) (hb : Below W.heap.size W Z) : MpB w s b3 b4 b5 g3 g4 g5 Z := ⟨h.1.kept hb, h.2.1.kept hb, h.2.2.1.kept hb, h.2.2.2.1.kept hb, h.2.2.2.2⟩
theorem MpB.lts (h : MpB w s b3 b4 b5 g3 g4 g5 W) : b3 < W.heap.size ∧ b4 < W.heap.size ∧ b5 < W.heap.size ∧ g3 < W.heap.size ∧ g4 < W.heap.size ∧ g5 < W.heap.size ∧ w.heap.size + 1 < W.heap.size := ⟨h.1.1.lt, h.2.1.1.lt, h.2.2.1.1.lt, h.1.2.lt, h.2.1.2.lt, h.2.2.1.2.lt, h.2.2.2.1.2.1.lt⟩
/-- A store beyond all of them. -/
theorem MpB.put (h : MpB w s b3 b4 b5 g3 g4 g5 W) {m b : Nat} (hm : b3 < m ∧ b4 < m ∧ b5 < m ∧ g3 < m ∧ g4 < m ∧ g5 < m ∧ w.heap.size + 1 < m) (hb : m ≤ b) (i : Nat) (v : Value) : MpB w s b3 b4 b5 g3 g4 g5 (W.setCell ⟨b, i, none⟩ v) :=
  ⟨h.1.other (p := ⟨b, i, none⟩) (by show b3 ≠ b; omega) (by show g3 ≠ b; omega) v, h.2.1.other (p := ⟨b, i, none⟩) (by show b4 ≠ b; omega) (by show g4 ≠ b; omega) v, h.2.2.1.other (p := ⟨b, i, none⟩) (by show b5 ≠ b; omega) (by show g5 ≠ b; omega) v, h.2.2.2.1.put (by omega) i v, h.2.2.2.2⟩
theorem MpB.txt (h : MpB w s b3 b4 b5 g3 g4 g5 W) : At W w.heap.size #[.string s] 9 := h.2.2.2.1.1
theorem MpB.b (h : MpB w s b3 b4 b5 g3 g4 g5 W) : Below w.heap.size w W := h.2.2.2.1.2.2.1
end
theorem mpB_fin {w W : World} {s : ByteArray} {b3 b4 b5 g3 g4 g5 : Nat} (hS : MpS w s W) (hm : At W g3 (rowCells (need s.size) (rowOf (markS s) s.size)) 58) (hi : At W g4 (rowCells (need s.size) (rowOf (inS s) s.size)) 58) (hk : At W g5 (rowCells (need s.size) (rowOf (blankS s) s.size)) 58)
    (h3 : At W b3 #[.int .i64 (s.size : Int), .slice (some ⟨g3, 0, none⟩) (need s.size) (need s.size)] 25) (h4 : At W b4 #[.int .i64 (s.size : Int), .slice (some ⟨g4, 0, none⟩) (need s.size) (need s.size)] 25) (h5 : At W b5 #[.int .i64 (s.size : Int), .slice (some ⟨g5, 0, none⟩) (need s.size) (need s.size)] 25)
    (hl : w.heap.size + 2 ≤ b3 ∧ w.heap.size + 2 ≤ b4 ∧ w.heap.size + 2 ≤ b5 ∧ w.heap.size + 2 ≤ g3 ∧ w.heap.size + 2 ≤ g4 ∧ w.heap.size + 2 ≤ g5) : MpB w s b3 b4 b5 g3 g4 g5 W := ⟨⟨h3, hm⟩, ⟨h4, hi⟩, ⟨h5, hk⟩, hS, hl⟩
theorem at_apart8 {W : World} {b c : Nat} {xs ys : Array Value} {t u : TypeId} (h : At W b xs t) (k : At W c ys u) (ht : t ≠ u) : b ≠ c := fun e => by
  subst e
  have : some (Obj.cells xs t) = some (Obj.cells ys u) := h.symm.trans k
  injection this with this
  injection this with _ this
  exact ht this
theorem at_two8 {W : World} {b p : Nat} {cs : Array Value} {t : TypeId} (h : At W b cs t) (hp : b ≠ p) (x y : Value) : At ((W.setCell ⟨p, 0, none⟩ x).setCell ⟨p, 1, none⟩ y) b cs t := (h.other (p := ⟨p, 0, none⟩) hp x).other (p := ⟨p, 1, none⟩) hp y

/-- Between two rounds of the range. -/
def MpI (w : World) (s : ByteArray) (b3 b4 b5 g3 g4 g5 gc : Nat) (r : Nat) (W : World) : Prop := MpB w s b3 b4 b5 g3 g4 g5 W ∧ At W gc (boolCells s.size (covS s r)) 4 ∧ At W (gc + 1) #[.slice (some ⟨gc, 0, none⟩) s.size s.size] 29
theorem RV.free {W Z : World} {b g N B : Nat} {G : Nat → Bool} (h : RV W b g N G) (hb : b < B) (hg : g < B) {row : Option Nat} (hgr : W.grownBy Z row) (hr : ∀ r, row = some r → B ≤ r) : RV Z b g N G := ⟨h.1.free hb hgr hr, h.2.free hg hgr hr⟩
section
variable {w W Z : World} {s : ByteArray} {b3 b4 b5 g3 g4 g5 gc : Nat}
theorem MpB.free {B : Nat} (h : MpB w s b3 b4 b5 g3 g4 g5 W) (hm : b3 < B ∧ b4 < B ∧ b5 < B ∧ g3 < B ∧ g4 < B ∧ g5 < B ∧ w.heap.size + 1 < B) {row : Option Nat} (hgr : W.grownBy Z row) (hr : ∀ r, row = some r → B ≤ r) : MpB w s b3 b4 b5 g3 g4 g5 Z :=
  ⟨h.1.free (by omega) (by omega) hgr hr, h.2.1.free (by omega) (by omega) hgr hr, h.2.2.1.free (by omega) (by omega) hgr hr, ⟨h.2.2.2.1.1.free (by omega) hgr hr, h.2.2.2.1.2.1.free (by omega) hgr hr, below_free h.2.2.2.1.2.2.1 (by omega) h.2.2.2.1.2.2.1.size hgr hr, Nat.le_trans h.2.2.2.1.2.2.2 hgr.size⟩, h.2.2.2.2⟩
theorem mpI_free {B : Nat} (hm : b3 < gc ∧ b4 < gc ∧ b5 < gc ∧ g3 < gc ∧ g4 < gc ∧ g5 < gc ∧ w.heap.size + 1 < gc) (hB : gc + 1 < B) : FreeFrom B (MpI w s b3 b4 b5 g3 g4 g5 gc) := fun t X Z row hs hg hr => by
  obtain ⟨h1, h2, h3⟩ := hs
  exact ⟨h1.free (by omega) hg hr, h2.free (by omega) hg hr, h3.free (by omega) hg hr⟩
theorem mpI_kept {r : Nat} (h : MpI w s b3 b4 b5 g3 g4 g5 gc r W) (hb : Below W.heap.size W Z) : MpI w s b3 b4 b5 g3 g4 g5 gc r Z := ⟨h.1.kept hb, h.2.1.keptAll hb, h.2.2.keptAll hb⟩
end
/-- Within a round: the places from A up to i are covered. -/
def MpJ (w : World) (s : ByteArray) (b3 b4 b5 g3 g4 g5 gc r A C gx : Nat) (W0 w8 : World) (g8 i : Nat) (W : World) : Prop :=
  MpB w s b3 b4 b5 g3 g4 g5 W ∧ At W gc (boolCells s.size (fun k => covS s r k || (decide (A ≤ k) && decide (k < i)))) 4 ∧ At W (gc + 1) #[.slice (some ⟨gc, 0, none⟩) s.size s.size] 29 ∧ At W gx #[.int .i64 (A : Int), .int .i64 (C : Int)] 34 ∧ KeepsOthers W0 W ∧ HeldT w.heap.size (w8.heap.size + 1 + 1) g8 W0 W
theorem mpJ_next {w W W0 w8 : World} {s : ByteArray} {b3 b4 b5 g3 g4 g5 gc r A C gx g8 i : Nat} (h : MpJ w s b3 b4 b5 g3 g4 g5 gc r A C gx W0 w8 g8 i W) (hm : b3 < gc ∧ b4 < gc ∧ b5 < gc ∧ g3 < gc ∧ g4 < gc ∧ g5 < gc ∧ w.heap.size + 1 < gc) (hx : gc + 1 < gx) (h8 : gc < w8.heap.size) (hg : gc + 1 < g8) (hi : A ≤ i) : MpJ w s b3 b4 b5 g3 g4 g5 gc r A C gx W0 w8 g8 (i + 1) (W.setCell ⟨gc, i, none⟩ (.bool true)) := by
  obtain ⟨h1, h2, h3, h4, h5, h6⟩ := h
  refine ⟨h1.put hm (Nat.le_refl _) i _, ?_, h3.other (p := ⟨gc, i, none⟩) (by show gc + 1 ≠ gc; omega) _, h4.other (p := ⟨gc, i, none⟩) (by show gx ≠ gc; omega) _, h5.trans (KeepsOthers.setCell _ _ _), h6.trans (heldT_set _ (by omega) (by omega) (by omega))⟩
  have h := h2.set i (.bool true)
  rw [boolCells_set] at h
  rw [show boolCells s.size (fun k => covS s r k || (decide (A ≤ k) && decide (k < i + 1))) = boolCells s.size (fun k => if k = i then true else (covS s r k || (decide (A ≤ k) && decide (k < i)))) from boolCells_congr (fun k _ => by
    by_cases e : k = i
    · rw [if_pos e, e, decide_eq_true hi, decide_eq_true (by omega : i < i + 1)]; simp
    · rw [if_neg e]
      have : decide (k < i + 1) = decide (k < i) := by congr 1; exact propext ⟨fun _ => by omega, fun _ => by omega⟩
      rw [this])]
  exact h
theorem mpJ_end {w W W0 w8 : World} {s : ByteArray} {b3 b4 b5 g3 g4 g5 gc r A C gx g8 B : Nat} (h : MpJ w s b3 b4 b5 g3 g4 g5 gc r A C gx W0 w8 g8 C W) (hn : ∀ k, covS s (r + 1) k = (covS s r k || (decide (A ≤ k) && decide (k < C)))) : KeepsFrom B W0 W ∧ HeldT w.heap.size (w8.heap.size + 1 + 1) g8 W0 W ∧ MpI w s b3 b4 b5 g3 g4 g5 gc (r + 1) W := by
  obtain ⟨h1, h2, h3, h4, h5, h6⟩ := h
  refine ⟨h5.from _, h6, h1, ?_, h3⟩
  rw [boolCells_congr (fun k _ => hn k)]
  exact h2

/-- In the loop through the text: i places for the list of places, j for the text without blanks. -/
def MpL (w : World) (s : ByteArray) (b3 b4 b5 g3 g4 g5 gc D : Nat) (W0 : World) (i j : Nat) (v6 v7 : Value) (W : World) : Prop :=
  MpB w s b3 b4 b5 g3 g4 g5 W ∧ At W gc (boolCells s.size (wordS s)) 4 ∧ At W (gc + 1) #[.slice (some ⟨gc, 0, none⟩) s.size s.size] 29 ∧ W.heap[D]? = some (.deferred (some [])) ∧ W0.heap.size ≤ W.heap.size ∧
    W.ownsRow W0.heap.size 3 1 v6 (idxTo s i).length (ints (idxTo s i)) ∧ W.ownsRow W0.heap.size 5 1 v7 (minL s j).length (by8 (minL s j))
section
variable {w W Z W0 : World} {s : ByteArray} {b3 b4 b5 g3 g4 g5 gc D i j : Nat} {v6 v7 : Value}
theorem MpL.kept (h : MpL w s b3 b4 b5 g3 g4 g5 gc D W0 i j v6 v7 W) (hb : Below W.heap.size W Z) : MpL w s b3 b4 b5 g3 g4 g5 gc D W0 i j v6 v7 Z :=
  ⟨h.1.kept hb, h.2.1.keptAll hb, h.2.2.1.keptAll hb, (hb.block D (Array.getElem?_eq_some_iff.1 h.2.2.2.1).1).trans h.2.2.2.1, Nat.le_trans h.2.2.2.2.1 hb.size, row_keptAll h.2.2.2.2.2.1 hb, row_keptAll h.2.2.2.2.2.2 hb⟩
/-- Rows of two kinds lie apart. -/
theorem rows_apart8 {B n m : Nat} {e f : TypeId} {v u : Value} {xs ys : List Value} (h : W.ownsRow B e 1 v n xs) (k : W.ownsRow B f 1 u m ys) (hef : e ≠ f) : u.ownBlock = none ∨ u.ownBlock ≠ v.ownBlock := by
  rcases k.2 with ⟨rfl, _⟩ | ⟨g, cap, cur, rfl, _, hg, _⟩
  · exact .inl rfl
  · refine .inr fun e1 => ?_
    rcases h.2 with ⟨rfl, _⟩ | ⟨g', cap', cur', rfl, _, hg', _⟩
    · cases e1
    · have : g = g' := by simpa [Value.ownBlock] using e1
      subst this
      rw [hg] at hg'
      injection hg' with hg'
      injection hg' with _ hg'
      exact hef hg'.symm
theorem mpL_grow (h : MpL w s b3 b4 b5 g3 g4 g5 gc D W0 i j v6 v7 W) (hl : b3 < W0.heap.size ∧ b4 < W0.heap.size ∧ b5 < W0.heap.size ∧ g3 < W0.heap.size ∧ g4 < W0.heap.size ∧ g5 < W0.heap.size ∧ w.heap.size + 1 < W0.heap.size) (hc : gc + 1 < W0.heap.size) {o : Obj} {row : Option Nat} (hg : (W.alloc o).grownBy Z row) (hr : ∀ r, row = some r → W0.heap.size ≤ r ∧ ∃ cs t, W.heap[r]? = some (.cells cs t (0, 0))) :
    MpB w s b3 b4 b5 g3 g4 g5 Z ∧ At Z gc (boolCells s.size (wordS s)) 4 ∧ At Z (gc + 1) #[.slice (some ⟨gc, 0, none⟩) s.size s.size] 29 ∧ Z.heap[D]? = some (.deferred (some [])) ∧ W0.heap.size ≤ Z.heap.size := by
  have hb : Below W.heap.size W (W.alloc o) := (Below.refl _ _).alloc (Nat.le_refl _) _
  have hr' : ∀ r, row = some r → W0.heap.size ≤ r := fun r e => (hr r e).1
  have k := h.kept hb
  refine ⟨k.1.free hl hg hr', k.2.1.free (by omega) hg hr', k.2.2.1.free hc hg hr', ?_, Nat.le_trans k.2.2.2.2.1 hg.size⟩
  refine (hg.block D (Array.getElem?_eq_some_iff.1 k.2.2.2.1).1 (fun e => ?_)).trans k.2.2.2.1
  obtain ⟨_, cs, t, hcs⟩ := hr D e.symm
  rw [h.2.2.2.1] at hcs
  cases hcs
theorem own_cells {B n : Nat} {e : TypeId} {v : Value} {xs : List Value} (h : W.ownsRow B e 1 v n xs) : ∀ r, v.ownBlock = some r → B ≤ r ∧ ∃ cs t, W.heap[r]? = some (.cells cs t (0, 0)) := fun r hr => by
  refine ⟨(h.lt r hr).1, ?_⟩
  rcases h.2 with ⟨rfl, _⟩ | ⟨g, cap, cur, rfl, _, hg, _⟩
  · cases hr
  · have : g = r := by simpa [Value.ownBlock] using hr
    subst this
    exact ⟨cur, e, hg⟩
end

theorem row_off {W : World} {B n : Nat} {e : TypeId} {v : Value} {xs : List Value} (h : W.ownsRow B e 1 v n xs) {p : Addr} (hp : p.block < B) (x : Value) : (W.setCell p x).ownsRow B e 1 v n xs := by
  refine ⟨h.1, ?_⟩
  rcases h.2 with h2 | ⟨g, cap, cur, rfl, hb, hg, h3⟩
  · exact .inl h2
  · exact .inr ⟨g, cap, cur, rfl, hb, (Below.heap_setCell W p x g (by omega)).trans hg, h3⟩
/-- What the last region needs. -/
def MpZ (w : World) (s : ByteArray) (D : Nat) (W0 : World) (v6 v7 : Value) (W : World) : Prop :=
  At W w.heap.size #[.string s] 9 ∧ (∃ b, At W (w.heap.size + 1) #[.bool b] 4) ∧ Below w.heap.size w W ∧ W.heap[D]? = some (.deferred (some [])) ∧ w.heap.size + 1 < W0.heap.size ∧
    W.ownsRow W0.heap.size 3 1 v6 (idxTo s s.size).length (ints (idxTo s s.size)) ∧ W.ownsRow W0.heap.size 5 1 v7 (minL s s.size).length (by8 (minL s s.size))
section
variable {w W Z W0 : World} {s : ByteArray} {D : Nat} {v6 v7 : Value}
theorem MpZ.kept (h : MpZ w s D W0 v6 v7 W) (hb : Below W.heap.size W Z) : MpZ w s D W0 v6 v7 Z :=
  ⟨h.1.keptAll hb, ⟨_, h.2.1.choose_spec.keptAll hb⟩, h.2.2.1.trans (hb.mono h.2.2.1.size), (hb.block D (Array.getElem?_eq_some_iff.1 h.2.2.2.1).1).trans h.2.2.2.1, h.2.2.2.2.1, row_keptAll h.2.2.2.2.2.1 hb, row_keptAll h.2.2.2.2.2.2 hb⟩
theorem MpZ.put (h : MpZ w s D W0 v6 v7 W) (hD : D ≠ w.heap.size + 1) (b : Bool) : MpZ w s D W0 v6 v7 (W.setCell ⟨w.heap.size + 1, 0, none⟩ (.bool b)) :=
  ⟨h.1.other (p := ⟨w.heap.size + 1, 0, none⟩) (by show w.heap.size ≠ w.heap.size + 1; omega) _, ⟨b, by have k := h.2.1.choose_spec.set 0 (.bool b); simpa using k⟩, h.2.2.1.setCell (p := ⟨w.heap.size + 1, 0, none⟩) (by show w.heap.size ≤ w.heap.size + 1; omega) _, (Below.heap_setCell W ⟨w.heap.size + 1, 0, none⟩ _ D hD).trans h.2.2.2.1, h.2.2.2.2.1, row_off h.2.2.2.2.2.1 (p := ⟨w.heap.size + 1, 0, none⟩) h.2.2.2.2.1 _, row_off h.2.2.2.2.2.2 (p := ⟨w.heap.size + 1, 0, none⟩) h.2.2.2.2.1 _⟩
end
end Go.Proofs.YthakingpeegagaaDoor
