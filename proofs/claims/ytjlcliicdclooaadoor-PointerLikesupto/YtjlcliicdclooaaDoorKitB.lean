/-
 HeldKit2, LstKit, AppendApart, one behind the other.
-/
import Derived.Test.YtjlcliicdclooaaDoorPack1
import Derived.Laws.AppendOwn
import Derived.ArgAppend
import Derived.RangeFuncBox
/- A range over an iterator whose caller has a row of its own that grows while the rounds go on: which blocks are not that row is told by a word 'Safe'. -/
namespace Go.Proofs.YtjlcliicdclooaaDoor
open Go.RowKit Go.Shelf
/-- What a round must leave alone: all below n0; of what lies from B on, and of block Bx, what is no cells, and the cells that are safe; they stay safe. -/
def HeldS (Safe : Nat → World → Prop) (n0 B Bx : Nat) (W W' : World) : Prop := Below n0 W W' ∧ W.heap.size ≤ W'.heap.size ∧ (∀ k o, B ≤ k → o.isCells = false → W.heap[k]? = some o → W'.heap[k]? = some o) ∧
 ∀ b cs t, (B ≤ b ∨ b = Bx) → Safe b W → At W b cs t → At W' b cs t ∧ Safe b W'
theorem HeldS.trans {Safe : Nat → World → Prop} {n0 B Bx : Nat} {X Y Z : World} (h : HeldS Safe n0 B Bx X Y) (k : HeldS Safe n0 B Bx Y Z) : HeldS Safe n0 B Bx X Z :=
 ⟨h.1.trans k.1, Nat.le_trans h.2.1 k.2.1, fun i o hi hc ho => k.2.2.1 i o hi hc (h.2.2.1 i o hi hc ho), fun b cs t hb hs ha => let ⟨h1, h2⟩ := h.2.2.2 b cs t hb hs ha; k.2.2.2 b cs t hb h2 h1⟩
theorem HeldS.from {Safe : Nat → World → Prop} {n0 B Bx : Nat} {W W' : World} (h : HeldS Safe n0 B Bx W W') {D : Nat} (hD : B ≤ D) : KeepsFrom D W W' := ⟨h.2.1, fun k o hk ho hc => h.2.2.1 k o (by omega) hc ho⟩
theorem Held.safe {n0 B Bx : Nat} {W W' : World} (h : Held n0 B Bx W W') : HeldS (fun _ _ => True) n0 B Bx W W' := ⟨h.1, h.2.1, fun k o hk _ ho => h.2.2 k o (.inl hk) ho, fun b _ _ hb _ ha => ⟨h.2.2 b _ hb ha, trivial⟩⟩
end Go.Proofs.YtjlcliicdclooaaDoor
/- A list of numbers that a call has made: what is read of it, and what keeps it. -/
namespace Go.Proofs.YtjlcliicdclooaaDoor
open Go.RowKit Go.Shelf
/-- The numbers as cells. -/
def ints (L : List Nat) : List Value := L.map fun p => .int .i64 ((p : Nat) : Int)
/-- The slice v is of just these numbers; they lie in a block from B on and below G. -/
def Lst (W : World) (v : Value) (B G : Nat) (L : List Nat) : Prop :=
 ∃ (ao : Option Addr) (cap : Nat), v = .slice ao L.length cap ∧ ∀ j p, L[j]? = some p → ∃ g, ao = some ⟨g, 0, none⟩ ∧ B ≤ g ∧ g < G ∧ W.cell? ⟨g, j, none⟩ = some (.int .i64 ((p : Nat) : Int))
theorem Lst.of {W W' : World} {v : Value} {B G : Nat} {L : List Nat} (h : Lst W v B G L) (hh : ∀ g, B ≤ g → g < G → (∃ o, W.heap[g]? = some o ∧ o.isCells = true) → W'.heap[g]? = W.heap[g]?) : Lst W' v B G L := by
 obtain ⟨ao, cap, hv, hc⟩ := h
 refine ⟨ao, cap, hv, fun j p hj => ?_⟩
 obtain ⟨g, h1, h2, h3, h4⟩ := hc j p hj
 have hcell : ∃ o, W.heap[g]? = some o ∧ o.isCells = true := by
  unfold World.cell? at h4
  cases ho : W.heap[g]? with
  | none => simp [ho] at h4
  | some o => exact ⟨o, rfl, by cases o <;> simp_all [Obj.isCells]⟩
 refine ⟨g, h1, h2, h3, ?_⟩
 rw [← h4]
 simp only [World.cell?, hh g h2 h3 hcell]
theorem Lst.kept {W W' : World} {v : Value} {B G n : Nat} {L : List Nat} (h : Lst W v B G L) (hb : Below n W W') (hn : G ≤ n) : Lst W' v B G L := h.of fun g _ hg _ => hb.block g (by omega)
theorem Lst.other {W : World} {v : Value} {B G : Nat} {L : List Nat} (h : Lst W v B G L) {b : Nat} (hb : b < B ∨ G ≤ b) (u : Value) : Lst (W.setCell ⟨b, 0, none⟩ u) v B G L :=
 h.of fun g h1 h2 _ => Below.heap_setCell W ⟨b, 0, none⟩ u g (by show g ≠ b; omega)
theorem Lst.own {W W' : World} {v : Value} {B G : Nat} {L : List Nat} (h : Lst W v B G L) (hG : G ≤ W.heap.size) {row : Option Nat} (hg : W.grownBy W' row) (hr : ∀ r, row = some r → ∃ o : Obj, W.heap[r]? = some o ∧ o.isCells = false) : Lst W' v B G L :=
 h.of fun g _ h2 ⟨o, ho, hc⟩ => hg.block g (by omega) (fun e => by
  obtain ⟨o', ho', hc'⟩ := hr g e.symm
  rw [ho] at ho'; cases ho'; rw [hc] at hc'; cases hc')
end Go.Proofs.YtjlcliicdclooaaDoor
/- An append to a row of numbers: its row is the same block, or a new one; in a fence; a variable that gathers numbers while rounds go on. -/
namespace Go.Proofs.YtjlcliicdclooaaDoor
open Go.RowKit Go.Shelf
/-- Variable m's row isn't block b. -/
def SafeI (m b : Nat) (W : World) : Prop := ∃ v, At W m #[v] 115 ∧ v.ownBlock ≠ some b
/-- Variable m gathers these numbers; their row lies from B on. -/
def GathI (W : World) (m B : Nat) (L : List Nat) : Prop := ∃ v, At W m #[v] 115 ∧ W.ownsRow B 3 1 v L.length (ints L)
section
variable {W W' : World} {m B : Nat} {L : List Nat}
theorem rowI_block {v : Value} {n : Nat} {xs : List Value} (h : W.ownsRow B 3 1 v n xs) : v.ownBlock = none ∨ ∃ g cur, v.ownBlock = some g ∧ B ≤ g ∧ W.heap[g]? = some (.cells cur 3 (0, 0)) := by
 rcases h.2 with ⟨rfl, _⟩ | ⟨g, cap, cur, rfl, hb, hgb, _⟩
 ·exact .inl rfl
 ·exact .inr ⟨g, cur, rfl, hb, hgb⟩
theorem GathI.kept (h : GathI W m B L) (hb : Below W.heap.size W W') : GathI W' m B L := by
 obtain ⟨v, h1, h2⟩ := h
 refine ⟨v, h1.keptAll hb, h2.kept (grown_of_below hb) ?_⟩
 rcases rowI_block h2 with e | ⟨g, cur, e, _⟩
 ·exact .inl e
 ·exact .inr (by rw [e]; simp)
theorem GathI.own (h : GathI W m B L) {row : Option Nat} (hg : W.grownBy W' row) (hr : ∀ r, row = some r → ∃ o : Obj, W.heap[r]? = some o ∧ o.isCells = false) : GathI W' m B L := by
 obtain ⟨v, h1, h2⟩ := h
 refine ⟨v, h1.own hg hr, h2.kept hg ?_⟩
 rcases rowI_block h2 with e | ⟨g, cur, e, _, hgb⟩
 ·exact .inl e
 ·refine .inr fun e' => ?_
  obtain ⟨o, ho, hc⟩ := hr g (by rw [← e', e])
  rw [hgb] at ho
  cases ho
  cases hc
/-- New blocks are not the row; nor is one ahead of B. -/
theorem GathI.good (h : GathI W m B L) {g : Nat} (hg : g < B) : (∀ o, SafeI m W.heap.size (W.alloc o)) ∧ SafeI m g W := by
 obtain ⟨v, h1, h2⟩ := h
 refine ⟨fun o => ⟨v, h1.alloc o, fun e => ?_⟩, v, h1, fun e => ?_⟩
 ·have := (h2.lt _ e).2; omega
 ·have := (h2.lt _ e).1; omega
end
end Go.Proofs.YtjlcliicdclooaaDoor
