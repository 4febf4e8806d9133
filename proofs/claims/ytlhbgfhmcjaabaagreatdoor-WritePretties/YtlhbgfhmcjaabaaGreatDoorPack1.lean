/-
  Texts of mine that others lean on, one behind the other.
-/
import Derived.Test.YtlhbgfhmcjaabaaGreatDoorRows
import Derived.WalkKit
import Derived.ProofKit
import Derived.OpenShut
import Derived.ShutString
import Derived.ChangeOld
import Derived.Below
import Derived.Laws.StructEq
import Derived.WalkSpells
import Derived.WalkLawsBesides
import Derived.BigQuiet
import Derived.Deep.QuietTactic
import Derived.Outline
import Derived.Deep.RegionHeld3
import Derived.Deep.RegionWith
import Derived.Deep.MidRow
import Derived.Deep.Quiet
import Derived.BigFrame
import Derived.RangeFuncNested
import Derived.RangeFuncBound
import Derived.RangeFuncCalls
import Derived.RangeFuncLeaves
import Derived.Shelf.Abstract
import Derived.Shelf.RegionOpen
import Derived.OwnWalkIn
import Derived.TacticsInMore
import Derived.LoopNIn
import Derived.LoopIn
import Derived.RangeFuncBox
import Derived.Maps.AppendAt
import Derived.Laws.AppendOwn
import Derived.ArgAppend
import Derived.Lib.Builder
import Derived.Lib.AppendStr
import Derived.Lib.UnsafeStr
import Derived.Laws.Externs
import Derived.Shelf.RegionOpenPlain
import Derived.Lib.TrimByte
/-
 Small helpers for the laws' proofs: an array of integers that comes in by value; bounds of integers; what is kept of the world.
-/
namespace Go.Proofs.YtlhbgfhmcjaabaaGreatDoor
open Go.ChangeShapes Go.WideShapes Go.ChangeAt Go.RowKit
theorem own : ownKnob Tryz.prog.godebug = none := by kernel_rfl
theorem laidOut : laidOutB Tryz.prog = true := by kernel_rfl
section
variable {H : Type} {enc : TypeId × Value → H} {P : Program} {w : World} {base : Nat} {spare : Nat → Bool} {held : Bool}
end
section
variable {P : Program} (w : World)
end
end Go.Proofs.YtlhbgfhmcjaabaaGreatDoor

/-
 At, HidKit, Range, QuietC, SeqKit, HeldKit, RoundKit.
-/
/-
 A block of cells of a world, and what keeps it.
-/
namespace Go.Proofs.YtlhbgfhmcjaabaaGreatDoor
open Go.RowKit
/-- Block b of the world holds just these cells, none of them frozen. -/
def At (w : World) (b : Nat) (cs : Array Value) (t : TypeId) : Prop := w.heap[b]? = some (.cells cs t)
section
variable {w w' : World} {b : Nat} {cs : Array Value} {t : TypeId}
theorem At.lt (h : At w b cs t) : b < w.heap.size := (Array.getElem?_eq_some_iff.1 h).1
theorem At.new (w : World) (cs : Array Value) (t : TypeId) : At (w.alloc (.cells cs t)) w.heap.size cs t := by
 show (w.heap.push _)[_]? = _
 simp
theorem At.kept {n : Nat} (h : At w b cs t) (hb : Below n w w') (hn : b < n) : At w' b cs t := (hb.block b hn).trans h
theorem At.keptAll (h : At w b cs t) (hb : Below w.heap.size w w') : At w' b cs t := h.kept hb h.lt
theorem At.alloc (h : At w b cs t) (o : Obj) : At (w.alloc o) b cs t := (Below.heap_alloc w o b h.lt).trans h
theorem At.drew (h : At w b cs t) : At w.drew b cs t := h
theorem At.drewN (h : At w b cs t) (n : Nat) : At (w.drewN n) b cs t := h
theorem At.other (h : At w b cs t) {p : Addr} (hp : b ≠ p.block) (v : Value) : At (w.setCell p v) b cs t := (Below.heap_setCell w p v b hp).trans h
theorem At.set (h : At w b cs t) (i : Nat) (v : Value) : At (w.setCell ⟨b, i, none⟩ v) b (cs.setIfInBounds i v) t := by
 unfold At at *
 simp only [World.setCell, Array.getElem?_modify, if_true, h, Option.map_some]
 rfl
theorem At.cell (h : At w b cs t) (i : Nat) : w.cell? ⟨b, i, none⟩ = cs[i]? := by
 unfold At at h
 simp [World.cell?, h]
theorem At.frozen (h : At w b cs t) (i : Nat) : w.frozen? ⟨b, i, none⟩ = false := by
 unfold At at h
 simp [World.frozen?, h]
end
end Go.Proofs.YtlhbgfhmcjaabaaGreatDoor
/-
 A fact is laid aside.
-/
namespace Go.Proofs.YtlhbgfhmcjaabaaGreatDoor
open Go.RowKit
theorem hid {p : Prop} (h : p) : Hid p := h
end Go.Proofs.YtlhbgfhmcjaabaaGreatDoor
/-
 Ranges of cells that a world holds, and what keeps them.
-/
namespace Go.Proofs.YtlhbgfhmcjaabaaGreatDoor
open Go.RowKit
theorem At.range {w : World} {b : Nat} {cs : Array Value} {t : TypeId} (h : At w b cs t) {L : List Value} (hL : L.toArray = cs) : w.rangeAt b 0 L := fun j v hv => by
 rw [Nat.zero_add, h.cell j, ← hL]
 simpa using hv
theorem At.there {w : World} {b : Nat} {cs : Array Value} {t : TypeId} (h : At w b cs t) (n : Nat) (hn : cs.size = n) : w.there b 0 n := fun j hj => by
 rw [Nat.zero_add]
 refine ⟨?_, h.frozen j⟩
 rw [h.cell j, Array.getElem?_eq_getElem (by omega)]; rfl
end Go.Proofs.YtlhbgfhmcjaabaaGreatDoor
/-
 A region that draws its order, walked once in the text's order, in a class of worlds of one's own.
-/
namespace Go.Proofs.YtlhbgfhmcjaabaaGreatDoor
open Go.RowKit
section
variable {P : Program} {ops : Array Oper} {C : World → Prop} {Q : Act → Prop}
theorem wpQuiet_take {a : Act} {o : Oper} {rest : List Oper} {v : Value} (hw : Region.wanted o (yielded ops a.tmps) = true) (hy : ∀ w, C w → o.quietAt P a C w v) (h : wpQuiet P ops C Q rest (a.put o.dst v)) : wpQuiet P ops C Q (o :: rest) a := by
 unfold wpQuiet
 rw [if_pos hw]
 exact ⟨v, hy, h⟩
theorem wpQuiet_skip {a : Act} {o : Oper} {rest : List Oper} (hw : Region.wanted o (yielded ops a.tmps) = false) (h : wpQuiet P ops C Q rest (a.put o.dst undef)) : wpQuiet P ops C Q (o :: rest) a := by
 unfold wpQuiet
 rw [if_neg (by rw [hw]; decide)]
 exact h
/-- The load of a long array. -/
theorem wpQuiet_load {a : Act} {o : Oper} {rest : List Oper} (ty : TypeId) (x : Operand) (b off : Nat) (cs : List Value) (d : TypeDesc) (hS : ∀ w, C w → w.rangeAt b off cs) (hu : P.underlying ty = some d) (hi : (P.info? ty).map (·.size) = some cs.length) (hd : d.isRow = true)
  (ho : o.op = .load ty x) (hx : a.eval x = .pointer (some ⟨b, off, none⟩)) (hw : Region.wanted o (yielded ops a.tmps) = true) (h : wpQuiet P ops C Q rest (a.put o.dst (.agg cs.toArray))) : wpQuiet P ops C Q (o :: rest) a := by
 refine wpQuiet_take hw (fun w hw' => ?_) h
 unfold Oper.quietAt execOp
 simp only [ho, hx, Instr.loadAt, Instr.sureAddr, Sem.run_bind, Sem.run_pure, Result.andThen_ok, run_loadVar_mid w b off ty cs d (hS w hw') hu hd hi]
 exact ⟨rfl, rfl⟩
end
section
variable {P : Program} {ops : Array Oper} {rest : List Oper} {op : Oper} {a : Act} {w : World} {Q : Exit → Act → World → Prop}
/-- A long array is loaded, in a plain region, guarded or not. -/
theorem wpList_load_want (ty : TypeId) (x : Operand) (b o : Nat) (cs : List Value) (d : TypeDesc) (hc : w.rangeAt b o cs) (hu : P.underlying ty = some d) (hi : (P.info? ty).map (·.size) = some cs.length) (hd : d.isRow = true)
  (ho : op.op = .load ty x) (hx : a.eval x = .pointer (some ⟨b, o, none⟩)) (hw : Region.wanted op (yielded ops a.tmps) = true) (h : wpList P ops Q rest (a.put op.dst (.agg cs.toArray)) w) : wpList P ops Q (op :: rest) a w :=
 BigFrame.wpList_want hw fun _ hK => wp_load_mid ty x ho b o hx cs d hc hu hd hi (hK _ _ h)
end
end Go.Proofs.YtlhbgfhmcjaabaaGreatDoor
/-
 Long arrays inside a fence, and what an iterator's caller keeps.
-/
namespace Go.Proofs.YtlhbgfhmcjaabaaGreatDoor
open Go.RowKit Go.Shelf
section
variable {F : Fence} {n : Nat} {P : Program} {ops : Array Oper} {rest : List Oper} {op : Oper} {a : Act} {w : World} {Q : Exit → Act → World → Prop}
end
/-- What was there is as it was, all of it. -/
theorem grown_of_below {w w' : World} (h : Below w.heap.size w w') : w.grownBy w' none := ⟨h.os, h.tape, h.output, h.size, fun k hk _ => h.block k hk⟩
theorem At.own {w w' : World} {b : Nat} {cs : Array Value} {t : TypeId} (h : At w b cs t) {row : Option Nat} (hg : w.grownBy w' row) (hr : ∀ r, row = some r → ∃ o : Obj, w.heap[r]? = some o ∧ o.isCells = false) : At w' b cs t := by
 refine (hg.block b h.lt (fun e => ?_)).trans h
 obtain ⟨o, ho, hc⟩ := hr b e.symm
 have hh : w.heap[b]? = some (.cells cs t) := h
 rw [hh] at ho
 cases ho
 cases hc
end Go.Proofs.YtlhbgfhmcjaabaaGreatDoor
/-
 A range over an iterator that itself ranges over another one and calls its yield in those rounds: the rounds of the outer loop must leave alone what the iterator has laid since it was called, its own loop's record too. The library's laws ask of the relation that a round keeps (Kp) that it abide a turn of ANY record from the loop's on; here it is asked to abide a turn of the loop's own record alone.
-/
namespace Go.Proofs.YtlhbgfhmcjaabaaGreatDoor
open Go.RowKit Go.Shelf
section
variable {P : Program}
/-- The two blocks that a loop lays: where deferred calls are gathered, and its record. -/
def Book (D : Nat) (r : Loop) (W : World) : Prop := W.heap[D + 1]? = some (.loop r) ∧ W.heap[D]? = some (.deferred (some []))
theorem Book.keeps {D : Nat} {r : Loop} {W W' : World} (h : Book D r W) (hk : KeepsFrom D W W') : Book D r W' := ⟨hk.same _ _ (by omega) h.1 rfl, hk.same _ _ (Nat.le_refl _) h.2 rfl⟩
theorem Book.lt {D : Nat} {r : Loop} {W : World} (h : Book D r W) : D + 1 < W.heap.size := (Array.getElem?_eq_some_iff.1 h.1).1
theorem Book.new (w : World) (r : Loop) : Book w.heap.size r ((w.alloc (.deferred (some []))).alloc (.loop r)) := by
 refine ⟨?_, (Below.heap_alloc _ _ _ (by simp)).trans (World.alloc_heap_new w _)⟩
 have h := World.alloc_heap_new (w.alloc (.deferred (some []))) (.loop r)
 rwa [World.size_alloc] at h
theorem Book.grown {D : Nat} {r : Loop} {X Y : World} {row : Option Nat} (h : Book D r X) (hg : X.grownBy Y row) (hr : ∀ k, row = some k → D + 1 < k) : Book D r Y := by
 have h1 := h.lt
 exact ⟨(hg.block _ h1 (fun e => by have := hr _ e.symm; omega)).trans h.1, (hg.block _ (by omega) (fun e => by have := hr _ e.symm; omega)).trans h.2⟩
section
variable {md : Region.Mode} {ops : Array Oper} {Q : Exit → Act → World → Prop} {l n : Nat}
end
/-- What a round must leave alone: all below n0; the block Bx; all that lies from B on. -/
def Held (n0 B Bx : Nat) (W W' : World) : Prop := Below n0 W W' ∧ W.heap.size ≤ W'.heap.size ∧ ∀ k o, B ≤ k ∨ k = Bx → W.heap[k]? = some o → W'.heap[k]? = some o
theorem Held.refl (n0 B Bx : Nat) (W : World) : Held n0 B Bx W W := ⟨Below.refl _ _, Nat.le_refl _, fun _ _ _ h => h⟩
theorem Held.trans {n0 B Bx : Nat} {X Y Z : World} (h : Held n0 B Bx X Y) (k : Held n0 B Bx Y Z) : Held n0 B Bx X Z :=
 ⟨h.1.trans k.1, Nat.le_trans h.2.1 k.2.1, fun i o hi ho => k.2.2 i o hi (h.2.2 i o hi ho)⟩
theorem Held.below {n0 B Bx : Nat} {W W' : World} (hn : n0 ≤ W.heap.size) (hb : Below W.heap.size W W') : Held n0 B Bx W W' :=
 ⟨hb.mono hn, hb.size, fun k _ _ ho => (hb.block k (Array.getElem?_eq_some_iff.1 ho).1).trans ho⟩
theorem Held.setCell {n0 B Bx b : Nat} (W : World) (v : Value) (h1 : n0 ≤ b) (h2 : b < B) (h3 : b ≠ Bx) : Held n0 B Bx W (W.setCell ⟨b, 0, none⟩ v) :=
 ⟨(Below.refl _ _).setCell (p := ⟨b, 0, none⟩) h1 v, by simp, fun k _ hk ho => (Below.heap_setCell W ⟨b, 0, none⟩ v k (by show k ≠ b; omega)).trans ho⟩
theorem Held.drew {n0 B Bx : Nat} (W : World) : Held n0 B Bx W W.drew := ⟨(Below.refl _ _).drew, Nat.le_refl _, fun _ _ _ h => h⟩
theorem Held.at {n0 B Bx : Nat} {W W' : World} (h : Held n0 B Bx W W') {b : Nat} {cs : Array Value} {t : TypeId} (ha : At W b cs t) (hb : B ≤ b ∨ b = Bx) : At W' b cs t := h.2.2 b _ hb ha
theorem Held.from {n0 B Bx : Nat} {W W' : World} (h : Held n0 B Bx W W') {D : Nat} (hD : B ≤ D) : KeepsFrom D W W' := ⟨h.2.1, fun k o hk ho _ => h.2.2 k o (.inl (by omega)) ho⟩
end
end Go.Proofs.YtlhbgfhmcjaabaaGreatDoor
/-
 A region that draws its order, inside a round of a range over a function.
-/
namespace Go.Proofs.YtlhbgfhmcjaabaaGreatDoor
open Go.RowKit Go.Shelf
section
variable {P : Program} {md : Region.Mode} {ops : Array Oper} {Q : Exit → Act → World → Prop} {l n : Nat}
end
end Go.Proofs.YtlhbgfhmcjaabaaGreatDoor

/-
 HeldKit2, LstKit, AppendApart, one behind the other.
-/
/- A range over an iterator whose caller has a row of its own that grows while the rounds go on: which blocks are not that row is told by a word 'Safe'. -/
namespace Go.Proofs.YtlhbgfhmcjaabaaGreatDoor
open Go.RowKit Go.Shelf
/-- What a round must leave alone: all below n0; of what lies from B on, and of block Bx, what is no cells, and the cells that are safe; they stay safe. -/
def HeldS (Safe : Nat → World → Prop) (n0 B Bx : Nat) (W W' : World) : Prop := Below n0 W W' ∧ W.heap.size ≤ W'.heap.size ∧ (∀ k o, B ≤ k → o.isCells = false → W.heap[k]? = some o → W'.heap[k]? = some o) ∧
 ∀ b cs t, (B ≤ b ∨ b = Bx) → Safe b W → At W b cs t → At W' b cs t ∧ Safe b W'
theorem HeldS.trans {Safe : Nat → World → Prop} {n0 B Bx : Nat} {X Y Z : World} (h : HeldS Safe n0 B Bx X Y) (k : HeldS Safe n0 B Bx Y Z) : HeldS Safe n0 B Bx X Z :=
 ⟨h.1.trans k.1, Nat.le_trans h.2.1 k.2.1, fun i o hi hc ho => k.2.2.1 i o hi hc (h.2.2.1 i o hi hc ho), fun b cs t hb hs ha => let ⟨h1, h2⟩ := h.2.2.2 b cs t hb hs ha; k.2.2.2 b cs t hb h2 h1⟩
theorem HeldS.from {Safe : Nat → World → Prop} {n0 B Bx : Nat} {W W' : World} (h : HeldS Safe n0 B Bx W W') {D : Nat} (hD : B ≤ D) : KeepsFrom D W W' := ⟨h.2.1, fun k o hk ho hc => h.2.2.1 k o (by omega) hc ho⟩
theorem Held.safe {n0 B Bx : Nat} {W W' : World} (h : Held n0 B Bx W W') : HeldS (fun _ _ => True) n0 B Bx W W' := ⟨h.1, h.2.1, fun k o hk _ ho => h.2.2 k o (.inl hk) ho, fun b _ _ hb _ ha => ⟨h.2.2 b _ hb ha, trivial⟩⟩
end Go.Proofs.YtlhbgfhmcjaabaaGreatDoor
/- A list of numbers that a call has made: what is read of it, and what keeps it. -/
namespace Go.Proofs.YtlhbgfhmcjaabaaGreatDoor
open Go.RowKit Go.Shelf
/-- The numbers as cells. -/
def ints (L : List Nat) : List Value := L.map fun p => .int .i64 ((p : Nat) : Int)
/-- The slice v is of just these numbers; they lie in a block from B on and below G. -/
def Lst (W : World) (v : Value) (B G : Nat) (L : List Nat) : Prop :=
 ∃ (ao : Option Addr) (cap : Nat), v = .slice ao L.length cap ∧ ∀ j p, L[j]? = some p → ∃ g, ao = some ⟨g, 0, none⟩ ∧ B ≤ g ∧ g < G ∧ W.cell? ⟨g, j, none⟩ = some (.int .i64 ((p : Nat) : Int))
theorem Lst.of {W W' : World} {v : Value} {B G : Nat} {L : List Nat} (h : Lst W v B G L) (hh : ∀ g, B ≤ g → g < G → (∃ o, W.heap[g]? = some o ∧ o.isCells = true) → W'.heap[g]? = W.heap[g]?) : Lst W' v B G L := by
 obtain ⟨ao, cap, hv, hc⟩ := h
 refine ⟨ao, cap, hv, fun j p hj => ?_⟩
 obtain ⟨g, h1, h2, h3, h4⟩ := hc j p hj
 have hcell : ∃ o, W.heap[g]? = some o ∧ o.isCells = true := by
  unfold World.cell? at h4
  cases ho : W.heap[g]? with
  | none => simp [ho] at h4
  | some o => exact ⟨o, rfl, by cases o <;> simp_all [Obj.isCells]⟩
 refine ⟨g, h1, h2, h3, ?_⟩
 rw [← h4]
 simp only [World.cell?, hh g h2 h3 hcell]
theorem Lst.kept {W W' : World} {v : Value} {B G n : Nat} {L : List Nat} (h : Lst W v B G L) (hb : Below n W W') (hn : G ≤ n) : Lst W' v B G L := h.of fun g _ hg _ => hb.block g (by omega)
theorem Lst.other {W : World} {v : Value} {B G : Nat} {L : List Nat} (h : Lst W v B G L) {b : Nat} (hb : b < B ∨ G ≤ b) (u : Value) : Lst (W.setCell ⟨b, 0, none⟩ u) v B G L :=
 h.of fun g h1 h2 _ => Below.heap_setCell W ⟨b, 0, none⟩ u g (by show g ≠ b; omega)
theorem Lst.own {W W' : World} {v : Value} {B G : Nat} {L : List Nat} (h : Lst W v B G L) (hG : G ≤ W.heap.size) {row : Option Nat} (hg : W.grownBy W' row) (hr : ∀ r, row = some r → ∃ o : Obj, W.heap[r]? = some o ∧ o.isCells = false) : Lst W' v B G L :=
 h.of fun g _ h2 ⟨o, ho, hc⟩ => hg.block g (by omega) (fun e => by
  obtain ⟨o', ho', hc'⟩ := hr g e.symm
  rw [ho] at ho'; cases ho'; rw [hc] at hc'; cases hc')
end Go.Proofs.YtlhbgfhmcjaabaaGreatDoor
/- An append to a row of numbers: its row is the same block, or a new one; in a fence; a variable that gathers numbers while rounds go on. -/
namespace Go.Proofs.YtlhbgfhmcjaabaaGreatDoor
open Go.RowKit Go.Shelf
/-- Variable m's row isn't block b. -/
def SafeI (m b : Nat) (W : World) : Prop := ∃ v, At W m #[v] 85 ∧ v.ownBlock ≠ some b
/-- Variable m gathers these numbers; their row lies from B on. -/
def GathI (W : World) (m B : Nat) (L : List Nat) : Prop := ∃ v, At W m #[v] 85 ∧ W.ownsRow B 3 1 v L.length (ints L)
section
variable {W W' : World} {m B : Nat} {L : List Nat}
theorem rowI_block {v : Value} {n : Nat} {xs : List Value} (h : W.ownsRow B 3 1 v n xs) : v.ownBlock = none ∨ ∃ g cur, v.ownBlock = some g ∧ B ≤ g ∧ W.heap[g]? = some (.cells cur 3 (0, 0)) := by
 rcases h.2 with ⟨rfl, _⟩ | ⟨g, cap, cur, rfl, hb, hgb, _⟩
 ·exact .inl rfl
 ·exact .inr ⟨g, cur, rfl, hb, hgb⟩
theorem GathI.kept (h : GathI W m B L) (hb : Below W.heap.size W W') : GathI W' m B L := by
 obtain ⟨v, h1, h2⟩ := h
 refine ⟨v, h1.keptAll hb, h2.kept (grown_of_below hb) ?_⟩
 rcases rowI_block h2 with e | ⟨g, cur, e, _⟩
 ·exact .inl e
 ·exact .inr (by rw [e]; simp)
theorem GathI.own (h : GathI W m B L) {row : Option Nat} (hg : W.grownBy W' row) (hr : ∀ r, row = some r → ∃ o : Obj, W.heap[r]? = some o ∧ o.isCells = false) : GathI W' m B L := by
 obtain ⟨v, h1, h2⟩ := h
 refine ⟨v, h1.own hg hr, h2.kept hg ?_⟩
 rcases rowI_block h2 with e | ⟨g, cur, e, _, hgb⟩
 ·exact .inl e
 ·refine .inr fun e' => ?_
  obtain ⟨o, ho, hc⟩ := hr g (by rw [← e', e])
  rw [hgb] at ho
  cases ho
  cases hc
/-- New blocks are not the row; nor is one ahead of B. -/
theorem GathI.good (h : GathI W m B L) {g : Nat} (hg : g < B) : (∀ o, SafeI m W.heap.size (W.alloc o)) ∧ SafeI m g W := by
 obtain ⟨v, h1, h2⟩ := h
 refine ⟨fun o => ⟨v, h1.alloc o, fun e => ?_⟩, v, h1, fun e => ?_⟩
 ·have := (h2.lt _ e).2; omega
 ·have := (h2.lt _ e).1; omega
end
end Go.Proofs.YtlhbgfhmcjaabaaGreatDoor

/-
 strings.Builder, as package marks takes it: copyCheck, WriteString, String.
-/
namespace Go.Proofs.YtlhbgfhmcjaabaaGreatDoor
open Go.RowKit Go.Shelf
theorem sizeBd : (Tryz.prog.info? 49).map (·.size) = some 2 := by kernel_rfl
theorem liesBd : liesAt Tryz.prog Tryz.prog.depth 49 (2 / Tryz.prog.cellsOf 49) 0 49 1 = true := by kernel_rfl
theorem infoBy : (Tryz.prog.info? 5).map (fun i => (i.zero, i.size, i.bytes)) = some (some (.int .u8 0), 1, 1) := by kernel_rfl
theorem cellsBy : Tryz.prog.cellsOf 5 = 1 := by kernel_rfl
theorem shapeBd {w : World} {m : Nat} {p v : Value} (h : At w m #[p, v] 49) : w.shape? m = some (49, 2) := by
 have h' : w.heap[m]? = some (.cells #[p, v] 49) := h
 simp [World.shape?, h']
set_option maxRecDepth 100000 in
set_option maxHeartbeats 1000000 in
theorem bcheck_used (m : Nat) (v : Value) (w : World) (h : At w m #[.pointer (some ⟨m, 0, none⟩), v] 49) :
  Calls Tryz.prog 71 #[.pointer (some ⟨m, 0, none⟩)] w fun e w' => e = .returned (.tuple #[]) ∧ w' = w := by
 obtain ⟨j, hj, -⟩ := Option.map_eq_some_iff.1 sizeBd
 have c0 := h.cell 0
 simp only [List.getElem?_toArray, List.getElem?_cons_zero] at c0
 go_enter Tryz.func71, Tryz.ntmps71
 go_wp2
 rw [Lib.run_neq_ptr_same w _ Tryz.underlying46 hj]
 go_wp2
 go_end0
 exact ⟨rfl, rfl⟩
set_option maxRecDepth 100000 in
set_option maxHeartbeats 1000000 in
theorem bcheck_fresh (m : Nat) (v : Value) (w : World) (h : At w m #[.pointer none, v] 49) :
  Calls Tryz.prog 71 #[.pointer (some ⟨m, 0, none⟩)] w fun e w' => e = .returned (.tuple #[]) ∧ w' = w.setCell ⟨m, 0, none⟩ (.pointer (some ⟨m, 0, none⟩)) := by
 obtain ⟨j, hj, hjs⟩ := Option.map_eq_some_iff.1 sizeBd
 have hsh := shapeBd h
 have c0 := h.cell 0
 have f0 := h.frozen 0
 simp only [List.getElem?_toArray, List.getElem?_cons_zero] at c0
 go_enter Tryz.func71, Tryz.ntmps71
 go_wp2
 rw [Lib.run_to_unsafe w ⟨m, 0, none⟩ Tryz.underlying46 Tryz.underlying119 hj (by rw [hjs]; decide) hsh (Nat.zero_lt_succ 1)]
 simp only [Result.andThen]
 rw [Oper.upon_value]
 go_wp2
 rw [run_callFunc_extern Tryz.func92 (by kernel_rfl) (by kernel_rfl) (by kernel_rfl) (e := Extern.AbiNoEscape.same) (by kernel_rfl)]
 rw [Lib.run_noEscape]
 simp only [Result.andThen]
 rw [Oper.upon_value]
 go_wp2
 rw [Lib.run_from_unsafe w ⟨m, 0, none⟩ Tryz.underlying119 Tryz.underlying46 hj hsh liesBd]
 simp only [Result.andThen]
 rw [Oper.upon_value]
 go_wp2
 go_end0
 exact ⟨rfl, rfl⟩
/-- The builder in block m holds these bytes; their row lies from B on. -/
def BdI (W : World) (m B : Nat) (l : List UInt8) : Prop := ∃ p v, At W m #[p, v] 49 ∧ (p = .pointer none ∨ p = .pointer (some ⟨m, 0, none⟩)) ∧ W.ownsRow B 5 1 v l.length (Lib.byteCells l)
/-- Its row isn't block b. -/
def SafeB (m b : Nat) (W : World) : Prop := ∃ p v, At W m #[p, v] 49 ∧ v.ownBlock ≠ some b
section
variable {W W' : World} {m B : Nat} {l : List UInt8}
theorem rowY_block {v : Value} {n : Nat} {xs : List Value} (h : W.ownsRow B 5 1 v n xs) : v.ownBlock = none ∨ ∃ g cur, v.ownBlock = some g ∧ B ≤ g ∧ W.heap[g]? = some (.cells cur 5 (0, 0)) := by
 rcases h.2 with ⟨rfl, _⟩ | ⟨g, cap, cur, rfl, hb, hgb, _⟩
 ·exact .inl rfl
 ·exact .inr ⟨g, cur, rfl, hb, hgb⟩
theorem BdI.kept (h : BdI W m B l) (hb : Below W.heap.size W W') : BdI W' m B l := by
 obtain ⟨p, v, h1, hp, h2⟩ := h
 refine ⟨p, v, h1.keptAll hb, hp, h2.kept (grown_of_below hb) ?_⟩
 rcases rowY_block h2 with e | ⟨g, cur, e, _⟩
 ·exact .inl e
 ·exact .inr (by rw [e]; simp)
theorem BdI.own (h : BdI W m B l) {row : Option Nat} (hg : W.grownBy W' row) (hr : ∀ r, row = some r → ∃ o : Obj, W.heap[r]? = some o ∧ o.isCells = false) : BdI W' m B l := by
 obtain ⟨p, v, h1, hp, h2⟩ := h
 refine ⟨p, v, h1.own hg hr, hp, h2.kept hg ?_⟩
 rcases rowY_block h2 with e | ⟨g, cur, e, _, hgb⟩
 ·exact .inl e
 ·refine .inr fun e' => ?_
  obtain ⟨o, ho, hc⟩ := hr g (by rw [← e', e])
  rw [hgb] at ho
  cases ho
  cases hc
theorem BdI.good (h : BdI W m B l) {g : Nat} (hg : g < B) : (∀ o, SafeB m W.heap.size (W.alloc o)) ∧ SafeB m g W := by
 obtain ⟨p, v, h1, -, h2⟩ := h
 refine ⟨fun o => ⟨p, v, h1.alloc o, fun e => ?_⟩, p, v, h1, fun e => ?_⟩
 ·have := (h2.lt _ e).2; omega
 ·have := (h2.lt _ e).1; omega
theorem BdI.other (h : BdI W m B l) {q : Nat} (hq : q ≠ m) (hqB : q < B) (x : Value) : BdI (W.setCell ⟨q, 0, none⟩ x) m B l := by
 obtain ⟨p, v, h1, hp, h2⟩ := h
 exact ⟨p, v, h1.other (p := ⟨q, 0, none⟩) (fun e => hq e.symm) x, hp, ownsRow_setCell_below h2 (a := ⟨q, 0, none⟩) hqB x⟩
end
/-- What a write does to other blocks. -/
theorem bwrite_core {W w2 : World} {m B n0 Bh g : Nat} {v v' : Value} {n k : Nat} {xs ys : List Value} (hv : At W m #[.pointer (some ⟨m, 0, none⟩), v] 49) (hrow : W.ownsRow B 5 1 v n xs) (hm : m < B) (hn0 : n0 ≤ m) (hBh : m < Bh) (hgm : g ≠ m)
  (hown' : w2.ownsRow B 5 1 v' k ys) (hg : W.grownBy w2 v.ownBlock) (hap : v'.ownBlock = v.ownBlock ∨ ∃ g, v'.ownBlock = some g ∧ W.heap.size ≤ g) :
  At w2 m #[.pointer (some ⟨m, 0, none⟩), v] 49 ∧ At (w2.setCell ⟨m, 1, none⟩ v') m #[.pointer (some ⟨m, 0, none⟩), v'] 49 ∧ (w2.setCell ⟨m, 1, none⟩ v').ownsRow B 5 1 v' k ys ∧ HeldS (SafeB m) n0 Bh g W (w2.setCell ⟨m, 1, none⟩ v') := by
 have hmv : v.ownBlock ≠ some m := fun e => by have := (hrow.lt m e).1; omega
 have hmv' : v'.ownBlock ≠ some m := fun e => by have := (hown'.lt m e).1; omega
 have a1 : At w2 m #[.pointer (some ⟨m, 0, none⟩), v] 49 := (hg.block m hv.lt (fun e => hmv e.symm)).trans hv
 have a2 : At (w2.setCell ⟨m, 1, none⟩ v') m #[.pointer (some ⟨m, 0, none⟩), v'] 49 := by have := a1.set 1 v'; simpa using this
 have hgs := grownBy_setCell' w2 m v'
 have blk : ∀ b, b < W.heap.size → b ≠ m → v.ownBlock ≠ some b → (w2.setCell ⟨m, 1, none⟩ v').heap[b]? = W.heap[b]? := fun b hb hbm hbv =>
  (Below.heap_setCell w2 ⟨m, 1, none⟩ v' b hbm).trans (hg.block b hb (fun e => hbv e.symm))
 have hsz : W.heap.size ≤ (w2.setCell ⟨m, 1, none⟩ v').heap.size := Nat.le_trans hg.size (KeepsOthers.setCell w2 ⟨m, 1, none⟩ v').1
 refine ⟨a1, a2, ownsRow_setCell_below hown' (a := ⟨m, 1, none⟩) hm v', ⟨?_, hsz, fun k o _ hc ho => ?_, fun b cs t hb hs ha => ?_⟩⟩
 ·exact ((Below.refl n0 W).grown hg (by have := hv.lt; omega) (fun b e => by have := (hrow.lt b e).1; omega)).setCell (p := ⟨m, 1, none⟩) hn0 _
 ·have hkl := (Array.getElem?_eq_some_iff.1 ho).1
  rw [blk k hkl (fun e => ?_) (fun e => ?_), ho]
  ·subst e
   have hv' : W.heap[k]? = some (.cells #[.pointer (some ⟨k, 0, none⟩), v] 49) := hv
   rw [ho] at hv'
   cases hv'
   cases hc
  ·rcases rowY_block hrow with e' | ⟨g', cur, e', _, hgb⟩
   ·rw [e'] at e; cases e
   ·rw [e'] at e
    cases e
    rw [ho] at hgb
    cases hgb
    cases hc
 ·obtain ⟨p, u, hu1, hu2⟩ := hs
  have huv : u = v := by
   have h1 : W.heap[m]? = some (.cells #[p, u] 49) := hu1
   have h2 : W.heap[m]? = some (.cells #[.pointer (some ⟨m, 0, none⟩), v] 49) := hv
   rw [h1] at h2
   simp at h2
   exact h2.2
  subst huv
  have hbm : b ≠ m := by rcases hb with h | h <;> omega
  refine ⟨(blk b ha.lt hbm hu2).trans ha, _, v', a2, ?_⟩
  rcases hap with e | ⟨g', e, hle⟩
  ·rw [e]; exact hu2
  ·rw [e]
   intro h
   have := ha.lt
   simp at h
   omega
theorem rowY_slice {W : World} {B n : Nat} {v : Value} {xs : List Value} (h : W.ownsRow B 5 1 v n xs) : ∃ so c, v = .slice so n c := by
 rcases h.2 with ⟨rfl, rfl⟩ | ⟨g, cap, cur, rfl, _⟩
 ·exact ⟨_, _, rfl⟩
 ·exact ⟨_, _, rfl⟩
theorem append_str {w : World} {base n : Nat} {ty : TypeId} {v : Value} {xs : List Value} (hown : w.ownsRow base 5 1 v n xs) (s : ByteArray) (hn : n + s.size ≤ 140737488355328) (hbase : base ≤ w.heap.size) :
  ∃ v' w', (Builtin.append_ #[47, 9] ty #[v, .string s]).run Tryz.prog w = .ok v' w' ∧ w'.ownsRow base 5 1 v' (n + s.size) (xs ++ Lib.strCells s) ∧ w.grownBy w' v.ownBlock ∧ (v'.ownBlock = v.ownBlock ∨ ∃ g, v'.ownBlock = some g ∧ w.heap.size ≤ g) := by
 obtain ⟨i0, hi, hz0, hz1, hz2⟩ := info_parts infoBy
 have hm : n + s.size ≤ maxLen := by unfold maxLen; omega
 obtain ⟨v', w', hr, r1, r2, -⟩ := Lib.run_append_own_string (P := Tryz.prog) w base 47 9 ty 5 i0 Tryz.underlying47 Tryz.underlying9 hi hz0 hz1 hz2 v n xs hown s hm (by omega) hbase
 refine ⟨v', w', hr, r1, r2, ?_⟩
 have new : ∀ {v'' : Value} {w'' : World} {k : Nat} {ys : List Value}, w''.ownsRow w.heap.size 5 1 v'' k ys → v' = v'' → v'.ownBlock = none ∨ ∃ g, v'.ownBlock = some g ∧ w.heap.size ≤ g := by
  rintro v'' w'' k ys ⟨-, ⟨rfl, -⟩ | ⟨g, cap, cur, rfl, hg, -⟩⟩ rfl
  ·exact .inl rfl
  ·exact .inr ⟨g, rfl, hg⟩
 rcases hown.2 with ⟨rfl, rfl⟩ | ⟨g, cap, cur, rfl, hb, hg, hnc, hcm, hcs, htk⟩
 ·obtain ⟨v'', w'', hr2, s1, -, -⟩ := Lib.run_append_own_string (P := Tryz.prog) w w.heap.size 47 9 ty 5 i0 Tryz.underlying47 Tryz.underlying9 hi hz0 hz1 hz2 (.slice none 0 0) 0 [] (World.ownsRow_nil w _ _ _) s hm (by omega) (Nat.le_refl _)
  rw [hr] at hr2
  obtain ⟨rfl, rfl⟩ : v' = v'' ∧ w' = w'' := by simpa using hr2
  exact new s1 rfl
 ·by_cases hgr : n + s.size ≤ cap
  ·have hr2 := Lib.run_append_room_string (P := Tryz.prog) w 47 9 ty 5 i0 Tryz.underlying47 Tryz.underlying9 hi hz1 g n cap cur hg s hgr (by omega)
   rw [hr] at hr2
   obtain ⟨rfl, -⟩ : v' = _ ∧ w' = _ := by simpa using hr2
   exact .inl rfl
  ·have hr2 := Lib.run_append_grow_string (P := Tryz.prog) w 47 9 ty 5 i0 (.int .u8 0) Tryz.underlying47 Tryz.underlying9 hi hz0 ⟨g, 0, none⟩ n cap xs (by rw [hz1]; exact hown.1) (hown.cells (g := g) rfl) s (by omega) (by omega) (by rw [hz2]; have := nextslicecap_le (need := n + s.size) (old := cap) (by omega); omega)
   rw [hr] at hr2
   obtain ⟨rfl, -⟩ : v' = _ ∧ w' = _ := by simpa using hr2
   exact .inr ⟨_, rfl, Nat.le_refl _⟩
theorem wpList_append_str {ops : Array Oper} {rest : List Oper} {o : Oper} {a : Act} {w : World} {Q : Exit → Act → World → Prop} (hgd : o.guard = none) (sl x : Operand)
  (ho : o.op = .call { callee := .builtin .append, args := #[sl, x], argTypes := #[47, 9] }) (base : Nat) (v : Value) (n : Nat) (xs : List Value) (hs : a.eval sl = v) (hown : w.ownsRow base 5 1 v n xs) (s : ByteArray) (hx : a.eval x = .string s)
  (hn : n + s.size ≤ 140737488355328) (hbase : base ≤ w.heap.size)
  (h : ∀ v' w', w'.ownsRow base 5 1 v' (n + s.size) (xs ++ Lib.strCells s) → w.grownBy w' v.ownBlock → (v'.ownBlock = v.ownBlock ∨ ∃ g, v'.ownBlock = some g ∧ w.heap.size ≤ g) → wpList Tryz.prog ops Q rest (a.put o.dst v') w') : wpList Tryz.prog ops Q (o :: rest) a w := by
 refine wpList_plain hgd fun K hK => ?_
 obtain ⟨v', w', hr, h2, h3, h4⟩ := append_str (ty := o.type) hown s hn hbase
 unfold Oper.wp execOp
 simp only [ho, resolve, invoke, builtin, Sem.run_bind, Sem.run_pure, Result.andThen_ok, List.map_toArray, List.map_cons, List.map_nil, hs, hx, hr]
 exact hK _ _ (h v' w' h2 h3 h4)
theorem HeldS.refl_set {m n0 Bh g : Nat} {W : World} {q : Value} (hn0 : n0 ≤ m) (hBh : m < Bh) (hgm : g ≠ m) : HeldS (SafeB m) n0 Bh g W (W.setCell ⟨m, 0, none⟩ q) := by
 refine ⟨(Below.refl n0 W).setCell (p := ⟨m, 0, none⟩) hn0 _, (KeepsOthers.setCell W ⟨m, 0, none⟩ q).1, fun k o hk hc ho => (Below.heap_setCell W ⟨m, 0, none⟩ q k (by show k ≠ m; omega)).trans ho, fun b cs t hb hs ha => ?_⟩
 have hbm : b ≠ m := by rcases hb with h | h <;> omega
 obtain ⟨p', u, hu1, hu2⟩ := hs
 refine ⟨ha.other (p := ⟨m, 0, none⟩) hbm q, q, u, ?_, hu2⟩
 have := hu1.set 0 q
 simpa using this
set_option maxRecDepth 100000 in
set_option maxHeartbeats 2000000 in
theorem bwrite_used (m B : Nat) (v : Value) (l : List UInt8) (s : ByteArray) (hm : m < B) (hn : l.length + s.size ≤ 140737488355328) (w : World) (w0 : World) (h : At w m #[.pointer (some ⟨m, 0, none⟩), v] 49) (hrow : w.ownsRow B 5 1 v l.length (Lib.byteCells l)) (hB : B ≤ w.heap.size)
  (hck : Calls Tryz.prog 71 #[.pointer (some ⟨m, 0, none⟩)] w0 fun e w' => e = .returned (.tuple #[]) ∧ w' = w) (hh : ∀ n0 Bh g, n0 ≤ m → m < Bh → g ≠ m → HeldS (SafeB m) n0 Bh g w0 w) :
  Calls Tryz.prog 47 #[.pointer (some ⟨m, 0, none⟩), .string s] w0 fun e w' => e = .returned (.tuple #[.int .i64 (s.size : Int), .nilIface]) ∧ BdI w' m B (l ++ s.data.toList) ∧ ∀ n0 Bh g, n0 ≤ m → m < Bh → g ≠ m → HeldS (SafeB m) n0 Bh g w0 w' := by
 have hck' := hid hck
 have hh' := hid hh
 have c0 := h.cell 0
 have c1 := h.cell 1
 simp only [List.getElem?_toArray, List.getElem?_cons_zero, List.getElem?_cons_succ] at c0 c1
 have h' := hid h
 have hrow' := hid hrow
 clear hck h hrow hh
 go_enter Tryz.func47, Tryz.ntmps47
 go_wp2_with fail
 refine Calls.mono hck'.out ?_
 rintro e w1 ⟨rfl, hw1⟩
 obtain rfl := hw1.symm
 go_wp2_with (at_builtin; refine wpList_append_str rfl _ _ rfl B v _ _ rfl hrow'.out s rfl hn hB ?_; intro v' w2 hown2 hg hap; obtain ⟨a1, a2, a3, -⟩ := bwrite_core (n0 := m) (Bh := m + 1) (g := m + 1) h'.out hrow'.out hm (Nat.le_refl _) (Nat.lt_succ_self _) (Nat.succ_ne_self _) hown2 hg hap; have a4 := fun n0 Bh g (e1 : n0 ≤ m) (e2 : m < Bh) (e3 : g ≠ m) => (bwrite_core (n0 := n0) (Bh := Bh) (g := g) h'.out hrow'.out hm e1 e2 e3 hown2 hg hap).2.2.2; have d1 := a1.cell 1; have g1 := a1.frozen 1; have d0 := a1.cell 0; simp only [List.getElem?_toArray, List.getElem?_cons_zero, List.getElem?_cons_succ] at d1 d0; have b2 := hid a2; have b3 := hid a3; have b4 := hid a4; obtain ⟨so', c', rfl⟩ := rowY_slice hown2; clear a1 a2 a3 a4 hg hap hown2 c0 c1)
 refine bodyPost_ret (v := .tuple #[.int .i64 (s.size : Int), .nilIface]) (by simp [results, Tryz.results47, go_sem]) rfl ?_
 refine ⟨rfl, ⟨_, _, b2.out, .inr rfl, ?_⟩, fun n0 Bh g e1 e2 e3 => (hh'.out n0 Bh g e1 e2 e3).trans (b4.out n0 Bh g e1 e2 e3)⟩
 have h3 := b3.out
 rw [Lib.strCells_eq, ← Lib.byteCells_append] at h3
 rw [show (l ++ s.data.toList).length = l.length + s.size by rw [List.length_append, Array.length_toList]; rfl]
 exact h3
theorem bwrite_calls (m B : Nat) (l : List UInt8) (s : ByteArray) (hm : m < B) (hn : l.length + s.size ≤ 140737488355328) (w : World) (h : BdI w m B l) (hB : B ≤ w.heap.size) :
  Calls Tryz.prog 47 #[.pointer (some ⟨m, 0, none⟩), .string s] w fun e w' => e = .returned (.tuple #[.int .i64 (s.size : Int), .nilIface]) ∧ BdI w' m B (l ++ s.data.toList) ∧ ∀ n0 Bh g, n0 ≤ m → m < Bh → g ≠ m → HeldS (SafeB m) n0 Bh g w w' := by
 obtain ⟨p, v, h1, rfl | rfl, h2⟩ := h
 ·have a1 : At (w.setCell ⟨m, 0, none⟩ (.pointer (some ⟨m, 0, none⟩))) m #[.pointer (some ⟨m, 0, none⟩), v] 49 := by have := h1.set 0 (.pointer (some ⟨m, 0, none⟩)); simpa using this
  exact bwrite_used m B v l s hm hn _ w a1 (ownsRow_setCell_below h2 (a := ⟨m, 0, none⟩) hm _) (Nat.le_trans hB (KeepsOthers.setCell w ⟨m, 0, none⟩ (.pointer (some ⟨m, 0, none⟩))).1) (bcheck_fresh m v w h1) (fun _ _ _ e1 e2 e3 => HeldS.refl_set e1 e2 e3)
 ·exact bwrite_used m B v l s hm hn w w h1 h2 hB (bcheck_used m v w h1) (fun _ _ _ _ _ _ => ⟨Below.refl _ _, Nat.le_refl _, fun _ _ _ _ h => h, fun _ _ _ _ hs ha => ⟨ha, hs⟩⟩)
theorem freeze_other (w : World) (p : Addr) (n D : Nat) (h : D ≠ p.block) : (w.freeze p n).heap[D]? = w.heap[D]? := by
 unfold World.freeze
 split
 ·rfl
 ·simp [Array.getElem?_modify, Ne.symm h]
set_option maxRecDepth 100000 in
set_option maxHeartbeats 2000000 in
theorem bstring_nil (m n0 : Nat) (p : Value) (w : World) (h : At w m #[p, .slice none 0 0] 49) :
  Calls Tryz.prog 33 #[.pointer (some ⟨m, 0, none⟩)] w fun e w' => e = .returned (.string ⟨#[]⟩) ∧ Below n0 w w' ∧ ∀ (D : Nat) (o : Obj), o.isCells = false → w.heap[D]? = some o → w'.heap[D]? = some o := by
 have hUS := fun (W : World) (q : Option Addr) => Lib.run_unsafeString_none (P := Tryz.prog) W 82 3 9 q
 have c1 : w.cell? ⟨m, 1, none⟩ = some (.slice none 0 0) := h.cell 1
 have c1' : w.drew.cell? ⟨m, 1, none⟩ = some (.slice none 0 0) := c1
 have hSD : (Builtin.unsafeSliceData_ #[47] 82 #[.slice none 0 0]).run Tryz.prog w.drew = .ok (.pointer none) w.drew := rfl
 go_enter Tryz.func33, Tryz.ntmps33
 go_wp2
 go_region
 all_goals (go_wp2; go_ret; exact ⟨rfl, Below.drew (Below.refl n0 w), fun _ _ _ h => h⟩)
set_option maxRecDepth 100000 in
set_option maxHeartbeats 2000000 in
theorem bstring_room (m n0 g cap : Nat) (p : Value) (hc0 : cap ≠ 0) (w : World) (h : At w m #[p, .slice (some ⟨g, 0, none⟩) 0 cap] 49) :
  Calls Tryz.prog 33 #[.pointer (some ⟨m, 0, none⟩)] w fun e w' => e = .returned (.string ⟨#[]⟩) ∧ Below n0 w w' ∧ ∀ (D : Nat) (o : Obj), o.isCells = false → w.heap[D]? = some o → w'.heap[D]? = some o := by
 have hUS := fun (W : World) (q : Option Addr) => Lib.run_unsafeString_none (P := Tryz.prog) W 82 3 9 q
 have c1 : w.cell? ⟨m, 1, none⟩ = some (.slice (some ⟨g, 0, none⟩) 0 cap) := h.cell 1
 have c1' : w.drew.cell? ⟨m, 1, none⟩ = some (.slice (some ⟨g, 0, none⟩) 0 cap) := c1
 have hSD : (Builtin.unsafeSliceData_ #[47] 82 #[.slice (some ⟨g, 0, none⟩) 0 cap]).run Tryz.prog w.drew = .ok (.pointer (some ⟨g, 0, none⟩)) w.drew := Lib.run_unsafeSliceData_row _ _ _ _ _ _ hc0
 clear hc0
 go_enter Tryz.func33, Tryz.ntmps33
 go_wp2
 go_region
 all_goals (go_wp2; go_ret; exact ⟨rfl, Below.drew (Below.refl n0 w), fun _ _ _ h => h⟩)
set_option maxRecDepth 100000 in
set_option maxHeartbeats 2000000 in
theorem bstring_noroom (m n0 g : Nat) (p : Value) (cur : Array Value) (w : World) (hB : n0 ≤ w.heap.size) (h : At w m #[p, .slice (some ⟨g, 0, none⟩) 0 0] 49) (hg : w.heap[g]? = some (.cells cur 5 (0, 0))) :
  Calls Tryz.prog 33 #[.pointer (some ⟨m, 0, none⟩)] w fun e w' => e = .returned (.string ⟨#[]⟩) ∧ Below n0 w w' ∧ ∀ (D : Nat) (o : Obj), o.isCells = false → w.heap[D]? = some o → w'.heap[D]? = some o := by
 have hUS := fun (W : World) (q : Option Addr) => Lib.run_unsafeString_none (P := Tryz.prog) W 82 3 9 q
 have hlt := h.lt
 have c1 : w.cell? ⟨m, 1, none⟩ = some (.slice (some ⟨g, 0, none⟩) 0 0) := h.cell 1
 have c1' : w.drew.cell? ⟨m, 1, none⟩ = some (.slice (some ⟨g, 0, none⟩) 0 0) := c1
 have hSD : (Builtin.unsafeSliceData_ #[47] 82 #[.slice (some ⟨g, 0, none⟩) 0 0]).run Tryz.prog w.drew = .ok (.pointer (some ⟨w.drew.heap.size, 0, none⟩)) (w.drew.alloc (.view ⟨g, 0, none⟩ 5)) :=
  Lib.run_unsafeSliceData_zero w.drew _ _ 5 Tryz.underlying82 ⟨g, 0, none⟩ 0 (5, cur.size) (by have hg' : w.drew.heap[g]? = some (.cells cur 5 (0, 0)) := hg; simp [World.shape?, hg'])
 have c2 : (w.drew.alloc (.view ⟨g, 0, none⟩ 5)).cell? ⟨m, 1, none⟩ = some (.slice (some ⟨g, 0, none⟩) 0 0) := (h.drew.alloc (.view ⟨g, 0, none⟩ 5)).cell 1
 have c3 : (w.alloc (.view ⟨g, 0, none⟩ 5)).drew.cell? ⟨m, 1, none⟩ = some (.slice (some ⟨g, 0, none⟩) 0 0) := c2
 clear h hg
 go_enter Tryz.func33, Tryz.ntmps33
 go_wp2
 go_region
 all_goals (go_wp2; go_ret; exact ⟨rfl, (Below.drew (Below.refl n0 w)).alloc hB _, fun D o _ h => (Below.heap_alloc w.drew _ D (Array.getElem?_eq_some_iff.1 h).1).trans h⟩)
set_option maxRecDepth 100000 in
set_option maxHeartbeats 2000000 in
theorem bstring_some (m B n0 : Nat) (p v : Value) (l : List UInt8) (h0 : l ≠ []) (w : World) (h : At w m #[p, v] 49) (hown : w.ownsRow B 5 1 v l.length (Lib.byteCells l)) (hn0 : n0 ≤ B) :
  Calls Tryz.prog 33 #[.pointer (some ⟨m, 0, none⟩)] w fun e w' => e = .returned (.string ⟨l.toArray⟩) ∧ Below n0 w w' ∧ ∀ (D : Nat) (o : Obj), o.isCells = false → w.heap[D]? = some o → w'.heap[D]? = some o := by
 have hl0 : l.length ≠ 0 := by simpa using h0
 obtain ⟨g, cap, cur, rfl, hbg, hg, hnc, hcm, hcs, htake⟩ : ∃ g cap cur, v = .slice (some ⟨g, 0, none⟩) l.length cap ∧ B ≤ g ∧ w.heap[g]? = some (.cells cur 5 (0, 0)) ∧ l.length ≤ cap ∧ cap ≤ maxLen ∧ cur.size = cap * 1 ∧ cur.toList.take (l.length * 1) = Lib.byteCells l := by
  rcases hown.2 with ⟨_, hz⟩ | ⟨g, cap, cur, hv, r⟩
  ·exact absurd hz hl0
  ·exact ⟨g, cap, cur, hv, r⟩
 have c1 : w.cell? ⟨m, 1, none⟩ = some (.slice (some ⟨g, 0, none⟩) l.length cap) := h.cell 1
 have c1' : w.drew.cell? ⟨m, 1, none⟩ = some (.slice (some ⟨g, 0, none⟩) l.length cap) := c1
 have hSD : (Builtin.unsafeSliceData_ #[47] 82 #[.slice (some ⟨g, 0, none⟩) l.length cap]).run Tryz.prog w.drew = .ok (.pointer (some ⟨g, 0, none⟩)) w.drew := Lib.run_unsafeSliceData_row _ _ _ _ _ _ (by omega)
 have hUS : (Builtin.unsafeString_ #[82, 3] 9 #[.pointer (some ⟨g, 0, none⟩), .int .i64 l.length]).run Tryz.prog w.drew = .ok (.string ⟨l.toArray⟩) (w.drew.freeze ⟨g, 0, none⟩ l.length) := by
  refine Lib.run_unsafeString_row w.drew 82 3 9 5 Tryz.underlying82 cellsBy g cur.size (by have hg' : w.drew.heap[g]? = some (.cells cur 5 (0, 0)) := hg; simp [World.shape?, hg']) l h0 (by omega) (by unfold maxLen at hcm; omega) ?_
  intro j x hx
  exact hown.cells (g := g) rfl j (.int .u8 x.toNat) (by simp [Lib.byteCells, hx])
 have hgn : n0 ≤ g := Nat.le_trans hn0 hbg
 have hg' := hg
 clear h hown hg hcs htake h0 hl0
 go_enter Tryz.func33, Tryz.ntmps33
 go_wp2
 go_region
 all_goals (go_wp2; go_ret; exact ⟨rfl, Lib.below_freeze (Below.drew (Below.refl n0 w)) (p := ⟨g, 0, none⟩) hgn _, fun D o hc h => (freeze_other w.drew ⟨g, 0, none⟩ _ D (fun e => by rw [show D = g from e] at h; rw [h] at hg'; cases hg'; cases hc)).trans h⟩)
theorem bstring_calls (m B n0 : Nat) (l : List UInt8) (w : World) (h : BdI w m B l) (hn0 : n0 ≤ B) (hB : B ≤ w.heap.size) :
  Calls Tryz.prog 33 #[.pointer (some ⟨m, 0, none⟩)] w fun e w' => e = .returned (.string ⟨l.toArray⟩) ∧ Below n0 w w' ∧ ∀ (D : Nat) (o : Obj), o.isCells = false → w.heap[D]? = some o → w'.heap[D]? = some o := by
 obtain ⟨p, v, h1, -, hown⟩ := h
 cases l with
 | nil =>
  rcases hown.2 with ⟨rfl, _⟩ | ⟨g, cap, cur, rfl, hbg, hg, _, _, _, _⟩
  ·exact bstring_nil m n0 p w h1
  ·by_cases hc0 : cap = 0
   ·subst hc0
    exact bstring_noroom m n0 g p cur w (by omega) h1 hg
   ·exact bstring_room m n0 g cap p hc0 w h1
 | cons x r => exact bstring_some m B n0 p v (x :: r) (by simp) w h1 hown hn0
end Go.Proofs.YtlhbgfhmcjaabaaGreatDoor

/-
 strings.Builder's WriteByte; what a write keeps.
-/
namespace Go.Proofs.YtlhbgfhmcjaabaaGreatDoor
open Go.RowKit Go.Shelf
theorem wpList_append_byte {ops : Array Oper} {rest : List Oper} {o : Oper} {a : Act} {w : World} {Q : Exit → Act → World → Prop} (hgd : o.guard = none) (sl x : Operand)
  (ho : o.op = .call { callee := .builtin .append, args := #[sl, x], argTypes := #[47, 47] }) (base : Nat) (v : Value) (n : Nat) (xs : List Value) (hs : a.eval sl = v) (hown : w.ownsRow base 5 1 v n xs) (b : Nat) (C : Int) (hx : a.eval x = .slice (some ⟨b, 0, none⟩) 1 1) (hc : w.cell? ⟨b, 0, none⟩ = some (.int .u8 C))
  (hn : n + 1 ≤ 140737488355328) (hbase : base ≤ w.heap.size)
  (h : ∀ v' w', w'.ownsRow base 5 1 v' (n + 1) (xs ++ [.int .u8 C]) → w.grownBy w' v.ownBlock → wpList Tryz.prog ops Q rest (a.put o.dst v') w') : wpList Tryz.prog ops Q (o :: rest) a w := by
 obtain ⟨i0, hi, hz0, hz1, hz2⟩ := info_parts infoBy
 exact wpList_append_own w hgd sl x 47 ho base 5 i0 (.int .u8 0) 1 1 Tryz.underlying47 hi hz0 hz1 hz2 rfl (by decide) v n xs hs hown ⟨b, 0, none⟩ 1 1 [.int .u8 C] hx rfl (fun j u hj => by
  match j, hj with
  | 0, hj => simp at hj; subst hj; simpa [Addr.add] using hc) (fun u hu => by simp at hu; subst hu; rfl) (by unfold maxLen; omega) (by omega) hbase (fun v' w' h1 h2 _ => h v' w' h1 h2)
set_option maxRecDepth 100000 in
set_option maxHeartbeats 2000000 in
theorem bbyte_used (m B : Nat) (v : Value) (l : List UInt8) (k : UInt8) (C : Int) (hC : C = (k.toNat : Int)) (hm : m < B) (hn : l.length + 1 ≤ 140737488355328) (w : World) (w0 : World) (h : At w m #[.pointer (some ⟨m, 0, none⟩), v] 49) (hrow : w.ownsRow B 5 1 v l.length (Lib.byteCells l)) (hB : B ≤ w.heap.size)
  (hck : Calls Tryz.prog 71 #[.pointer (some ⟨m, 0, none⟩)] w0 fun e w' => e = .returned (.tuple #[]) ∧ w' = w) (hh : Below m w0 w) :
  Calls Tryz.prog 76 #[.pointer (some ⟨m, 0, none⟩), .int .u8 C] w0 fun e w' => e = .returned .nilIface ∧ BdI w' m B (l ++ [k]) ∧ Below m w0 w' := by
 have hck' := hid hck
 have hh' := hid hh
 have hC' := hid hC
 clear hC
 have h2 := hid (h.alloc (.cells #[.int .u8 C] 5))
 have hrow2 := hid (World.ownsRow.alloc hrow (.cells #[.int .u8 C] 5))
 have c0 : w.cell? ⟨m, 0, none⟩ = some (.pointer (some ⟨m, 0, none⟩)) := h.cell 0
 have c1 : w.cell? ⟨m, 1, none⟩ = some v := h.cell 1
 have hw2 := hid (show Below m w (w.alloc (.cells #[.int .u8 C] 5)) from (Below.refl _ _).alloc (Nat.le_trans (Nat.le_of_lt hm) hB) _)
 have hcell := hid (show (w.alloc (.cells #[.int .u8 C] 5)).cell? ⟨w.heap.size, 0, none⟩ = some (.int .u8 C) from (At.new w #[.int .u8 C] 5).cell 0)
 clear hck h hrow hh
 go_enter Tryz.func76, Tryz.ntmps76
 go_wp2_with fail
 refine Calls.mono hck'.out ?_
 rintro e w1 ⟨rfl, hw1⟩
 obtain rfl := hw1.symm
 go_wp2_with (at_builtin; refine wpList_append_byte rfl _ _ rfl B v _ _ rfl hrow2.out _ C rfl hcell.out hn (by rw [World.size_alloc]; omega) ?_; intro v' w3 hown3 hg; obtain ⟨so, cc, rfl⟩ := rowY_slice hown3; have a1 : At w3 m #[.pointer (some ⟨m, 0, none⟩), v] 49 := (hg.block m h2.out.lt (fun e => by have := (hrow2.out.lt m e.symm).1; omega)).trans h2.out; have f1 : w3.frozen? ⟨m, 1, none⟩ = false := a1.frozen 1; have d1 : w3.cell? ⟨m, 1, none⟩ = some v := a1.cell 1; have a1' := hid a1; have hown3' := hid hown3; have hg' := hid hg; clear a1 hown3 hg)
 go_ret
 have a2 : At (w3.setCell ⟨m, 1, none⟩ (.slice so (l.length + 1) cc)) m #[.pointer (some ⟨m, 0, none⟩), .slice so (l.length + 1) cc] 49 := by have := a1'.out.set 1 (.slice so (l.length + 1) cc); simpa using this
 refine ⟨rfl, ⟨_, _, a2, .inr rfl, ?_⟩, ?_⟩
 ·have h3 := ownsRow_setCell_below hown3'.out (a := ⟨m, 1, none⟩) hm (.slice so (l.length + 1) cc)
  rw [show (l ++ [k]).length = l.length + 1 by simp, show Lib.byteCells (l ++ [k]) = Lib.byteCells l ++ [.int .u8 C] by rw [hC'.out, Lib.byteCells_append]; rfl]
  exact h3
 ·have h4 : Below m (w.alloc (.cells #[.int .u8 C] 5)) (w3.setCell ⟨m, 1, none⟩ (.slice so (l.length + 1) cc)) := ((Below.refl m _).grown hg'.out (by have := h2.out.lt; omega) (fun b e => by have := (hrow2.out.lt b e).1; omega)).setCell (p := ⟨m, 1, none⟩) (Nat.le_refl _) _
  exact hh'.out.trans (hw2.out.trans h4)
theorem bbyte_calls (m B : Nat) (l : List UInt8) (k : UInt8) (C : Int) (hC : C = (k.toNat : Int)) (hm : m < B) (hn : l.length + 1 ≤ 140737488355328) (w : World) (h : BdI w m B l) (hB : B ≤ w.heap.size) :
  Calls Tryz.prog 76 #[.pointer (some ⟨m, 0, none⟩), .int .u8 C] w fun e w' => e = .returned .nilIface ∧ BdI w' m B (l ++ [k]) ∧ Below m w w' := by
 obtain ⟨p, v, h1, rfl | rfl, h2⟩ := h
 ·have a1 : At (w.setCell ⟨m, 0, none⟩ (.pointer (some ⟨m, 0, none⟩))) m #[.pointer (some ⟨m, 0, none⟩), v] 49 := by have := h1.set 0 (.pointer (some ⟨m, 0, none⟩)); simpa using this
  exact bbyte_used m B v l k C hC hm hn _ w a1 (ownsRow_setCell_below h2 (a := ⟨m, 0, none⟩) hm _) (Nat.le_trans hB (KeepsOthers.setCell w ⟨m, 0, none⟩ (.pointer (some ⟨m, 0, none⟩))).1) (bcheck_fresh m v w h1) ((Below.refl m w).setCell (p := ⟨m, 0, none⟩) (Nat.le_refl _) _)
 ·exact bbyte_used m B v l k C hC hm hn w w h1 h2 hB (bcheck_used m v w h1) (Below.refl _ _)
/-- WriteString, with what it keeps. -/
theorem bstr_calls (m B : Nat) (l : List UInt8) (s : ByteArray) (hm : m < B) (hn : l.length + s.size ≤ 140737488355328) (w : World) (h : BdI w m B l) (hB : B ≤ w.heap.size) :
  Calls Tryz.prog 47 #[.pointer (some ⟨m, 0, none⟩), .string s] w fun e w' => e = .returned (.tuple #[.int .i64 (s.size : Int), .nilIface]) ∧ BdI w' m B (l ++ s.data.toList) ∧ Below m w w' := by
 refine (bwrite_calls m B l s hm hn w h hB).mono ?_
 rintro e w' ⟨rfl, h1, h2⟩
 exact ⟨rfl, h1, (h2 m (m + 1) (m + 1) (Nat.le_refl _) (Nat.lt_succ_self _) (Nat.succ_ne_self _)).1⟩
end Go.Proofs.YtlhbgfhmcjaabaaGreatDoor

/-
 What a number's text is, and what decimal it is of (mathematics alone).
-/
namespace Go.Proofs.YtlhbgfhmcjaabaaGreatDoor
open Go.RowKit
/-- The byte at a place; 0 beyond the end. -/
def lk (s : ByteArray) (i : Nat) : Nat := if h : i < s.size then (s[i]'h).toNat else 0
theorem lk_at (s : ByteArray) (i : Nat) (h : i < s.size) : lk s i = (s[i]'h).toNat := dif_pos h
theorem lk_out (s : ByteArray) (i : Nat) (h : s.size ≤ i) : lk s i = 0 := dif_neg (by omega)
theorem lk_in {s : ByteArray} {i : Nat} (h : 0 < lk s i) : i < s.size := by
 rcases Nat.lt_or_ge i s.size with h1 | h1
 ·exact h1
 ·rw [lk_out s i h1] at h; omega
/-- Is it a digit? -/
def dgB (x : Nat) : Bool := decide (48 ≤ x ∧ x ≤ 57)
theorem dgB_iff (x : Nat) : dgB x = true ↔ 48 ≤ x ∧ x ≤ 57 := by simp [dgB]
theorem dg_in {s : ByteArray} {i : Nat} (h : dgB (lk s i) = true) : i < s.size := lk_in (by have := (dgB_iff _).1 h; omega)
def rnF (s : ByteArray) : Nat → Nat → Nat
 | 0, a => a
 | n + 1, a => if dgB (lk s a) then rnF s n (a + 1) else a
/-- The place behind all digits from a place on. -/
def rn (s : ByteArray) (a : Nat) : Nat := rnF s (s.size - a) a
theorem rnF_ge (s : ByteArray) : ∀ n a, a ≤ rnF s n a
 | 0, a => Nat.le_refl a
 | n + 1, a => by
  unfold rnF
  split
  ·have := rnF_ge s n (a + 1); omega
  ·exact Nat.le_refl a
theorem rnF_le (s : ByteArray) : ∀ n a, rnF s n a ≤ a + n
 | 0, a => Nat.le_refl a
 | n + 1, a => by
  unfold rnF
  split
  ·have := rnF_le s n (a + 1); omega
  ·omega
theorem rnF_dig (s : ByteArray) : ∀ n a i, a ≤ i → i < rnF s n a → dgB (lk s i) = true
 | 0, a, i, h1, h2 => by unfold rnF at h2; omega
 | n + 1, a, i, h1, h2 => by
  unfold rnF at h2
  split at h2
  ·rename_i h
   rcases Nat.eq_or_lt_of_le h1 with rfl | h3
   ·exact h
   ·exact rnF_dig s n (a + 1) i h3 h2
  ·omega
theorem rnF_end (s : ByteArray) : ∀ n a, s.size ≤ a + n → dgB (lk s (rnF s n a)) = false
 | 0, a, h => by
  unfold rnF
  rw [lk_out s a (by omega)]
  rfl
 | n + 1, a, h => by
  unfold rnF
  split
  ·exact rnF_end s n (a + 1) (by omega)
  ·rename_i h1
   simpa using h1
theorem rn_ge (s : ByteArray) (a : Nat) : a ≤ rn s a := rnF_ge s _ a
theorem rn_le (s : ByteArray) (a : Nat) (h : a ≤ s.size) : rn s a ≤ s.size := by have := rnF_le s (s.size - a) a; unfold rn; omega
theorem rn_dig (s : ByteArray) (a i : Nat) (h1 : a ≤ i) (h2 : i < rn s a) : dgB (lk s i) = true := rnF_dig s _ a i h1 h2
theorem rn_end (s : ByteArray) (a : Nat) : dgB (lk s (rn s a)) = false := rnF_end s _ a (by omega)
theorem rn_uniq (s : ByteArray) (a e : Nat) (h : a ≤ e) (hd : ∀ i, a ≤ i → i < e → dgB (lk s i) = true) (he : dgB (lk s e) = false) : rn s a = e := by
 have h1 := rn_ge s a
 rcases Nat.lt_trichotomy (rn s a) e with h2 | h2 | h2
 ·have h3 := hd _ h1 h2
  rw [rn_end] at h3
  cases h3
 ·exact h2
 ·have h3 := rn_dig s a e h h2
  rw [he] at h3
  cases h3
theorem rn_lt (s : ByteArray) (a : Nat) (h : dgB (lk s a) = true) : a < rn s a := by
 rcases Nat.eq_or_lt_of_le (rn_ge s a) with h1 | h1
 ·have := rn_end s a
  rw [← h1, h] at this
  cases this
 ·exact h1
/-- The parts of a number's text. -/
structure Num where
 neg : Bool
 wh : ByteArray
 be : ByteArray
 dn : Bool
 pw : ByteArray
/-- Where the whole part begins and ends; where the part behind the point ends; where the exponent's digits begin. -/
def scA (s : ByteArray) (p : Nat) : Nat := if lk s p = 45 then p + 1 else p
def scB (s : ByteArray) (p : Nat) : Nat := if lk s (scA s p) = 48 then scA s p + 1 else rn s (scA s p)
def scC (s : ByteArray) (p : Nat) : Nat := if lk s (scB s p) = 46 then rn s (scB s p + 1) else scB s p
def scF (s : ByteArray) (p : Nat) : Nat := if lk s (scC s p + 1) = 43 ∨ lk s (scC s p + 1) = 45 then scC s p + 2 else scC s p + 1
/-- Is there an exponent? -/
def scX (s : ByteArray) (p : Nat) : Bool := decide (lk s (scC s p) = 101 ∨ lk s (scC s p) = 69)
def scH (s : ByteArray) (p : Nat) : Nat := if scX s p then rn s (scF s p) else scC s p
def scNeg (s : ByteArray) (p : Nat) : Bool := decide (lk s p = 45)
def scDn (s : ByteArray) (p : Nat) : Bool := scX s p && decide (lk s (scC s p + 1) = 45)
def scBe (s : ByteArray) (p : Nat) : ByteArray := if lk s (scB s p) = 46 then s.extract (scB s p + 1) (scC s p) else ⟨#[]⟩
def scPw (s : ByteArray) (p : Nat) : ByteArray := if scX s p then s.extract (scF s p) (scH s p) else ⟨#[]⟩
/-- The parts (none: something is wanting), and the place behind them (the place of the byte that can't stand there). -/
def scanS (s : ByteArray) (p : Nat) : Option Num × Nat :=
 if dgB (lk s (scA s p)) = false then (none, scA s p)
 else if lk s (scB s p) = 46 ∧ dgB (lk s (scB s p + 1)) = false then (none, scB s p + 1)
 else if scX s p = true ∧ dgB (lk s (scF s p)) = false then (none, scF s p)
 else (some ⟨scNeg s p, s.extract (scA s p) (scB s p), scBe s p, scDn s p, scPw s p⟩, scH s p)
/-- The number that some digits are. -/
def pwN (l : List UInt8) : Nat := l.foldl (fun n b => 10 * n + (b.toNat - 48)) 0
/-- A decimal: its sign, digits, exponent. -/
structure Dec where
 neg : Bool
 ds : List UInt8
 ex : Int
/-- Its digits, without the noughts ahead. -/
def allS (n : Num) : List UInt8 := Lib.trimLeftB (n.wh.data.toList ++ n.be.data.toList) 48
def digS (n : Num) : List UInt8 := Lib.trimRightB (allS n) 48
def powS (n : Num) : Int := if n.dn then -(pwN n.pw.data.toList : Int) else pwN n.pw.data.toList
def expS (n : Num) : Int := powS n - (n.be.size : Int) + (((allS n).length - (digS n).length : Nat) : Int)
def inB (x : Int) : Bool := decide (-1073741824 ≤ x ∧ x ≤ 1073741824)
/-- The decimal of a number's parts; none: too big. -/
def worthS (n : Num) : Option Dec :=
 if allS n = [] then some ⟨n.neg, [], 0⟩
 else if inB (expS n) then some ⟨n.neg, digS n, expS n⟩ else none
def zeroD : Dec := ⟨false, [], 0⟩
/-- What Read answers: the decimal, the end, the number of the refusal. -/
def readS (s : ByteArray) (p : Nat) : Dec × Nat × Nat :=
 match (scanS s p).1 with
 | none => (zeroD, (scanS s p).2, 110)
 | some n => match worthS n with
  | none => (zeroD, (scanS s p).2, 111)
  | some d => (d, (scanS s p).2, 0)
def ofS (s : ByteArray) : Dec × Nat := if (readS s 0).2.1 = s.size then ((readS s 0).1, (readS s 0).2.2) else (zeroD, 110)
def decV (d : Dec) : Value := .agg #[.bool d.neg, .string ⟨d.ds.toArray⟩, .int .i64 d.ex]
theorem trimL_length (l : List UInt8) (c : UInt8) : (Lib.trimLeftB l c).length ≤ l.length := by
 unfold Lib.trimLeftB
 exact (List.dropWhile_sublist _).length_le
theorem trimR_length (l : List UInt8) (c : UInt8) : (Lib.trimRightB l c).length ≤ l.length := by
 unfold Lib.trimRightB
 rw [List.length_reverse]
 have := (List.dropWhile_sublist (fun x => x == c) (l := l.reverse)).length_le
 rwa [List.length_reverse] at this
/-- Noughts cut off twice are noughts cut off. -/
theorem trimL_twice (a b : List UInt8) (c : UInt8) : Lib.trimLeftB (Lib.trimLeftB a c ++ b) c = Lib.trimLeftB (a ++ b) c := by
 unfold Lib.trimLeftB
 induction a with
 | nil => rfl
 | cons x r ih =>
  by_cases h : (x == c) = true
  ·simp only [List.dropWhile_cons, h, if_true, List.cons_append]
   exact ih
  ·simp only [List.dropWhile_cons, h, List.cons_append]
   simp [h]
end Go.Proofs.YtlhbgfhmcjaabaaGreatDoor
