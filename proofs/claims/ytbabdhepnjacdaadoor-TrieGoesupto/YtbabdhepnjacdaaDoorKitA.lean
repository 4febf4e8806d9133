/-
 At, HidKit, Range, QuietC, SeqKit, HeldKit, RoundKit.
-/
import Derived.Test.YtbabdhepnjacdaaDoorKit
import Derived.WalkSpells
import Derived.WalkLawsBesides
import Derived.BigQuiet
import Derived.Deep.QuietTactic
import Derived.Outline
import Derived.Deep.RegionHeld3
import Derived.Deep.RegionWith
import Derived.Deep.MidRow
import Derived.Deep.Quiet
import Derived.BigFrame
import Derived.RangeFuncNested
import Derived.RangeFuncBound
import Derived.RangeFuncCalls
import Derived.RangeFuncLeaves
import Derived.Shelf.Abstract
import Derived.Shelf.RegionOpen
import Derived.WalkKit
import Derived.OwnWalkIn
import Derived.TacticsInMore
import Derived.LoopNIn
import Derived.LoopIn
import Derived.RangeFuncBox
import Derived.Maps.AppendAt
/-
 A block of cells of a world, and what keeps it.
-/
namespace Go.Proofs.YtbabdhepnjacdaaDoor
open Go.RowKit
/-- Block b of the world holds just these cells, none of them frozen. -/
def At (w : World) (b : Nat) (cs : Array Value) (t : TypeId) : Prop := w.heap[b]? = some (.cells cs t)
section
variable {w w' : World} {b : Nat} {cs : Array Value} {t : TypeId}
theorem At.lt (h : At w b cs t) : b < w.heap.size := (Array.getElem?_eq_some_iff.1 h).1
theorem At.new (w : World) (cs : Array Value) (t : TypeId) : At (w.alloc (.cells cs t)) w.heap.size cs t := by
 show (w.heap.push _)[_]? = _
 simp
theorem At.kept {n : Nat} (h : At w b cs t) (hb : Below n w w') (hn : b < n) : At w' b cs t := (hb.block b hn).trans h
theorem At.keptAll (h : At w b cs t) (hb : Below w.heap.size w w') : At w' b cs t := h.kept hb h.lt
theorem At.alloc (h : At w b cs t) (o : Obj) : At (w.alloc o) b cs t := (Below.heap_alloc w o b h.lt).trans h
theorem At.drew (h : At w b cs t) : At w.drew b cs t := h
theorem At.other (h : At w b cs t) {p : Addr} (hp : b ≠ p.block) (v : Value) : At (w.setCell p v) b cs t := (Below.heap_setCell w p v b hp).trans h
theorem At.set (h : At w b cs t) (i : Nat) (v : Value) : At (w.setCell ⟨b, i, none⟩ v) b (cs.setIfInBounds i v) t := by
 unfold At at *
 simp only [World.setCell, Array.getElem?_modify, if_true, h, Option.map_some]
 rfl
theorem At.cell (h : At w b cs t) (i : Nat) : w.cell? ⟨b, i, none⟩ = cs[i]? := by
 unfold At at h
 simp [World.cell?, h]
theorem At.frozen (h : At w b cs t) (i : Nat) : w.frozen? ⟨b, i, none⟩ = false := by
 unfold At at h
 simp [World.frozen?, h]
end
end Go.Proofs.YtbabdhepnjacdaaDoor
/-
 A fact is laid aside.
-/
namespace Go.Proofs.YtbabdhepnjacdaaDoor
open Go.RowKit
theorem hid {p : Prop} (h : p) : Hid p := h
end Go.Proofs.YtbabdhepnjacdaaDoor
/-
 Ranges of cells that a world holds, and what keeps them.
-/
namespace Go.Proofs.YtbabdhepnjacdaaDoor
open Go.RowKit
theorem At.range {w : World} {b : Nat} {cs : Array Value} {t : TypeId} (h : At w b cs t) {L : List Value} (hL : L.toArray = cs) : w.rangeAt b 0 L := fun j v hv => by
 rw [Nat.zero_add, h.cell j, ← hL]
 simpa using hv
theorem range_kept {w w1 : World} {b o : Nat} {L : List Value} (h : w.rangeAt b o L) (hb : Below w.heap.size w w1) : w1.rangeAt b o L := fun j v hv => by
 have hc := h j v hv
 rw [hb.cell (p := ⟨b, o + j, none⟩) (block_lt_of_cell hc)]; exact hc
theorem At.there {w : World} {b : Nat} {cs : Array Value} {t : TypeId} (h : At w b cs t) (n : Nat) (hn : cs.size = n) : w.there b 0 n := fun j hj => by
 rw [Nat.zero_add]
 refine ⟨?_, h.frozen j⟩
 rw [h.cell j, Array.getElem?_eq_getElem (by omega)]; rfl
end Go.Proofs.YtbabdhepnjacdaaDoor
/-
 A region that draws its order, walked once in the text's order, in a class of worlds of one's own.
-/
namespace Go.Proofs.YtbabdhepnjacdaaDoor
open Go.RowKit
section
variable {P : Program} {ops : Array Oper} {C : World → Prop} {Q : Act → Prop}
theorem wpQuiet_take {a : Act} {o : Oper} {rest : List Oper} {v : Value} (hw : Region.wanted o (yielded ops a.tmps) = true) (hy : ∀ w, C w → o.quietAt P a C w v) (h : wpQuiet P ops C Q rest (a.put o.dst v)) : wpQuiet P ops C Q (o :: rest) a := by
 unfold wpQuiet
 rw [if_pos hw]
 exact ⟨v, hy, h⟩
theorem wpQuiet_skip {a : Act} {o : Oper} {rest : List Oper} (hw : Region.wanted o (yielded ops a.tmps) = false) (h : wpQuiet P ops C Q rest (a.put o.dst undef)) : wpQuiet P ops C Q (o :: rest) a := by
 unfold wpQuiet
 rw [if_neg (by rw [hw]; decide)]
 exact h
/-- The load of a long array. -/
theorem wpQuiet_load {a : Act} {o : Oper} {rest : List Oper} (ty : TypeId) (x : Operand) (b off : Nat) (cs : List Value) (d : TypeDesc) (hS : ∀ w, C w → w.rangeAt b off cs) (hu : P.underlying ty = some d) (hi : (P.info? ty).map (·.size) = some cs.length) (hd : d.isRow = true)
  (ho : o.op = .load ty x) (hx : a.eval x = .pointer (some ⟨b, off, none⟩)) (hw : Region.wanted o (yielded ops a.tmps) = true) (h : wpQuiet P ops C Q rest (a.put o.dst (.agg cs.toArray))) : wpQuiet P ops C Q (o :: rest) a := by
 refine wpQuiet_take hw (fun w hw' => ?_) h
 unfold Oper.quietAt execOp
 simp only [ho, hx, Instr.loadAt, Instr.sureAddr, Sem.run_bind, Sem.run_pure, Result.andThen_ok, run_loadVar_mid w b off ty cs d (hS w hw') hu hd hi]
 exact ⟨rfl, rfl⟩
end
section
variable {P : Program} {ops : Array Oper} {rest : List Oper} {op : Oper} {a : Act} {w : World} {Q : Exit → Act → World → Prop}
/-- A long array is loaded, in a plain region, guarded or not. -/
theorem wpList_load_want (ty : TypeId) (x : Operand) (b o : Nat) (cs : List Value) (d : TypeDesc) (hc : w.rangeAt b o cs) (hu : P.underlying ty = some d) (hi : (P.info? ty).map (·.size) = some cs.length) (hd : d.isRow = true)
  (ho : op.op = .load ty x) (hx : a.eval x = .pointer (some ⟨b, o, none⟩)) (hw : Region.wanted op (yielded ops a.tmps) = true) (h : wpList P ops Q rest (a.put op.dst (.agg cs.toArray)) w) : wpList P ops Q (op :: rest) a w :=
 BigFrame.wpList_want hw fun _ hK => wp_load_mid ty x ho b o hx cs d hc hu hd hi (hK _ _ h)
end
end Go.Proofs.YtbabdhepnjacdaaDoor
/-
 Long arrays inside a fence, and what an iterator's caller keeps.
-/
namespace Go.Proofs.YtbabdhepnjacdaaDoor
open Go.RowKit Go.Shelf
section
variable {F : Fence} {n : Nat} {P : Program} {ops : Array Oper} {rest : List Oper} {op : Oper} {a : Act} {w : World} {Q : Exit → Act → World → Prop}
end
/-- What was there is as it was, all of it. -/
theorem grown_of_below {w w' : World} (h : Below w.heap.size w w') : w.grownBy w' none := ⟨h.os, h.tape, h.output, h.size, fun k hk _ => h.block k hk⟩
theorem At.own {w w' : World} {b : Nat} {cs : Array Value} {t : TypeId} (h : At w b cs t) {row : Option Nat} (hg : w.grownBy w' row) (hr : ∀ r, row = some r → ∃ o : Obj, w.heap[r]? = some o ∧ o.isCells = false) : At w' b cs t := by
 refine (hg.block b h.lt (fun e => ?_)).trans h
 obtain ⟨o, ho, hc⟩ := hr b e.symm
 have hh : w.heap[b]? = some (.cells cs t) := h
 rw [hh] at ho
 cases ho
 cases hc
end Go.Proofs.YtbabdhepnjacdaaDoor
/-
 A range over an iterator that itself ranges over another one and calls its yield in those rounds: the rounds of the outer loop must leave alone what the iterator has laid since it was called, its own loop's record too. The library's laws ask of the relation that a round keeps (Kp) that it abide a turn of ANY record from the loop's on; here it is asked to abide a turn of the loop's own record alone.
-/
namespace Go.Proofs.YtbabdhepnjacdaaDoor
open Go.RowKit Go.Shelf
section
variable {P : Program}
/-- The two blocks that a loop lays: where deferred calls are gathered, and its record. -/
def Book (D : Nat) (r : Loop) (W : World) : Prop := W.heap[D + 1]? = some (.loop r) ∧ W.heap[D]? = some (.deferred (some []))
theorem Book.keeps {D : Nat} {r : Loop} {W W' : World} (h : Book D r W) (hk : KeepsFrom D W W') : Book D r W' := ⟨hk.same _ _ (by omega) h.1 rfl, hk.same _ _ (Nat.le_refl _) h.2 rfl⟩
theorem Book.lt {D : Nat} {r : Loop} {W : World} (h : Book D r W) : D + 1 < W.heap.size := (Array.getElem?_eq_some_iff.1 h.1).1
theorem Book.new (w : World) (r : Loop) : Book w.heap.size r ((w.alloc (.deferred (some []))).alloc (.loop r)) := by
 refine ⟨?_, (Below.heap_alloc _ _ _ (by simp)).trans (World.alloc_heap_new w _)⟩
 have h := World.alloc_heap_new (w.alloc (.deferred (some []))) (.loop r)
 rwa [World.size_alloc] at h
theorem Book.grown {D : Nat} {r : Loop} {X Y : World} {row : Option Nat} (h : Book D r X) (hg : X.grownBy Y row) (hr : ∀ k, row = some k → D + 1 < k) : Book D r Y := by
 have h1 := h.lt
 exact ⟨(hg.block _ h1 (fun e => by have := hr _ e.symm; omega)).trans h.1, (hg.block _ (by omega) (fun e => by have := hr _ e.symm; omega)).trans h.2⟩
section
variable {md : Region.Mode} {ops : Array Oper} {Q : Exit → Act → World → Prop} {l n : Nat}
end
/-- What a round must leave alone: all below n0; the block Bx; all that lies from B on. -/
def Held (n0 B Bx : Nat) (W W' : World) : Prop := Below n0 W W' ∧ W.heap.size ≤ W'.heap.size ∧ ∀ k o, B ≤ k ∨ k = Bx → W.heap[k]? = some o → W'.heap[k]? = some o
theorem Held.refl (n0 B Bx : Nat) (W : World) : Held n0 B Bx W W := ⟨Below.refl _ _, Nat.le_refl _, fun _ _ _ h => h⟩
theorem Held.trans {n0 B Bx : Nat} {X Y Z : World} (h : Held n0 B Bx X Y) (k : Held n0 B Bx Y Z) : Held n0 B Bx X Z :=
 ⟨h.1.trans k.1, Nat.le_trans h.2.1 k.2.1, fun i o hi ho => k.2.2 i o hi (h.2.2 i o hi ho)⟩
theorem Held.below {n0 B Bx : Nat} {W W' : World} (hn : n0 ≤ W.heap.size) (hb : Below W.heap.size W W') : Held n0 B Bx W W' :=
 ⟨hb.mono hn, hb.size, fun k _ _ ho => (hb.block k (Array.getElem?_eq_some_iff.1 ho).1).trans ho⟩
theorem Held.setCell {n0 B Bx b : Nat} (W : World) (v : Value) (h1 : n0 ≤ b) (h2 : b < B) (h3 : b ≠ Bx) : Held n0 B Bx W (W.setCell ⟨b, 0, none⟩ v) :=
 ⟨(Below.refl _ _).setCell (p := ⟨b, 0, none⟩) h1 v, by simp, fun k _ hk ho => (Below.heap_setCell W ⟨b, 0, none⟩ v k (by show k ≠ b; omega)).trans ho⟩
theorem Held.drew {n0 B Bx : Nat} (W : World) : Held n0 B Bx W W.drew := ⟨(Below.refl _ _).drew, Nat.le_refl _, fun _ _ _ h => h⟩
theorem Held.at {n0 B Bx : Nat} {W W' : World} (h : Held n0 B Bx W W') {b : Nat} {cs : Array Value} {t : TypeId} (ha : At W b cs t) (hb : B ≤ b ∨ b = Bx) : At W' b cs t := h.2.2 b _ hb ha
theorem Held.from {n0 B Bx : Nat} {W W' : World} (h : Held n0 B Bx W W') {D : Nat} (hD : B ≤ D) : KeepsFrom D W W' := ⟨h.2.1, fun k o hk ho _ => h.2.2 k o (.inl (by omega)) ho⟩
end
end Go.Proofs.YtbabdhepnjacdaaDoor
/-
 A region that draws its order, inside a round of a range over a function.
-/
namespace Go.Proofs.YtbabdhepnjacdaaDoor
open Go.RowKit Go.Shelf
section
variable {P : Program} {md : Region.Mode} {ops : Array Oper} {Q : Exit → Act → World → Prop} {l n : Nat}
end
end Go.Proofs.YtbabdhepnjacdaaDoor
