/-
  Texts of mine that others lean on, one behind the other.
-/
import Derived.Test.YtbabdhepnjacdaaDoorRows
import Derived.WalkKit
import Derived.ProofKit
import Derived.OpenShut
import Derived.ShutString
import Derived.ChangeOld
import Derived.Below
import Derived.Laws.StructEq
import Derived.WalkSpells
import Derived.WalkLawsBesides
import Derived.BigQuiet
import Derived.Deep.QuietTactic
import Derived.Outline
import Derived.Deep.RegionHeld3
import Derived.Deep.RegionWith
import Derived.Deep.MidRow
import Derived.Deep.Quiet
import Derived.BigFrame
import Derived.RangeFuncNested
import Derived.RangeFuncBound
import Derived.RangeFuncCalls
import Derived.RangeFuncLeaves
import Derived.Shelf.Abstract
import Derived.Shelf.RegionOpen
import Derived.OwnWalkIn
import Derived.TacticsInMore
import Derived.LoopNIn
import Derived.LoopIn
import Derived.RangeFuncBox
import Derived.Maps.AppendAt
import Derived.Lib.AppendStr
import Derived.Lib.BufferRead
import Derived.Laws.IdiomStrings
import Derived.Lib.ValidLaws
import Derived.ChangeSlices
import Derived.SizedLaws
import Derived.Lib.Strings
/-
 Small helpers for the laws' proofs: an array of integers that comes in by value; bounds of integers; what is kept of the world.
-/
namespace Go.Proofs.YtbabdhepnjacdaaDoor
open Go.ChangeShapes Go.WideShapes Go.ChangeAt Go.RowKit
theorem own : ownKnob Tryd.prog.godebug = none := by kernel_rfl
theorem laidOut : laidOutB Tryd.prog = true := by kernel_rfl
section
variable {H : Type} {enc : TypeId × Value → H} {P : Program} {w : World} {base : Nat} {spare : Nat → Bool} {held : Bool}
end
section
variable {P : Program} (w : World)
end
theorem wf_i64 {a : Int} (h : (Lit.int .i64 a).wf = true) : -9223372036854775808 ≤ a ∧ a < 9223372036854775808 := by
 have := Go.bounds_i64 h; omega
end Go.Proofs.YtbabdhepnjacdaaDoor

/-
 A text as numbers, and numbers as a text.
-/
namespace Go.Proofs.YtbabdhepnjacdaaDoor
/-- The bytes of a text. -/
def byts (s : ByteArray) : List Nat := s.data.toList.map UInt8.toNat
theorem byts_length (s : ByteArray) : (byts s).length = s.size := by
 unfold byts
 rw [List.length_map, Array.length_toList]
 rfl
theorem byts_append (a b : ByteArray) : byts (a ++ b) = byts a ++ byts b := by
 unfold byts
 rw [ByteArray.data_append, Array.toList_append, List.map_append]
/-- The byte number i of a text. -/
def byt (s : ByteArray) (i : Nat) : Nat := (s.data.toList.getD i 0).toNat
theorem byts_get (s : ByteArray) (i : Nat) (h : i < s.size) : (byts s)[i]? = some (byt s i) := by
 have h' : i < s.data.toList.length := by rw [Array.length_toList]; exact h
 unfold byts byt
 rw [List.getElem?_map, List.getD_eq_getElem?_getD, List.getElem?_eq_getElem h']
 rfl
theorem byts_take (s : ByteArray) (i : Nat) (h : i < s.size) : (byts s).take (i + 1) = (byts s).take i ++ [byt s i] := by
 rw [List.take_add_one, byts_get s i h]
 rfl
theorem byts_drop (s : ByteArray) (i : Nat) (h : i < s.size) : (byts s).drop i = byt s i :: (byts s).drop (i + 1) := by
 have h1 := byts_get s i h
 have hl : i < (byts s).length := by rw [byts_length]; exact h
 rw [List.getElem?_eq_getElem hl] at h1
 rw [List.drop_eq_getElem_cons hl]
 rw [Option.some.inj h1]
theorem byts_whole (s : ByteArray) : (byts s).take s.size = byts s := List.take_of_length_le (by rw [byts_length]; exact Nat.le_refl _)
theorem byts_extract (s : ByteArray) (a b : Nat) : byts (s.extract a b) = ((byts s).drop a).take (b - a) := by
 unfold byts
 have e : (s.extract a b).data.toList = (s.data.toList.drop a).take (b - a) := by
  rw [ByteArray.data_extract, Array.toList_extract]
 rw [e, List.map_take, List.map_drop]
/-- The text of these bytes. -/
def mkS (l : List Nat) : ByteArray := ⟨(l.map UInt8.ofNat).toArray⟩
theorem mkS_size (l : List Nat) : (mkS l).size = l.length := by show (l.map UInt8.ofNat).toArray.size = _; simp
theorem byts_mkS {l : List Nat} (h : ∀ x ∈ l, x < 256) : byts (mkS l) = l := by
 unfold byts mkS
 simp only [List.map_map]
 conv => rhs; rw [← List.map_id l]
 apply List.map_congr_left
 intro x hx
 have := h x hx
 simp [UInt8.toNat_ofNat']
 omega
theorem mkS_byts (s : ByteArray) : mkS (byts s) = s := by
 apply ByteArray.ext
 apply Array.toList_inj.1
 show ((byts s).map UInt8.ofNat) = s.data.toList
 unfold byts
 rw [List.map_map]
 conv => rhs; rw [← List.map_id s.data.toList]
 apply List.map_congr_left
 intro x _
 simp
theorem byts_inj {a b : ByteArray} (h : byts a = byts b) : a = b := by rw [← mkS_byts a, ← mkS_byts b, h]
end Go.Proofs.YtbabdhepnjacdaaDoor

/-
 At, HidKit, Range, QuietC, SeqKit, HeldKit, RoundKit.
-/
/-
 A block of cells of a world, and what keeps it.
-/
namespace Go.Proofs.YtbabdhepnjacdaaDoor
open Go.RowKit
/-- Block b of the world holds just these cells, none of them frozen. -/
def At (w : World) (b : Nat) (cs : Array Value) (t : TypeId) : Prop := w.heap[b]? = some (.cells cs t)
section
variable {w w' : World} {b : Nat} {cs : Array Value} {t : TypeId}
theorem At.lt (h : At w b cs t) : b < w.heap.size := (Array.getElem?_eq_some_iff.1 h).1
theorem At.new (w : World) (cs : Array Value) (t : TypeId) : At (w.alloc (.cells cs t)) w.heap.size cs t := by
 show (w.heap.push _)[_]? = _
 simp
theorem At.kept {n : Nat} (h : At w b cs t) (hb : Below n w w') (hn : b < n) : At w' b cs t := (hb.block b hn).trans h
theorem At.keptAll (h : At w b cs t) (hb : Below w.heap.size w w') : At w' b cs t := h.kept hb h.lt
theorem At.alloc (h : At w b cs t) (o : Obj) : At (w.alloc o) b cs t := (Below.heap_alloc w o b h.lt).trans h
theorem At.drew (h : At w b cs t) : At w.drew b cs t := h
theorem At.other (h : At w b cs t) {p : Addr} (hp : b ≠ p.block) (v : Value) : At (w.setCell p v) b cs t := (Below.heap_setCell w p v b hp).trans h
theorem At.set (h : At w b cs t) (i : Nat) (v : Value) : At (w.setCell ⟨b, i, none⟩ v) b (cs.setIfInBounds i v) t := by
 unfold At at *
 simp only [World.setCell, Array.getElem?_modify, if_true, h, Option.map_some]
 rfl
theorem At.cell (h : At w b cs t) (i : Nat) : w.cell? ⟨b, i, none⟩ = cs[i]? := by
 unfold At at h
 simp [World.cell?, h]
theorem At.frozen (h : At w b cs t) (i : Nat) : w.frozen? ⟨b, i, none⟩ = false := by
 unfold At at h
 simp [World.frozen?, h]
end
end Go.Proofs.YtbabdhepnjacdaaDoor
/-
 A fact is laid aside.
-/
namespace Go.Proofs.YtbabdhepnjacdaaDoor
open Go.RowKit
theorem hid {p : Prop} (h : p) : Hid p := h
end Go.Proofs.YtbabdhepnjacdaaDoor
/-
 Ranges of cells that a world holds, and what keeps them.
-/
namespace Go.Proofs.YtbabdhepnjacdaaDoor
open Go.RowKit
theorem At.range {w : World} {b : Nat} {cs : Array Value} {t : TypeId} (h : At w b cs t) {L : List Value} (hL : L.toArray = cs) : w.rangeAt b 0 L := fun j v hv => by
 rw [Nat.zero_add, h.cell j, ← hL]
 simpa using hv
theorem range_kept {w w1 : World} {b o : Nat} {L : List Value} (h : w.rangeAt b o L) (hb : Below w.heap.size w w1) : w1.rangeAt b o L := fun j v hv => by
 have hc := h j v hv
 rw [hb.cell (p := ⟨b, o + j, none⟩) (block_lt_of_cell hc)]; exact hc
theorem At.there {w : World} {b : Nat} {cs : Array Value} {t : TypeId} (h : At w b cs t) (n : Nat) (hn : cs.size = n) : w.there b 0 n := fun j hj => by
 rw [Nat.zero_add]
 refine ⟨?_, h.frozen j⟩
 rw [h.cell j, Array.getElem?_eq_getElem (by omega)]; rfl
/-- Some cells of a block laid over. -/
theorem At.setCells_at {b : Nat} {t : TypeId} : ∀ (vs : List Value) (o : Nat) {w : World} {cs : Array Value}, At w b cs t → o + vs.length ≤ cs.size → ∃ ds : Array Value, At (w.setCells b o vs) b ds t ∧ ds.size = cs.size ∧ (∀ i, i < o → ds[i]? = cs[i]?) ∧ (∀ i, i < vs.length → ds[o + i]? = vs[i]?) ∧ ∀ i, o + vs.length ≤ i → ds[i]? = cs[i]? := by
 intro vs
 induction vs with
 | nil => exact fun o w cs h _ => ⟨cs, h, rfl, fun _ _ => rfl, fun i hi => by simp at hi, fun _ _ => rfl⟩
 | cons v vs ih =>
  intro o w cs h hle
  simp only [List.length_cons] at hle
  obtain ⟨ds, h1, h2, h3, h4, h5⟩ := ih (o + 1) (h.set o v) (by simp; omega)
  refine ⟨ds, h1, by simpa using h2, ?_, ?_, ?_⟩
  ·intro i hi
   rw [h3 i (by omega), Array.getElem?_setIfInBounds_ne (by omega)]
  ·intro i hi
   cases i with
   | zero =>
    rw [Nat.add_zero, h3 o (by omega), Array.getElem?_setIfInBounds_self_of_lt (by omega)]
    rfl
   | succ i =>
    have := h4 i (by simpa using hi)
    rw [show o + (i + 1) = o + 1 + i by omega, this]
    simp
  ·intro i hi
   simp only [List.length_cons] at hi
   rw [h5 i (by omega), Array.getElem?_setIfInBounds_ne (by omega)]
/-- A whole block laid over. -/
theorem At.setCells {w : World} {b : Nat} {cs : Array Value} {t : TypeId} (h : At w b cs t) (vs : List Value) (hn : cs.size = vs.length) : At (w.setCells b 0 vs) b vs.toArray t := by
 obtain ⟨ds, h1, h2, _, h4, _⟩ := At.setCells_at vs 0 h (by omega)
 have e : ds = vs.toArray := by
  apply Array.ext_getElem?
  intro i
  by_cases hi : i < vs.length
  ·have := h4 i hi
   rw [Nat.zero_add] at this
   rw [this]; simp
  ·rw [Array.getElem?_eq_none (by omega), Array.getElem?_eq_none (by simp; omega)]
 rwa [e] at h1
theorem below_setCells {n b : Nat} {a w : World} (h : Below n a w) (hb : n ≤ b) : ∀ (vs : List Value) (o : Nat), Below n a (w.setCells b o vs) := by
 intro vs
 induction vs generalizing w with
 | nil => exact fun _ => h
 | cons v vs ih => exact fun o => ih (h.setCell (p := ⟨b, o, none⟩) hb v) (o + 1)
end Go.Proofs.YtbabdhepnjacdaaDoor
/-
 A region that draws its order, walked once in the text's order, in a class of worlds of one's own.
-/
namespace Go.Proofs.YtbabdhepnjacdaaDoor
open Go.RowKit
section
variable {P : Program} {ops : Array Oper} {C : World → Prop} {Q : Act → Prop}
theorem wpQuiet_take {a : Act} {o : Oper} {rest : List Oper} {v : Value} (hw : Region.wanted o (yielded ops a.tmps) = true) (hy : ∀ w, C w → o.quietAt P a C w v) (h : wpQuiet P ops C Q rest (a.put o.dst v)) : wpQuiet P ops C Q (o :: rest) a := by
 unfold wpQuiet
 rw [if_pos hw]
 exact ⟨v, hy, h⟩
theorem wpQuiet_skip {a : Act} {o : Oper} {rest : List Oper} (hw : Region.wanted o (yielded ops a.tmps) = false) (h : wpQuiet P ops C Q rest (a.put o.dst undef)) : wpQuiet P ops C Q (o :: rest) a := by
 unfold wpQuiet
 rw [if_neg (by rw [hw]; decide)]
 exact h
/-- The load of a long array. -/
theorem wpQuiet_load {a : Act} {o : Oper} {rest : List Oper} (ty : TypeId) (x : Operand) (b off : Nat) (cs : List Value) (d : TypeDesc) (hS : ∀ w, C w → w.rangeAt b off cs) (hu : P.underlying ty = some d) (hi : (P.info? ty).map (·.size) = some cs.length) (hd : d.isRow = true)
  (ho : o.op = .load ty x) (hx : a.eval x = .pointer (some ⟨b, off, none⟩)) (hw : Region.wanted o (yielded ops a.tmps) = true) (h : wpQuiet P ops C Q rest (a.put o.dst (.agg cs.toArray))) : wpQuiet P ops C Q (o :: rest) a := by
 refine wpQuiet_take hw (fun w hw' => ?_) h
 unfold Oper.quietAt execOp
 simp only [ho, hx, Instr.loadAt, Instr.sureAddr, Sem.run_bind, Sem.run_pure, Result.andThen_ok, run_loadVar_mid w b off ty cs d (hS w hw') hu hd hi]
 exact ⟨rfl, rfl⟩
end
section
variable {P : Program} {ops : Array Oper} {rest : List Oper} {op : Oper} {a : Act} {w : World} {Q : Exit → Act → World → Prop}
/-- A long array is loaded, in a plain region, guarded or not. -/
theorem wpList_load_want (ty : TypeId) (x : Operand) (b o : Nat) (cs : List Value) (d : TypeDesc) (hc : w.rangeAt b o cs) (hu : P.underlying ty = some d) (hi : (P.info? ty).map (·.size) = some cs.length) (hd : d.isRow = true)
  (ho : op.op = .load ty x) (hx : a.eval x = .pointer (some ⟨b, o, none⟩)) (hw : Region.wanted op (yielded ops a.tmps) = true) (h : wpList P ops Q rest (a.put op.dst (.agg cs.toArray)) w) : wpList P ops Q (op :: rest) a w :=
 BigFrame.wpList_want hw fun _ hK => wp_load_mid ty x ho b o hx cs d hc hu hd hi (hK _ _ h)
end
end Go.Proofs.YtbabdhepnjacdaaDoor
/-
 Long arrays inside a fence, and what an iterator's caller keeps.
-/
namespace Go.Proofs.YtbabdhepnjacdaaDoor
open Go.RowKit Go.Shelf
section
variable {F : Fence} {n : Nat} {P : Program} {ops : Array Oper} {rest : List Oper} {op : Oper} {a : Act} {w : World} {Q : Exit → Act → World → Prop}
end
/-- What was there is as it was, all of it. -/
theorem grown_of_below {w w' : World} (h : Below w.heap.size w w') : w.grownBy w' none := ⟨h.os, h.tape, h.output, h.size, fun k hk _ => h.block k hk⟩
theorem At.own {w w' : World} {b : Nat} {cs : Array Value} {t : TypeId} (h : At w b cs t) {row : Option Nat} (hg : w.grownBy w' row) (hr : ∀ r, row = some r → ∃ o : Obj, w.heap[r]? = some o ∧ o.isCells = false) : At w' b cs t := by
 refine (hg.block b h.lt (fun e => ?_)).trans h
 obtain ⟨o, ho, hc⟩ := hr b e.symm
 have hh : w.heap[b]? = some (.cells cs t) := h
 rw [hh] at ho
 cases ho
 cases hc
end Go.Proofs.YtbabdhepnjacdaaDoor
/-
 A range over an iterator that itself ranges over another one and calls its yield in those rounds: the rounds of the outer loop must leave alone what the iterator has laid since it was called, its own loop's record too. The library's laws ask of the relation that a round keeps (Kp) that it abide a turn of ANY record from the loop's on; here it is asked to abide a turn of the loop's own record alone.
-/
namespace Go.Proofs.YtbabdhepnjacdaaDoor
open Go.RowKit Go.Shelf
section
variable {P : Program}
/-- The two blocks that a loop lays: where deferred calls are gathered, and its record. -/
def Book (D : Nat) (r : Loop) (W : World) : Prop := W.heap[D + 1]? = some (.loop r) ∧ W.heap[D]? = some (.deferred (some []))
theorem Book.keeps {D : Nat} {r : Loop} {W W' : World} (h : Book D r W) (hk : KeepsFrom D W W') : Book D r W' := ⟨hk.same _ _ (by omega) h.1 rfl, hk.same _ _ (Nat.le_refl _) h.2 rfl⟩
theorem Book.lt {D : Nat} {r : Loop} {W : World} (h : Book D r W) : D + 1 < W.heap.size := (Array.getElem?_eq_some_iff.1 h.1).1
theorem Book.new (w : World) (r : Loop) : Book w.heap.size r ((w.alloc (.deferred (some []))).alloc (.loop r)) := by
 refine ⟨?_, (Below.heap_alloc _ _ _ (by simp)).trans (World.alloc_heap_new w _)⟩
 have h := World.alloc_heap_new (w.alloc (.deferred (some []))) (.loop r)
 rwa [World.size_alloc] at h
theorem Book.grown {D : Nat} {r : Loop} {X Y : World} {row : Option Nat} (h : Book D r X) (hg : X.grownBy Y row) (hr : ∀ k, row = some k → D + 1 < k) : Book D r Y := by
 have h1 := h.lt
 exact ⟨(hg.block _ h1 (fun e => by have := hr _ e.symm; omega)).trans h.1, (hg.block _ (by omega) (fun e => by have := hr _ e.symm; omega)).trans h.2⟩
section
variable {md : Region.Mode} {ops : Array Oper} {Q : Exit → Act → World → Prop} {l n : Nat}
end
/-- What a round must leave alone: all below n0; the block Bx; all that lies from B on. -/
def Held (n0 B Bx : Nat) (W W' : World) : Prop := Below n0 W W' ∧ W.heap.size ≤ W'.heap.size ∧ ∀ k o, B ≤ k ∨ k = Bx → W.heap[k]? = some o → W'.heap[k]? = some o
theorem Held.refl (n0 B Bx : Nat) (W : World) : Held n0 B Bx W W := ⟨Below.refl _ _, Nat.le_refl _, fun _ _ _ h => h⟩
theorem Held.trans {n0 B Bx : Nat} {X Y Z : World} (h : Held n0 B Bx X Y) (k : Held n0 B Bx Y Z) : Held n0 B Bx X Z :=
 ⟨h.1.trans k.1, Nat.le_trans h.2.1 k.2.1, fun i o hi ho => k.2.2 i o hi (h.2.2 i o hi ho)⟩
theorem Held.below {n0 B Bx : Nat} {W W' : World} (hn : n0 ≤ W.heap.size) (hb : Below W.heap.size W W') : Held n0 B Bx W W' :=
 ⟨hb.mono hn, hb.size, fun k _ _ ho => (hb.block k (Array.getElem?_eq_some_iff.1 ho).1).trans ho⟩
theorem Held.setCell {n0 B Bx b : Nat} (W : World) (v : Value) (h1 : n0 ≤ b) (h2 : b < B) (h3 : b ≠ Bx) : Held n0 B Bx W (W.setCell ⟨b, 0, none⟩ v) :=
 ⟨(Below.refl _ _).setCell (p := ⟨b, 0, none⟩) h1 v, by simp, fun k _ hk ho => (Below.heap_setCell W ⟨b, 0, none⟩ v k (by show k ≠ b; omega)).trans ho⟩
theorem Held.drew {n0 B Bx : Nat} (W : World) : Held n0 B Bx W W.drew := ⟨(Below.refl _ _).drew, Nat.le_refl _, fun _ _ _ h => h⟩
theorem Held.at {n0 B Bx : Nat} {W W' : World} (h : Held n0 B Bx W W') {b : Nat} {cs : Array Value} {t : TypeId} (ha : At W b cs t) (hb : B ≤ b ∨ b = Bx) : At W' b cs t := h.2.2 b _ hb ha
theorem Held.from {n0 B Bx : Nat} {W W' : World} (h : Held n0 B Bx W W') {D : Nat} (hD : B ≤ D) : KeepsFrom D W W' := ⟨h.2.1, fun k o hk ho _ => h.2.2 k o (.inl (by omega)) ho⟩
end
end Go.Proofs.YtbabdhepnjacdaaDoor
/-
 A region that draws its order, inside a round of a range over a function.
-/
namespace Go.Proofs.YtbabdhepnjacdaaDoor
open Go.RowKit Go.Shelf
section
variable {P : Program} {md : Region.Mode} {ops : Array Oper} {Q : Exit → Act → World → Prop} {l n : Nat}
end
end Go.Proofs.YtbabdhepnjacdaaDoor

/-
 Utf8Math, Utf8Forms, Utf8State, Utf8Rows, Utf8Read, one behind the other.
-/
/- Which bytes may follow which, in numbers: the state behind some bytes, what a text tells, and the forms of characters. -/
namespace Go.Proofs.YtbabdhepnjacdaaDoor
/-- How many bytes the form that has begun still lacks, and from where to where the next one may be. -/
structure Q5 where
 left : Nat
 lo : Nat
 hi : Nat
/-- The state: how many bytes came ahead of the first wrong one, whether one came, and the form. -/
structure St5 where
 good : Nat
 wrong : Bool
 q : Q5
def secLo (x : Nat) : Nat := if x = 224 then 160 else if x = 240 then 144 else 128
def secHi (x : Nat) : Nat := if x = 237 then 159 else if x = 244 then 143 else 191
def begQ (q : Q5) (x : Nat) : Option Q5 :=
 if 244 < x then none else if 240 ≤ x then some ⟨3, secLo x, secHi x⟩ else if 224 ≤ x then some ⟨2, secLo x, secHi x⟩ else if 194 ≤ x then some ⟨1, secLo x, secHi x⟩ else if 128 ≤ x then none else some q
def stp (q : Q5) (x : Nat) : Option Q5 := if q.left = 0 then begQ q x else if x < q.lo ∨ q.hi < x then none else some ⟨q.left - 1, 128, 191⟩
def tk (s : St5) (x : Nat) : St5 := if s.wrong then s else match stp s.q x with
 | some q => ⟨s.good + 1, false, q⟩
 | none => ⟨s.good, true, s.q⟩
def s5 : St5 := ⟨0, false, ⟨0, 0, 0⟩⟩
def runS (s : St5) (l : List Nat) : St5 := l.foldl tk s
def badI (s : St5) : Int := if s.wrong = true ∨ 0 < s.q.left then (s.good : Int) else -1
/-- What Bad says of a text. -/
def badOf (z : ByteArray) : Int := badI (runS s5 (byts z))
theorem runS_cons (s : St5) (x : Nat) (l : List Nat) : runS s (x :: l) = runS (tk s x) l := rfl
theorem runS_append (s : St5) (a b : List Nat) : runS s (a ++ b) = runS (runS s a) b := List.foldl_append ..
theorem runS_snoc (s : St5) (a : List Nat) (x : Nat) : runS s (a ++ [x]) = tk (runS s a) x := by rw [runS_append]; rfl
theorem tk_wrong {s : St5} (h : s.wrong = true) (x : Nat) : tk s x = s := by simp [tk, h]
theorem runS_wrong {s : St5} (h : s.wrong = true) (l : List Nat) : runS s l = s := by
 induction l with
 | nil => rfl
 | cons x l ih => rw [runS_cons, tk_wrong h, ih]
theorem tk_some {s : St5} (h : s.wrong = false) {x : Nat} {q : Q5} (hq : stp s.q x = some q) : tk s x = ⟨s.good + 1, false, q⟩ := by simp [tk, h, hq]
theorem tk_none {s : St5} (h : s.wrong = false) {x : Nat} (hq : stp s.q x = none) : tk s x = ⟨s.good, true, s.q⟩ := by simp [tk, h, hq]
/-- What a beginning of a form is, with the state behind it and the number that its bytes hold so far. -/
def FormAt (b : List Nat) (q : Q5) (r : Nat) : Prop :=
 match b with
 | [] => q.left = 0
 | [x] => (194 ≤ x ∧ x ≤ 223 ∧ q = ⟨1, secLo x, secHi x⟩ ∧ r = x - 192) ∨ (224 ≤ x ∧ x ≤ 239 ∧ q = ⟨2, secLo x, secHi x⟩ ∧ r = x - 224) ∨ (240 ≤ x ∧ x ≤ 244 ∧ q = ⟨3, secLo x, secHi x⟩ ∧ r = x - 240)
 | [x, y] => secLo x ≤ y ∧ y ≤ secHi x ∧ ((224 ≤ x ∧ x ≤ 239 ∧ q = ⟨1, 128, 191⟩ ∧ r = (x - 224) * 64 + (y - 128)) ∨ (240 ≤ x ∧ x ≤ 244 ∧ q = ⟨2, 128, 191⟩ ∧ r = (x - 240) * 64 + (y - 128)))
 | [x, y, z] => secLo x ≤ y ∧ y ≤ secHi x ∧ 128 ≤ z ∧ z ≤ 191 ∧ 240 ≤ x ∧ x ≤ 244 ∧ q = ⟨1, 128, 191⟩ ∧ r = ((x - 240) * 64 + (y - 128)) * 64 + (z - 128)
 | _ => False
/-- The number that the next byte makes. -/
def nextR (b : List Nat) (r x left : Nat) : Nat := if b = [] then x &&& (127 >>> left) else r * 64 + x % 64
def sizeN (c : Nat) : Nat := if (55296 ≤ c ∧ c ≤ 57343) ∨ 1114111 < c then 0 else if c < 128 then 1 else if c < 2048 then 2 else if c < 65536 then 3 else 4
/-- The bytes of a character (of what is none: no bytes). -/
def formL (c : Nat) : List Nat :=
 if sizeN c = 1 then [c] else if sizeN c = 2 then [192 + c / 64, 128 + c % 64] else if sizeN c = 3 then [224 + c / 4096, 128 + c / 64 % 64, 128 + c % 64] else if sizeN c = 4 then [240 + c / 262144, 128 + c / 4096 % 64, 128 + c / 64 % 64, 128 + c % 64] else []
set_option maxRecDepth 100000 in
theorem mask_first {x : Nat} (hx : x < 256) : (x < 128 → x &&& (127 >>> 0) = x) ∧ (194 ≤ x → x ≤ 223 → x &&& (127 >>> 1) = x - 192) ∧ (224 ≤ x → x ≤ 239 → x &&& (127 >>> 2) = x - 224) ∧ (240 ≤ x → x ≤ 244 → x &&& (127 >>> 3) = x - 240) := by
 revert x; decide
theorem secLo_ge (x : Nat) : 128 ≤ secLo x := by unfold secLo; split <;> (try split) <;> omega
theorem sec_facts (x : Nat) : (x = 224 → secLo x = 160) ∧ (x = 240 → secLo x = 144) ∧ (x = 237 → secHi x = 159) ∧ (x = 244 → secHi x = 143) := by
 refine ⟨?_, ?_, ?_, ?_⟩ <;> rintro rfl <;> rfl
theorem secHi_le (x : Nat) : secHi x ≤ 191 := by unfold secHi; split <;> (try split) <;> omega
set_option maxRecDepth 10000 in
/-- A byte more, that fits: either the form is whole, or it is a longer beginning. -/
theorem form_step {b : List Nat} {q q' : Q5} {r x : Nat} (h : FormAt b q r) (hx : x < 256) (hs : stp q x = some q') :
  (q'.left = 0 ∧ b ++ [x] = formL (nextR b r x q'.left) ∧ sizeN (nextR b r x q'.left) = b.length + 1) ∨ (0 < q'.left ∧ FormAt (b ++ [x]) q' (nextR b r x q'.left)) := by
 obtain ⟨m0, m1, m2, m3⟩ := mask_first hx
 match b, h with
 | [], h =>
  have h : q.left = 0 := h
  simp only [stp, h, if_true, begQ] at hs
  simp only [nextR, if_true, List.nil_append]
  split at hs
  ·cases hs
  ·split at hs
   ·cases hs
    right; refine ⟨by simp, .inr (.inr ⟨by omega, by omega, rfl, ?_⟩)⟩
    exact m3 (by omega) (by omega)
   ·split at hs
    ·cases hs
     right; refine ⟨by simp, .inr (.inl ⟨by omega, by omega, rfl, ?_⟩)⟩
     exact m2 (by omega) (by omega)
    ·split at hs
     ·cases hs
      right; refine ⟨by simp, .inl ⟨by omega, by omega, rfl, ?_⟩⟩
      exact m1 (by omega) (by omega)
     ·split at hs
      ·cases hs
      ·cases hs
       left
       rw [h, m0 (by omega)]
       have e : sizeN x = 1 := by unfold sizeN; rw [if_neg (by omega), if_pos (by omega)]
       exact ⟨rfl, by unfold formL; rw [if_pos e], e⟩
 | [y], h =>
  have hl := secLo_ge y
  have hh := secHi_le y
  rcases h with ⟨h1, h2, rfl, rfl⟩ | ⟨h1, h2, rfl, rfl⟩ | ⟨h1, h2, rfl, rfl⟩
  ·simp only [stp] at hs
   rw [if_neg (by decide)] at hs
   split at hs
   ·cases hs
   ·cases hs
    left
    simp only [nextR]
    rw [if_neg (by simp)]
    have e : sizeN ((y - 192) * 64 + x % 64) = 2 := by unfold sizeN; rw [if_neg (by omega), if_neg (by omega), if_pos (by omega)]
    refine ⟨by simp, ?_, e⟩
    unfold formL
    rw [if_neg (by omega), if_pos e]
    simp
    omega
  ·simp only [stp] at hs
   rw [if_neg (by decide)] at hs
   split at hs
   ·cases hs
   ·cases hs
    right
    simp only [nextR]
    rw [if_neg (by simp)]
    refine ⟨by simp, ?_⟩
    show secLo y ≤ x ∧ _
    exact ⟨by omega, by omega, .inl ⟨h1, h2, rfl, by omega⟩⟩
  ·simp only [stp] at hs
   rw [if_neg (by decide)] at hs
   split at hs
   ·cases hs
   ·cases hs
    right
    simp only [nextR]
    rw [if_neg (by simp)]
    refine ⟨by simp, ?_⟩
    show secLo y ≤ x ∧ _
    exact ⟨by omega, by omega, .inr ⟨h1, h2, rfl, by omega⟩⟩
 | [y, z], h =>
  obtain ⟨k1, k2, h⟩ := h
  have hl := secLo_ge y
  have hh := secHi_le y
  rcases h with ⟨h1, h2, rfl, rfl⟩ | ⟨h1, h2, rfl, rfl⟩
  ·simp only [stp] at hs
   rw [if_neg (by decide)] at hs
   split at hs
   ·cases hs
   ·cases hs
    left
    simp only [nextR]
    rw [if_neg (by simp)]
    have e : sizeN (((y - 224) * 64 + (z - 128)) * 64 + x % 64) = 3 := by
     obtain ⟨f1, f2, f3, f4⟩ := sec_facts y
     unfold sizeN
     rw [if_neg (by omega), if_neg (by omega), if_neg (by omega), if_pos (by omega)]
    refine ⟨by simp, ?_, e⟩
    unfold formL
    rw [if_neg (by omega), if_neg (by omega), if_pos e]
    simp
    omega
  ·simp only [stp] at hs
   rw [if_neg (by decide)] at hs
   split at hs
   ·cases hs
   ·cases hs
    right
    simp only [nextR]
    rw [if_neg (by simp)]
    refine ⟨by simp, ?_⟩
    show secLo y ≤ z ∧ _
    exact ⟨k1, k2, by omega, by omega, h1, h2, rfl, by omega⟩
 | [y, z, t], h =>
  obtain ⟨k1, k2, t1, t2, h1, h2, rfl, rfl⟩ := h
  have hl := secLo_ge y
  have hh := secHi_le y
  simp only [stp] at hs
  rw [if_neg (by decide)] at hs
  split at hs
  ·cases hs
  ·cases hs
   left
   simp only [nextR]
   rw [if_neg (by simp)]
   have e : sizeN ((((y - 240) * 64 + (z - 128)) * 64 + (t - 128)) * 64 + x % 64) = 4 := by
    obtain ⟨f1, f2, f3, f4⟩ := sec_facts y
    unfold sizeN
    rw [if_neg (by omega), if_neg (by omega), if_neg (by omega), if_neg (by omega)]
   refine ⟨by simp, ?_, e⟩
   unfold formL
   rw [if_neg (by omega), if_neg (by omega), if_neg (by omega), if_pos e]
   simp
   omega
theorem byt_lt (s : ByteArray) (i : Nat) : byt s i < 256 := UInt8.toNat_lt _
/-- What a text tells from a place on, where r is what the form that began at p holds so far, and the next byte is the number i. -/
def tel (q : Q5) (p r i : Nat) : List Nat → List (Nat × Nat)
 | [] => []
 | x :: l => match stp q x with
  | none => []
  | some q' =>
   if q'.left = 0 then (p, if i = p then x &&& (127 >>> q'.left) else r * 64 + x % 64) :: tel q' (i + 1) (if i = p then x &&& (127 >>> q'.left) else r * 64 + x % 64) (i + 1) l
   else tel q' p (if i = p then x &&& (127 >>> q'.left) else r * 64 + x % 64) (i + 1) l
end Go.Proofs.YtbabdhepnjacdaaDoor
/- A character's form, byte by byte. -/
namespace Go.Proofs.YtbabdhepnjacdaaDoor
theorem sec_more (x : Nat) : (x ≠ 224 → x ≠ 240 → secLo x = 128) ∧ (x ≠ 237 → x ≠ 244 → secHi x = 191) := by
 constructor
 ·intro a b; unfold secLo; rw [if_neg a, if_neg b]
 ·intro a b; unfold secHi; rw [if_neg a, if_neg b]
end Go.Proofs.YtbabdhepnjacdaaDoor
/- What the methods of utf8's state do with it. -/
namespace Go.Proofs.YtbabdhepnjacdaaDoor
open Go.RowKit
/-- All but block b is as it was. -/
def Only (b : Nat) (w w' : World) : Prop := Below b w w' ∧ w'.heap.size = w.heap.size ∧ ∀ c, c ≠ b → w'.heap[c]? = w.heap[c]?
theorem Only.refl (b : Nat) (w : World) : Only b w w := ⟨Below.refl _ _, rfl, fun _ _ => rfl⟩
theorem Only.trans {b : Nat} {w w1 w2 : World} (h : Only b w w1) (k : Only b w1 w2) : Only b w w2 := ⟨h.1.trans k.1, k.2.1.trans h.2.1, fun c hc => (k.2.2 c hc).trans (h.2.2 c hc)⟩
theorem Only.set {b : Nat} {w w' : World} (h : Only b w w') (i : Nat) (v : Value) : Only b w (w'.setCell ⟨b, i, none⟩ v) :=
 ⟨h.1.setCell (p := ⟨b, i, none⟩) (Nat.le_refl _) _, by simp [h.2.1], fun c hc => (Below.heap_setCell w' ⟨b, i, none⟩ v c hc).trans (h.2.2 c hc)⟩
theorem Only.drew {b : Nat} {w w' : World} (h : Only b w w') : Only b w w'.drew := ⟨h.1.drew, h.2.1, h.2.2⟩
theorem Only.below {b k : Nat} {w w' : World} (h : Only b w w') (hk : k ≤ b) : Below k w w' := h.1.mono hk
theorem Only.at {b c : Nat} {w w' : World} (h : Only b w w') {cs : Array Value} {t : TypeId} (ha : At w c cs t) (hc : c ≠ b) : At w' c cs t := (h.2.2 c hc).trans ha
end Go.Proofs.YtbabdhepnjacdaaDoor
/- Rows of bytes, and what string(..) makes of them. -/
namespace Go.Proofs.YtbabdhepnjacdaaDoor
open Go.RowKit
theorem strCells_byts (s : ByteArray) : Lib.strCells s = (byts s).map fun (x : Nat) => Value.int .u8 (x : Int) := by
 unfold Lib.strCells byts
 rw [List.map_map]
 rfl
theorem strCells_mkS {l : List Nat} (h : ∀ x ∈ l, x < 256) : Lib.strCells (mkS l) = l.map fun (x : Nat) => Value.int .u8 (x : Int) := by rw [strCells_byts, byts_mkS h]
theorem strCells_append (a b : ByteArray) : Lib.strCells (a ++ b) = Lib.strCells a ++ Lib.strCells b := by rw [strCells_byts, strCells_byts, strCells_byts, byts_append, List.map_append]
/-- The text of a row of bytes. -/
theorem conv_row {w : World} {B : Nat} {v : Value} {S : ByteArray} (h : w.ownsRow B 5 1 v S.size (Lib.strCells S)) : (convert 118 9 v).run Tryd.prog w = .ok (.string S) w := by
 rcases h.2 with ⟨rfl, h0⟩ | ⟨g, cap, cur, rfl, hb, hgb, h3⟩
 ·have e : S = ByteArray.empty := by
   apply byts_inj
   have h1 := byts_length S
   rw [h0] at h1
   rw [List.eq_nil_of_length_eq_zero h1]
   rfl
  rw [e]
  exact Lib.run_convert_nil_bytes w 118 9 5 0 Tryd.underlying118 Tryd.underlying5 Tryd.underlying9
 ·have hl : S.size = S.data.toList.length := by rw [Array.length_toList]; rfl
  have hr := run_convert_bytes_back (P := Tryd.prog) w 118 9 5 ⟨g, 0, none⟩ cap S.data.toList Tryd.underlying118 Tryd.underlying5 Tryd.underlying9 (fun j hj => by
   exact h.cells (g := g) rfl j _ (by
    unfold Lib.strCells
    rw [List.getElem?_map, List.getElem?_eq_getElem hj]
    rfl))
  rw [← hl] at hr
  rw [hr]
theorem infoU8 : (Tryd.prog.info? 5).map (fun i => (i.zero, i.size, i.bytes)) = some (some (.int .u8 0), 1, 1) := by kernel_rfl
end Go.Proofs.YtbabdhepnjacdaaDoor
/- What utf8.Bad, and a Scan's New, Feed and End answer. -/
namespace Go.Proofs.YtbabdhepnjacdaaDoor
open Go.RowKit
end Go.Proofs.YtbabdhepnjacdaaDoor

/-
 Which texts the language's own ValidString takes: just those that Bad finds nothing in.
-/
namespace Go.Proofs.YtbabdhepnjacdaaDoor
open Go.Lib
def okR (s : St5) (l : List UInt8) : Prop := (runS s (l.map UInt8.toNat)).wrong = false ∧ (runS s (l.map UInt8.toNat)).q.left = 0
theorem okR_cons (s : St5) (b : UInt8) (l : List UInt8) : okR s (b :: l) ↔ okR (tk s b.toNat) l := Iff.rfl
theorem okR_wrong {s : St5} (h : s.wrong = true) (l : List UInt8) : ¬ okR s l := fun ho => by
 have h1 := ho.1
 rw [runS_wrong h, h] at h1
 cases h1
theorem okR_short {s : St5} (h : s.q.left ≠ 0) : ¬ okR s [] := fun ho => h ho.2
theorem tk_in {s : St5} (h : s.wrong = false) (hl : s.q.left ≠ 0) {x : Nat} (h1 : s.q.lo ≤ x) (h2 : x ≤ s.q.hi) : tk s x = ⟨s.good + 1, false, ⟨s.q.left - 1, 128, 191⟩⟩ :=
 tk_some h (by unfold stp; rw [if_neg hl, if_neg (by omega)])
theorem tk_out {s : St5} (h : s.wrong = false) (hl : s.q.left ≠ 0) {x : Nat} (h1 : x < s.q.lo ∨ s.q.hi < x) : (tk s x).wrong = true := by
 rw [tk_none h (by unfold stp; rw [if_neg hl, if_pos h1])]
theorem tk_lead {s : St5} (h : s.wrong = false) (hl : s.q.left = 0) {x n lo hi : Nat} (hq : begQ s.q x = some ⟨n, lo, hi⟩) : tk s x = ⟨s.good + 1, false, ⟨n, lo, hi⟩⟩ :=
 tk_some h (by unfold stp; rw [if_pos hl]; exact hq)
/-- A lead byte that is followed by one, two or three: told by the table's check. -/
theorem ok_check {s : St5} (h : s.wrong = false) (hl : s.q.left = 0) (b : UInt8) (t : List UInt8) (sz lo hi : Nat) (hsz : sz = 2 ∨ sz = 3 ∨ sz = 4) (hq : begQ s.q b.toNat = some ⟨sz - 1, lo, hi⟩)
  (ih : ∀ (u : List UInt8) (s' : St5), u.length ≤ t.length → s'.wrong = false → s'.q.left = 0 → (validD u = true ↔ okR s' u)) :
  ((match checkN (b :: t).length ((b :: t).getD 1 0).toNat ((b :: t).getD 2 0).toNat ((b :: t).getD 3 0).toNat sz lo hi with
   | none => false
   | some k => validD ((b :: t).drop k)) = true) ↔ okR s (b :: t) := by
 rw [okR_cons, tk_lead h hl hq]
 unfold checkN
 cases t with
 | nil =>
  have hno : ¬ okR ⟨s.good + 1, false, ⟨sz - 1, lo, hi⟩⟩ [] := okR_short (by show sz - 1 ≠ 0; omega)
  refine iff_of_false ?_ hno
  rcases hsz with rfl | rfl | rfl <;> simp
 | cons c t =>
  rw [okR_cons]
  by_cases hc : c.toNat < lo ∨ hi < c.toNat
  ·have hno : ¬ okR (tk ⟨s.good + 1, false, ⟨sz - 1, lo, hi⟩⟩ c.toNat) t := okR_wrong (tk_out rfl (by show sz - 1 ≠ 0; omega) hc) t
   refine iff_of_false ?_ hno
   have hc' : c.toNat < lo ∨ hi < c.toNat := hc
   rcases hsz with rfl | rfl | rfl <;> rcases hc with hc | hc <;> simp [hc]
  ·rw [tk_in rfl (by show sz - 1 ≠ 0; omega) (show lo ≤ c.toNat by omega) (show c.toNat ≤ hi by omega)]
   have n1 : ¬ c.toNat < lo := by omega
   have n2 : ¬ hi < c.toNat := by omega
   rcases hsz with rfl | hsz
   ·simpa [n1, n2, show ¬ t.length + 1 + 1 < 2 by omega] using ih t ⟨s.good + 1 + 1, false, ⟨0, 128, 191⟩⟩ (by simp) rfl rfl
   cases t with
   | nil =>
    refine iff_of_false ?_ (okR_short (by show sz - 1 - 1 ≠ 0; omega))
    rcases hsz with rfl | rfl <;> simp
   | cons d t =>
    rw [okR_cons]
    by_cases hd : d.toNat < 128 ∨ 191 < d.toNat
    ·refine iff_of_false ?_ (okR_wrong (tk_out rfl (by show sz - 1 - 1 ≠ 0; omega) hd) t)
     rcases hsz with rfl | rfl <;> rcases hd with hd | hd <;> simp [hd]
    ·rw [tk_in rfl (by show sz - 1 - 1 ≠ 0; omega) (show 128 ≤ d.toNat by omega) (show d.toNat ≤ 191 by omega)]
     have m1 : ¬ d.toNat < 128 := by omega
     have m2 : ¬ 191 < d.toNat := by omega
     rcases hsz with rfl | rfl
     ·simpa [n1, n2, m1, m2, show ¬ t.length + 1 + 1 + 1 < 3 by omega] using ih t ⟨s.good + 1 + 1 + 1, false, ⟨0, 128, 191⟩⟩ (by simp; omega) rfl rfl
     cases t with
     | nil =>
      refine iff_of_false ?_ (okR_short (by show (4 - 1 - 1 - 1 : Nat) ≠ 0; omega))
      simp
     | cons e t =>
      rw [okR_cons]
      by_cases he : e.toNat < 128 ∨ 191 < e.toNat
      ·refine iff_of_false ?_ (okR_wrong (tk_out rfl (by show (4 - 1 - 1 - 1 : Nat) ≠ 0; omega) he) t)
       rcases he with he | he <;> simp [he]
      ·rw [tk_in rfl (by show (4 - 1 - 1 - 1 : Nat) ≠ 0; omega) (show 128 ≤ e.toNat by omega) (show e.toNat ≤ 191 by omega)]
       have k1 : ¬ e.toNat < 128 := by omega
       have k2 : ¬ 191 < e.toNat := by omega
       simpa [n1, n2, m1, m2, k1, k2, show ¬ t.length + 1 + 1 + 1 + 1 < 4 by omega] using ih t ⟨s.good + 1 + 1 + 1 + 1, false, ⟨0, 128, 191⟩⟩ (by simp; omega) rfl rfl
theorem valid_ok : ∀ (n : Nat) (l : List UInt8) (s : St5), l.length ≤ n → s.wrong = false → s.q.left = 0 → (validD l = true ↔ okR s l)
 | _, [], s, _, hw, hl => ⟨fun _ => ⟨hw, hl⟩, fun _ => rfl⟩
 | 0, b :: t, _, hn, _, _ => by simp at hn
 | n + 1, b :: t, s, hn, hw, hl => by
  have hbl : b.toNat < 256 := b.toNat_lt
  have hnt : t.length ≤ n := by simpa using hn
  by_cases hb : b.toNat < 128
  ·rw [validD_cons b t hb, okR_cons, tk_some hw (q := s.q) (by unfold stp begQ; rw [if_pos hl, if_neg (by omega), if_neg (by omega), if_neg (by omega), if_neg (by omega), if_neg (by omega)])]
   exact valid_ok n t _ hnt rfl hl
  ·have ih : ∀ (u : List UInt8) (s' : St5), u.length ≤ t.length → s'.wrong = false → s'.q.left = 0 → (validD u = true ↔ okR s' u) := fun u s' hu h1 h2 => valid_ok n u s' (by omega) h1 h2
   rw [validD_lead (b :: t) (by simp) (by simpa using (by omega : 128 ≤ b.toNat))]
   have e0 : ((b :: t).getD 0 0).toNat = b.toNat := by simp
   rw [e0]
   have bad : begQ s.q b.toNat = none → firstT b.toNat % 8 = 1 → ((match checkN (b :: t).length ((b :: t).getD 1 0).toNat ((b :: t).getD 2 0).toNat ((b :: t).getD 3 0).toNat (firstT b.toNat % 8) (accLo (firstT b.toNat / 16)) (accHi (firstT b.toNat / 16)) with
    | none => false
    | some k => validD ((b :: t).drop k)) = true ↔ okR s (b :: t)) := fun h1 h2 => by
    refine iff_of_false ?_ ?_
    ·rw [h2]; simp [checkN]
    ·rw [okR_cons]
     exact okR_wrong (by rw [tk_none hw (by unfold stp; rw [if_pos hl]; exact h1)]) t
   have good : ∀ sz lo hi, firstT b.toNat % 8 = sz → accLo (firstT b.toNat / 16) = lo → accHi (firstT b.toNat / 16) = hi → (sz = 2 ∨ sz = 3 ∨ sz = 4) → begQ s.q b.toNat = some ⟨sz - 1, lo, hi⟩ → ((match checkN (b :: t).length ((b :: t).getD 1 0).toNat ((b :: t).getD 2 0).toNat ((b :: t).getD 3 0).toNat (firstT b.toNat % 8) (accLo (firstT b.toNat / 16)) (accHi (firstT b.toNat / 16)) with
    | none => false
    | some k => validD ((b :: t).drop k)) = true ↔ okR s (b :: t)) := fun sz lo hi e1 e2 e3 hsz hq => by
    rw [e1, e2, e3]
    exact ok_check hw hl b t sz lo hi hsz hq ih
   clear ih e0 hn
   generalize b.toNat = x at *
   by_cases c0 : x < 194
   ·exact bad (by unfold begQ; rw [if_neg (by omega), if_neg (by omega), if_neg (by omega), if_neg (by omega), if_pos (by omega)]) (by simp [firstT, hb, c0])
   by_cases c1 : x < 224
   ·exact good 2 128 191 (by simp [firstT, hb, c0, c1]) (by simp [firstT, accLo, hb, c0, c1]) (by simp [firstT, accHi, hb, c0, c1]) (by omega) (by unfold begQ secLo secHi; rw [if_neg (by omega), if_neg (by omega), if_neg (by omega), if_pos (by omega), if_neg (by omega), if_neg (by omega), if_neg (by omega), if_neg (by omega)])
   by_cases c2 : x = 224
   ·subst c2; exact good 3 160 191 (by decide) (by decide) (by decide) (by omega) rfl
   by_cases c3 : x < 237
   ·exact good 3 128 191 (by simp [firstT, hb, c0, c1, c2, c3]) (by simp [firstT, accLo, hb, c0, c1, c2, c3]) (by simp [firstT, accHi, hb, c0, c1, c2, c3]) (by omega) (by unfold begQ secLo secHi; rw [if_neg (by omega), if_neg (by omega), if_pos (by omega), if_neg (by omega), if_neg (by omega), if_neg (by omega), if_neg (by omega)])
   by_cases c4 : x = 237
   ·subst c4; exact good 3 128 159 (by decide) (by decide) (by decide) (by omega) rfl
   by_cases c5 : x < 240
   ·exact good 3 128 191 (by simp [firstT, hb, c0, c1, c2, c3, c4, c5]) (by simp [firstT, accLo, hb, c0, c1, c2, c3, c4, c5]) (by simp [firstT, accHi, hb, c0, c1, c2, c3, c4, c5]) (by omega) (by unfold begQ secLo secHi; rw [if_neg (by omega), if_neg (by omega), if_pos (by omega), if_neg (by omega), if_neg (by omega), if_neg (by omega), if_neg (by omega)])
   by_cases c6 : x = 240
   ·subst c6; exact good 4 144 191 (by decide) (by decide) (by decide) (by omega) rfl
   by_cases c7 : x < 244
   ·exact good 4 128 191 (by simp [firstT, hb, c0, c1, c2, c3, c4, c5, c6, c7]) (by simp [firstT, accLo, hb, c0, c1, c2, c3, c4, c5, c6, c7]) (by simp [firstT, accHi, hb, c0, c1, c2, c3, c4, c5, c6, c7]) (by omega) (by unfold begQ secLo secHi; rw [if_neg (by omega), if_pos (by omega), if_neg (by omega), if_neg (by omega), if_neg (by omega), if_neg (by omega)])
   by_cases c8 : x = 244
   ·subst c8; exact good 4 128 143 (by decide) (by decide) (by decide) (by omega) rfl
   ·exact bad (by unfold begQ; rw [if_pos (by omega)]) (by simp [firstT, hb, c0, c1, c2, c3, c4, c5, c6, c7, c8])
/-- Valid just if Bad finds nothing. -/
theorem valid_bad (s : ByteArray) : validD s.data.toList = decide (badOf s = -1) := by
 have h := valid_ok _ s.data.toList s5 (Nat.le_refl _) rfl rfl
 have h2 : okR s5 s.data.toList ↔ badOf s = -1 := by
  unfold badOf badI okR byts
  constructor
  ·rintro ⟨h1, h2⟩
   rw [if_neg]
   rw [h1, h2]
   simp
  ·intro h3
   by_cases hc : (runS s5 (s.data.toList.map UInt8.toNat)).wrong = true ∨ 0 < (runS s5 (s.data.toList.map UInt8.toNat)).q.left
   ·rw [if_pos hc] at h3
    omega
   ·constructor
    ·cases hx : (runS s5 (s.data.toList.map UInt8.toNat)).wrong with
     | false => rfl
     | true => exact absurd (.inl hx) hc
    ·omega
 cases hv : validD s.data.toList with
 | true => rw [decide_eq_true (h2.1 (h.1 hv))]
 | false =>
  rw [decide_eq_false]
  intro hb
  rw [h.2 (h2.2 hb)] at hv
  cases hv
end Go.Proofs.YtbabdhepnjacdaaDoor

/-
 TrA, TrB, TrC, one behind the other.
-/
/- Values as trees, and how they lie in memory; a value that comes in. -/
namespace Go.Proofs.YtbabdhepnjacdaaDoor
open Go.ChangeShapes Go.WideShapes Go.ChangeAt Go.RowKit
set_option maxRecDepth 100000
/-- A value: its kind, its truth, its number's text, its text, its names, its kids. -/
inductive Vt where
 | mk (kind : Int) (b : Bool) (raw text : ByteArray) (keys : List ByteArray) (kids : List Vt)
def Vt.kind : Vt → Int | .mk k _ _ _ _ _ => k
def Vt.b : Vt → Bool | .mk _ b _ _ _ _ => b
def Vt.raw : Vt → ByteArray | .mk _ _ r _ _ _ => r
def Vt.text : Vt → ByteArray | .mk _ _ _ t _ _ => t
def Vt.keys : Vt → List ByteArray | .mk _ _ _ _ ks _ => ks
def Vt.kids : Vt → List Vt | .mk _ _ _ _ _ vs => vs
/-- No text and no list is longer than that (the form's own reach). -/
def capT : Nat := 140737488351232
/-- A list of texts in memory. -/
def KeysAt (w : World) (ao : Option Addr) (ks : List ByteArray) : Prop := ∀ (i : Nat) (s : ByteArray), ks[i]? = some s → s.size ≤ capT ∧ ∃ b off, ao = some ⟨b, off, none⟩ ∧ b < w.heap.size ∧ w.cell? ⟨b, off + i, none⟩ = some (.string s)
/-- A list of values in memory, six cells each. -/
def RowAt (w : World) (ao : Option Addr) (n : Nat) (X : Nat → Array Value) : Prop := ∀ i, i < n → (X i).size = 6 ∧ ∃ b off, ao = some ⟨b, off, none⟩ ∧ b < w.heap.size ∧ ∀ j, j < 6 → w.cell? ⟨b, off + i * 6 + j, none⟩ = (X i)[j]?
/-- A value in memory. -/
inductive ValAt (w : World) : Vt → Value → Prop
 | mk (k : Int) (b : Bool) (r t : ByteArray) (ks : List ByteArray) (vs : List Vt) (ko : Option Addr) (kc : Nat) (vo : Option Addr) (vc : Nat) (X : Nat → Array Value)
   (hw : (Lit.int .i64 k).wf = true) (hz : r.size ≤ capT ∧ t.size ≤ capT ∧ ks.length ≤ capT ∧ vs.length ≤ capT) (hk : KeysAt w ko ks) (hr : RowAt w vo vs.length X) (hv : ∀ (i : Nat) (u : Vt), vs[i]? = some u → ValAt w u (.agg (X i))) :
   ValAt w (.mk k b r t ks vs) (.agg #[.int .i64 k, .bool b, .string r, .string t, .slice ko ks.length kc, .slice vo vs.length vc])
theorem KeysAt.kept {w w' : World} {ao : Option Addr} {ks : List ByteArray} (h : KeysAt w ao ks) (hb : Below w.heap.size w w') : KeysAt w' ao ks := fun i s hi => by
 obtain ⟨h0, b, off, h1, h2, h3⟩ := h i s hi
 exact ⟨h0, b, off, h1, Nat.lt_of_lt_of_le h2 hb.size, (hb.cell (p := ⟨b, off + i, none⟩) h2).trans h3⟩
theorem RowAt.kept {w w' : World} {ao : Option Addr} {n : Nat} {X : Nat → Array Value} (h : RowAt w ao n X) (hb : Below w.heap.size w w') : RowAt w' ao n X := fun i hi => by
 obtain ⟨h0, b, off, h1, h2, h3⟩ := h i hi
 exact ⟨h0, b, off, h1, Nat.lt_of_lt_of_le h2 hb.size, fun j hj => (hb.cell (p := ⟨b, off + i * 6 + j, none⟩) h2).trans (h3 j hj)⟩
theorem ValAt.kept {w w' : World} {t : Vt} {v : Value} (h : ValAt w t v) (hb : Below w.heap.size w w') : ValAt w' t v := by
 induction h with
 | mk k b r t ks vs ko kc vo vc X hw hz hk hr hv ih => exact .mk k b r t ks vs ko kc vo vc X hw hz (hk.kept hb) (hr.kept hb) ih
section
variable {H : Type} {enc : TypeId × Value → H} {w : World} {base : Nat} {spare : Nat → Bool} {held : Bool}
theorem cell_ltT {w : World} {a : Addr} {v : Value} (h : w.cell? a = some v) : a.block < w.heap.size := by
 unfold World.cell? at h
 cases ho : w.heap[a.block]? with
 | none => simp [ho] at h
 | some o => exact (Array.getElem?_eq_some_iff.1 ho).1
end
end Go.Proofs.YtbabdhepnjacdaaDoor
/- quarryref00.SameTexts and SameValue: whether two lists of texts, two values, are the same. -/
namespace Go.Proofs.YtbabdhepnjacdaaDoor
open Go.RowKit Go.Shelf
/-- A value's own cells. -/
theorem ValAt.cells {w : World} {u : Vt} {x : Array Value} (h : ValAt w u (.agg x)) : ∃ ko kc vo vc, x = #[.int .i64 u.kind, .bool u.b, .string u.raw, .string u.text, .slice ko u.keys.length kc, .slice vo u.kids.length vc] := by
 cases h with
 | mk k b r t ks vs ko kc vo vc X hw hz hk hr hv => exact ⟨ko, kc, vo, vc, rfl⟩
end Go.Proofs.YtbabdhepnjacdaaDoor
/- quarryref00.SameValue: whether two values are the same. -/
namespace Go.Proofs.YtbabdhepnjacdaaDoor
open Go.RowKit Go.Shelf
end Go.Proofs.YtbabdhepnjacdaaDoor
