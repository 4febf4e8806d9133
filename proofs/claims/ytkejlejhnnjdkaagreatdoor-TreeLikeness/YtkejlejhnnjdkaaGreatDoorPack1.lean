/-
  Texts of mine that others lean on, one behind the other.
-/
import Derived.Test.YtkejlejhnnjdkaaGreatDoorRows
import Derived.WalkKit
import Derived.ProofKit
import Derived.OpenShut
import Derived.ShutString
import Derived.ChangeOld
import Derived.Below
import Derived.Laws.StructEq
import Derived.WalkSpells
import Derived.WalkLawsBesides
import Derived.BigQuiet
import Derived.Deep.QuietTactic
import Derived.Outline
import Derived.Deep.RegionHeld3
import Derived.Deep.RegionWith
import Derived.Deep.MidRow
import Derived.Deep.Quiet
import Derived.BigFrame
import Derived.RangeFuncNested
import Derived.RangeFuncBound
import Derived.RangeFuncCalls
import Derived.RangeFuncLeaves
import Derived.Shelf.Abstract
import Derived.Shelf.RegionOpen
import Derived.OwnWalkIn
import Derived.TacticsInMore
import Derived.LoopNIn
import Derived.LoopIn
import Derived.RangeFuncBox
import Derived.Maps.AppendAt
import Derived.ChangeSlices
import Derived.SizedLaws
import Derived.Lib.Strings
/-
 Small helpers for the laws' proofs: an array of integers that comes in by value; bounds of integers; what is kept of the world.
-/
namespace Go.Proofs.YtkejlejhnnjdkaaGreatDoor
open Go.ChangeShapes Go.WideShapes Go.ChangeAt Go.RowKit
theorem own : ownKnob Tryz.prog.godebug = none := by kernel_rfl
theorem laidOut : laidOutB Tryz.prog = true := by kernel_rfl
section
variable {H : Type} {enc : TypeId × Value → H} {P : Program} {w : World} {base : Nat} {spare : Nat → Bool} {held : Bool}
end
section
variable {P : Program} (w : World)
end
theorem wf_i64 {a : Int} (h : (Lit.int .i64 a).wf = true) : -9223372036854775808 ≤ a ∧ a < 9223372036854775808 := by
 have := Go.bounds_i64 h; omega
end Go.Proofs.YtkejlejhnnjdkaaGreatDoor

/-
 At, HidKit, Range, QuietC, SeqKit, HeldKit, RoundKit.
-/
/-
 A block of cells of a world, and what keeps it.
-/
namespace Go.Proofs.YtkejlejhnnjdkaaGreatDoor
open Go.RowKit
/-- Block b of the world holds just these cells, none of them frozen. -/
def At (w : World) (b : Nat) (cs : Array Value) (t : TypeId) : Prop := w.heap[b]? = some (.cells cs t)
section
variable {w w' : World} {b : Nat} {cs : Array Value} {t : TypeId}
theorem At.lt (h : At w b cs t) : b < w.heap.size := (Array.getElem?_eq_some_iff.1 h).1
theorem At.new (w : World) (cs : Array Value) (t : TypeId) : At (w.alloc (.cells cs t)) w.heap.size cs t := by
 show (w.heap.push _)[_]? = _
 simp
theorem At.kept {n : Nat} (h : At w b cs t) (hb : Below n w w') (hn : b < n) : At w' b cs t := (hb.block b hn).trans h
theorem At.keptAll (h : At w b cs t) (hb : Below w.heap.size w w') : At w' b cs t := h.kept hb h.lt
theorem At.alloc (h : At w b cs t) (o : Obj) : At (w.alloc o) b cs t := (Below.heap_alloc w o b h.lt).trans h
theorem At.drew (h : At w b cs t) : At w.drew b cs t := h
theorem At.drewN (h : At w b cs t) (n : Nat) : At (w.drewN n) b cs t := h
theorem At.other (h : At w b cs t) {p : Addr} (hp : b ≠ p.block) (v : Value) : At (w.setCell p v) b cs t := (Below.heap_setCell w p v b hp).trans h
theorem At.set (h : At w b cs t) (i : Nat) (v : Value) : At (w.setCell ⟨b, i, none⟩ v) b (cs.setIfInBounds i v) t := by
 unfold At at *
 simp only [World.setCell, Array.getElem?_modify, if_true, h, Option.map_some]
 rfl
theorem At.cell (h : At w b cs t) (i : Nat) : w.cell? ⟨b, i, none⟩ = cs[i]? := by
 unfold At at h
 simp [World.cell?, h]
theorem At.frozen (h : At w b cs t) (i : Nat) : w.frozen? ⟨b, i, none⟩ = false := by
 unfold At at h
 simp [World.frozen?, h]
end
end Go.Proofs.YtkejlejhnnjdkaaGreatDoor
/-
 A fact is laid aside.
-/
namespace Go.Proofs.YtkejlejhnnjdkaaGreatDoor
open Go.RowKit
theorem hid {p : Prop} (h : p) : Hid p := h
end Go.Proofs.YtkejlejhnnjdkaaGreatDoor
/-
 Ranges of cells that a world holds, and what keeps them.
-/
namespace Go.Proofs.YtkejlejhnnjdkaaGreatDoor
open Go.RowKit
theorem At.range {w : World} {b : Nat} {cs : Array Value} {t : TypeId} (h : At w b cs t) {L : List Value} (hL : L.toArray = cs) : w.rangeAt b 0 L := fun j v hv => by
 rw [Nat.zero_add, h.cell j, ← hL]
 simpa using hv
theorem range_kept {w w1 : World} {b o : Nat} {L : List Value} (h : w.rangeAt b o L) (hb : Below w.heap.size w w1) : w1.rangeAt b o L := fun j v hv => by
 have hc := h j v hv
 rw [hb.cell (p := ⟨b, o + j, none⟩) (block_lt_of_cell hc)]; exact hc
theorem At.there {w : World} {b : Nat} {cs : Array Value} {t : TypeId} (h : At w b cs t) (n : Nat) (hn : cs.size = n) : w.there b 0 n := fun j hj => by
 rw [Nat.zero_add]
 refine ⟨?_, h.frozen j⟩
 rw [h.cell j, Array.getElem?_eq_getElem (by omega)]; rfl
end Go.Proofs.YtkejlejhnnjdkaaGreatDoor
/-
 A region that draws its order, walked once in the text's order, in a class of worlds of one's own.
-/
namespace Go.Proofs.YtkejlejhnnjdkaaGreatDoor
open Go.RowKit
section
variable {P : Program} {ops : Array Oper} {C : World → Prop} {Q : Act → Prop}
theorem wpQuiet_take {a : Act} {o : Oper} {rest : List Oper} {v : Value} (hw : Region.wanted o (yielded ops a.tmps) = true) (hy : ∀ w, C w → o.quietAt P a C w v) (h : wpQuiet P ops C Q rest (a.put o.dst v)) : wpQuiet P ops C Q (o :: rest) a := by
 unfold wpQuiet
 rw [if_pos hw]
 exact ⟨v, hy, h⟩
theorem wpQuiet_skip {a : Act} {o : Oper} {rest : List Oper} (hw : Region.wanted o (yielded ops a.tmps) = false) (h : wpQuiet P ops C Q rest (a.put o.dst undef)) : wpQuiet P ops C Q (o :: rest) a := by
 unfold wpQuiet
 rw [if_neg (by rw [hw]; decide)]
 exact h
/-- The load of a long array. -/
theorem wpQuiet_load {a : Act} {o : Oper} {rest : List Oper} (ty : TypeId) (x : Operand) (b off : Nat) (cs : List Value) (d : TypeDesc) (hS : ∀ w, C w → w.rangeAt b off cs) (hu : P.underlying ty = some d) (hi : (P.info? ty).map (·.size) = some cs.length) (hd : d.isRow = true)
  (ho : o.op = .load ty x) (hx : a.eval x = .pointer (some ⟨b, off, none⟩)) (hw : Region.wanted o (yielded ops a.tmps) = true) (h : wpQuiet P ops C Q rest (a.put o.dst (.agg cs.toArray))) : wpQuiet P ops C Q (o :: rest) a := by
 refine wpQuiet_take hw (fun w hw' => ?_) h
 unfold Oper.quietAt execOp
 simp only [ho, hx, Instr.loadAt, Instr.sureAddr, Sem.run_bind, Sem.run_pure, Result.andThen_ok, run_loadVar_mid w b off ty cs d (hS w hw') hu hd hi]
 exact ⟨rfl, rfl⟩
end
section
variable {P : Program} {ops : Array Oper} {rest : List Oper} {op : Oper} {a : Act} {w : World} {Q : Exit → Act → World → Prop}
/-- A long array is loaded, in a plain region, guarded or not. -/
theorem wpList_load_want (ty : TypeId) (x : Operand) (b o : Nat) (cs : List Value) (d : TypeDesc) (hc : w.rangeAt b o cs) (hu : P.underlying ty = some d) (hi : (P.info? ty).map (·.size) = some cs.length) (hd : d.isRow = true)
  (ho : op.op = .load ty x) (hx : a.eval x = .pointer (some ⟨b, o, none⟩)) (hw : Region.wanted op (yielded ops a.tmps) = true) (h : wpList P ops Q rest (a.put op.dst (.agg cs.toArray)) w) : wpList P ops Q (op :: rest) a w :=
 BigFrame.wpList_want hw fun _ hK => wp_load_mid ty x ho b o hx cs d hc hu hd hi (hK _ _ h)
end
end Go.Proofs.YtkejlejhnnjdkaaGreatDoor
/-
 Long arrays inside a fence, and what an iterator's caller keeps.
-/
namespace Go.Proofs.YtkejlejhnnjdkaaGreatDoor
open Go.RowKit Go.Shelf
section
variable {F : Fence} {n : Nat} {P : Program} {ops : Array Oper} {rest : List Oper} {op : Oper} {a : Act} {w : World} {Q : Exit → Act → World → Prop}
end
/-- What was there is as it was, all of it. -/
theorem grown_of_below {w w' : World} (h : Below w.heap.size w w') : w.grownBy w' none := ⟨h.os, h.tape, h.output, h.size, fun k hk _ => h.block k hk⟩
theorem At.own {w w' : World} {b : Nat} {cs : Array Value} {t : TypeId} (h : At w b cs t) {row : Option Nat} (hg : w.grownBy w' row) (hr : ∀ r, row = some r → ∃ o : Obj, w.heap[r]? = some o ∧ o.isCells = false) : At w' b cs t := by
 refine (hg.block b h.lt (fun e => ?_)).trans h
 obtain ⟨o, ho, hc⟩ := hr b e.symm
 have hh : w.heap[b]? = some (.cells cs t) := h
 rw [hh] at ho
 cases ho
 cases hc
end Go.Proofs.YtkejlejhnnjdkaaGreatDoor
/-
 A range over an iterator that itself ranges over another one and calls its yield in those rounds: the rounds of the outer loop must leave alone what the iterator has laid since it was called, its own loop's record too. The library's laws ask of the relation that a round keeps (Kp) that it abide a turn of ANY record from the loop's on; here it is asked to abide a turn of the loop's own record alone.
-/
namespace Go.Proofs.YtkejlejhnnjdkaaGreatDoor
open Go.RowKit Go.Shelf
section
variable {P : Program}
/-- The two blocks that a loop lays: where deferred calls are gathered, and its record. -/
def Book (D : Nat) (r : Loop) (W : World) : Prop := W.heap[D + 1]? = some (.loop r) ∧ W.heap[D]? = some (.deferred (some []))
theorem Book.keeps {D : Nat} {r : Loop} {W W' : World} (h : Book D r W) (hk : KeepsFrom D W W') : Book D r W' := ⟨hk.same _ _ (by omega) h.1 rfl, hk.same _ _ (Nat.le_refl _) h.2 rfl⟩
theorem Book.lt {D : Nat} {r : Loop} {W : World} (h : Book D r W) : D + 1 < W.heap.size := (Array.getElem?_eq_some_iff.1 h.1).1
theorem Book.new (w : World) (r : Loop) : Book w.heap.size r ((w.alloc (.deferred (some []))).alloc (.loop r)) := by
 refine ⟨?_, (Below.heap_alloc _ _ _ (by simp)).trans (World.alloc_heap_new w _)⟩
 have h := World.alloc_heap_new (w.alloc (.deferred (some []))) (.loop r)
 rwa [World.size_alloc] at h
theorem Book.grown {D : Nat} {r : Loop} {X Y : World} {row : Option Nat} (h : Book D r X) (hg : X.grownBy Y row) (hr : ∀ k, row = some k → D + 1 < k) : Book D r Y := by
 have h1 := h.lt
 exact ⟨(hg.block _ h1 (fun e => by have := hr _ e.symm; omega)).trans h.1, (hg.block _ (by omega) (fun e => by have := hr _ e.symm; omega)).trans h.2⟩
section
variable {md : Region.Mode} {ops : Array Oper} {Q : Exit → Act → World → Prop} {l n : Nat}
end
/-- What a round must leave alone: all below n0; the block Bx; all that lies from B on. -/
def Held (n0 B Bx : Nat) (W W' : World) : Prop := Below n0 W W' ∧ W.heap.size ≤ W'.heap.size ∧ ∀ k o, B ≤ k ∨ k = Bx → W.heap[k]? = some o → W'.heap[k]? = some o
theorem Held.refl (n0 B Bx : Nat) (W : World) : Held n0 B Bx W W := ⟨Below.refl _ _, Nat.le_refl _, fun _ _ _ h => h⟩
theorem Held.trans {n0 B Bx : Nat} {X Y Z : World} (h : Held n0 B Bx X Y) (k : Held n0 B Bx Y Z) : Held n0 B Bx X Z :=
 ⟨h.1.trans k.1, Nat.le_trans h.2.1 k.2.1, fun i o hi ho => k.2.2 i o hi (h.2.2 i o hi ho)⟩
theorem Held.below {n0 B Bx : Nat} {W W' : World} (hn : n0 ≤ W.heap.size) (hb : Below W.heap.size W W') : Held n0 B Bx W W' :=
 ⟨hb.mono hn, hb.size, fun k _ _ ho => (hb.block k (Array.getElem?_eq_some_iff.1 ho).1).trans ho⟩
theorem Held.setCell {n0 B Bx b : Nat} (W : World) (v : Value) (h1 : n0 ≤ b) (h2 : b < B) (h3 : b ≠ Bx) : Held n0 B Bx W (W.setCell ⟨b, 0, none⟩ v) :=
 ⟨(Below.refl _ _).setCell (p := ⟨b, 0, none⟩) h1 v, by simp, fun k _ hk ho => (Below.heap_setCell W ⟨b, 0, none⟩ v k (by show k ≠ b; omega)).trans ho⟩
theorem Held.drew {n0 B Bx : Nat} (W : World) : Held n0 B Bx W W.drew := ⟨(Below.refl _ _).drew, Nat.le_refl _, fun _ _ _ h => h⟩
theorem Held.at {n0 B Bx : Nat} {W W' : World} (h : Held n0 B Bx W W') {b : Nat} {cs : Array Value} {t : TypeId} (ha : At W b cs t) (hb : B ≤ b ∨ b = Bx) : At W' b cs t := h.2.2 b _ hb ha
theorem Held.from {n0 B Bx : Nat} {W W' : World} (h : Held n0 B Bx W W') {D : Nat} (hD : B ≤ D) : KeepsFrom D W W' := ⟨h.2.1, fun k o hk ho _ => h.2.2 k o (.inl (by omega)) ho⟩
end
end Go.Proofs.YtkejlejhnnjdkaaGreatDoor
/-
 A region that draws its order, inside a round of a range over a function.
-/
namespace Go.Proofs.YtkejlejhnnjdkaaGreatDoor
open Go.RowKit Go.Shelf
section
variable {P : Program} {md : Region.Mode} {ops : Array Oper} {Q : Exit → Act → World → Prop} {l n : Nat}
end
end Go.Proofs.YtkejlejhnnjdkaaGreatDoor

/-
  TrA, TrB, TrC, one behind the other.
-/
/- Values as trees, and how they lie in memory; a value that comes in. -/
namespace Go.Proofs.YtkejlejhnnjdkaaGreatDoor
open Go.ChangeShapes Go.WideShapes Go.ChangeAt Go.RowKit
set_option maxRecDepth 100000
/-- A value: its kind, its truth, its number's text, its text, its names, its kids. -/
inductive Vt where
  | mk (kind : Int) (b : Bool) (raw text : ByteArray) (keys : List ByteArray) (kids : List Vt)
def Vt.kind : Vt → Int | .mk k _ _ _ _ _ => k
def Vt.b : Vt → Bool | .mk _ b _ _ _ _ => b
def Vt.raw : Vt → ByteArray | .mk _ _ r _ _ _ => r
def Vt.text : Vt → ByteArray | .mk _ _ _ t _ _ => t
def Vt.keys : Vt → List ByteArray | .mk _ _ _ _ ks _ => ks
def Vt.kids : Vt → List Vt | .mk _ _ _ _ _ vs => vs
/-- No text and no list is longer than that (the form's own reach). -/
def capT : Nat := 140737488351232
/-- A list of texts in memory. -/
def KeysAt (w : World) (ao : Option Addr) (ks : List ByteArray) : Prop := ∀ (i : Nat) (s : ByteArray), ks[i]? = some s → s.size ≤ capT ∧ ∃ b off, ao = some ⟨b, off, none⟩ ∧ b < w.heap.size ∧ w.cell? ⟨b, off + i, none⟩ = some (.string s)
/-- A list of values in memory, six cells each. -/
def RowAt (w : World) (ao : Option Addr) (n : Nat) (X : Nat → Array Value) : Prop := ∀ i, i < n → (X i).size = 6 ∧ ∃ b off, ao = some ⟨b, off, none⟩ ∧ b < w.heap.size ∧ ∀ j, j < 6 → w.cell? ⟨b, off + i * 6 + j, none⟩ = (X i)[j]?
/-- A value in memory. -/
inductive ValAt (w : World) : Vt → Value → Prop
  | mk (k : Int) (b : Bool) (r t : ByteArray) (ks : List ByteArray) (vs : List Vt) (ko : Option Addr) (kc : Nat) (vo : Option Addr) (vc : Nat) (X : Nat → Array Value)
      (hw : (Lit.int .i64 k).wf = true) (hz : r.size ≤ capT ∧ t.size ≤ capT ∧ ks.length ≤ capT ∧ vs.length ≤ capT) (hk : KeysAt w ko ks) (hr : RowAt w vo vs.length X) (hv : ∀ (i : Nat) (u : Vt), vs[i]? = some u → ValAt w u (.agg (X i))) :
      ValAt w (.mk k b r t ks vs) (.agg #[.int .i64 k, .bool b, .string r, .string t, .slice ko ks.length kc, .slice vo vs.length vc])
theorem KeysAt.kept {w w' : World} {ao : Option Addr} {ks : List ByteArray} (h : KeysAt w ao ks) (hb : Below w.heap.size w w') : KeysAt w' ao ks := fun i s hi => by
  obtain ⟨h0, b, off, h1, h2, h3⟩ := h i s hi
  exact ⟨h0, b, off, h1, Nat.lt_of_lt_of_le h2 hb.size, (hb.cell (p := ⟨b, off + i, none⟩) h2).trans h3⟩
theorem RowAt.kept {w w' : World} {ao : Option Addr} {n : Nat} {X : Nat → Array Value} (h : RowAt w ao n X) (hb : Below w.heap.size w w') : RowAt w' ao n X := fun i hi => by
  obtain ⟨h0, b, off, h1, h2, h3⟩ := h i hi
  exact ⟨h0, b, off, h1, Nat.lt_of_lt_of_le h2 hb.size, fun j hj => (hb.cell (p := ⟨b, off + i * 6 + j, none⟩) h2).trans (h3 j hj)⟩
theorem ValAt.kept {w w' : World} {t : Vt} {v : Value} (h : ValAt w t v) (hb : Below w.heap.size w w') : ValAt w' t v := by
  induction h with
  | mk k b r t ks vs ko kc vo vc X hw hz hk hr hv ih => exact .mk k b r t ks vs ko kc vo vc X hw hz (hk.kept hb) (hr.kept hb) ih
section
variable {H : Type} {enc : TypeId × Value → H} {w : World} {base : Nat} {spare : Nat → Bool} {held : Bool}
theorem cellsVl : Tryz.prog.cellsOf 25 = 6 := by kernel_rfl
theorem cellsVs : Tryz.prog.cellsOf 23 = 1 := by kernel_rfl
theorem cellsKs : Tryz.prog.cellsOf 22 = 1 := by kernel_rfl
theorem cellsSt : Tryz.prog.cellsOf 9 = 1 := by kernel_rfl
theorem cell_ltT {w : World} {a : Addr} {v : Value} (h : w.cell? a = some v) : a.block < w.heap.size := by
  unfold World.cell? at h
  cases ho : w.heap[a.block]? with
  | none => simp [ho] at h
  | some o => exact (Array.getElem?_eq_some_iff.1 ho).1
theorem weights_all {H : Type} {P : Program} {e : TypeId} : ∀ {ds : List (DataW H)} {d : DataW H} {m : Nat}, d ∈ ds → m ∈ d.weights P e → m ∈ DataW.weightsAll P e ds
  | d0 :: ds, d, m, hd, hm => by
    simp only [DataW.weightsAll, List.mem_append]
    rcases List.mem_cons.1 hd with rfl | hd
    · exact .inl hm
    · exact .inr (weights_all hd hm)
  | [], _, _, hd, _ => by simp at hd
/-- A list of texts that comes in. -/
theorem open_keys {fuel : Nat} {v : Value} {x : DataW H × List MemPlace} (hf : DataW.trod enc Tryz.prog w base spare held fuel 22 [v] = some x) (hwt : ∀ m ∈ x.1.weights Tryz.prog 22, m ≤ reachBytes) :
    ∃ (ao : Option Addr) (cap : Nat) (ks : List ByteArray), v = .slice ao ks.length cap ∧ ks.length ≤ capT ∧ KeysAt w ao ks := by
  rcases DataW.trod_slice Tryz.underlying22 hf with ⟨hcs, _⟩ | ⟨a, len, cap, elems, rest, n, _, hcs, hx, hb, hl, hm, hlen, hel, -, -⟩
  · simp at hcs
    subst hcs
    exact ⟨none, 0, [], rfl, Nat.zero_le _, fun i o h => by simp at h⟩
  · simp at hcs
    subst hcs
    rw [congrArg Prod.fst hx] at hwt
    simp only [DataW.weights, Tryz.underlying22] at hwt
    have hlc : len ≤ capT := by
      have h := hwt _ (List.mem_cons_self ..)
      rw [show Tryz.prog.bytesOf 9 = 16 by kernel_rfl] at h
      simp only [List.length_map] at h
      unfold reachBytes at h
      unfold capT
      omega
    have each : ∀ i, i < len → ∃ s : ByteArray, w.cells? base (a.add i) 1 = some [.string s] ∧ s.size ≤ capT := by
      intro i hi
      have h := hel i hi
      rw [cellsSt, Nat.mul_one, List.getElem?_eq_getElem (by omega), Option.bind_eq_some_iff] at h
      obtain ⟨cs, h1, h2⟩ := h
      obtain ⟨s, rfl, hy, -⟩ := DataW.trod_string Tryz.underlying9 h2
      refine ⟨s, h1, ?_⟩
      have hmem : (elems[i]'(by omega)).1 ∈ elems.map (·.1) := List.mem_map_of_mem (List.getElem_mem _)
      have h3 := hwt s.size (List.mem_cons_of_mem _ (List.mem_append_left _ (weights_all hmem (by
        rw [hy]
        simp only [DataW.weights, List.mem_singleton, Array.length_toList]
        rfl))))
      exact h3
    have key : ∀ k, k ≤ len → ∃ L : List ByteArray, L.length = k ∧ ∀ (i : Nat) (s : ByteArray), L[i]? = some s → w.cells? base (a.add i) 1 = some [.string s] ∧ s.size ≤ capT := by
      intro k
      induction k with
      | zero => exact fun _ => ⟨[], rfl, fun i o h => by simp at h⟩
      | succ k ih =>
        intro hk
        obtain ⟨L, hL, hall⟩ := ih (by omega)
        obtain ⟨s, hs⟩ := each k (by omega)
        refine ⟨L ++ [s], by simp [hL], fun i o' h => ?_⟩
        by_cases hi : i < k
        · rw [List.getElem?_append_left (by omega)] at h
          exact hall i o' h
        · have hi2 := (List.getElem?_eq_some_iff.1 h).1
          rw [List.length_append, List.length_cons, List.length_nil] at hi2
          obtain rfl : i = k := by omega
          rw [List.getElem?_append_right (by omega), hL] at h
          simp at h
          subst h
          exact hs
    obtain ⟨L, hL, hall⟩ := key len (Nat.le_refl _)
    refine ⟨some a, cap, L, by rw [hL], by rw [hL]; exact hlc, fun i s hi => ?_⟩
    have c0 := (World.cells?_some (hall i s hi).1).2.2 0 (by decide)
    obtain ⟨b, off, spot⟩ := a
    have hspot : spot = none := by
      have hi2 := (List.getElem?_eq_some_iff.1 hi).1
      obtain ⟨o0, ho0⟩ : ∃ o0, L[0]? = some o0 := ⟨_, List.getElem?_eq_getElem (by omega)⟩
      have := World.cell?_spot ((World.cells?_some (hall 0 o0 ho0).1).2.2 0 (by decide))
      simpa [Addr.add] using this
    subst hspot
    have e : ((⟨b, off, none⟩ : Addr).add i).add 0 = ⟨b, off + i, none⟩ := by by_cases h : i = 0 <;> simp [Addr.add, h]
    rw [e] at c0
    exact ⟨(hall i s hi).2, b, off, rfl, cell_ltT c0, c0⟩
/-- A value that comes in, as six cells. -/
theorem open_vt : ∀ (fuel : Nat) {cs : List Value} {x : DataW H × List MemPlace}, DataW.trod enc Tryz.prog w base spare held fuel 25 cs = some x → (∀ m ∈ x.1.weights Tryz.prog 25, m ≤ reachBytes) → cs.length = 6 ∧ ∃ t, ValAt w t (.agg cs.toArray) := by
  intro fuel
  induction fuel using Nat.strongRecOn with
  | ind fuel ih =>
    intro cs x h hwt
    obtain ⟨xs, n, rfl, hx, hl, hxs, hf⟩ := DataW.trod_struct Tryz.underlying25 h
    rw [cellsVl] at hl
    refine ⟨hl, ?_⟩
    obtain ⟨c0, c1, c2, c3, c4, c5, rfl⟩ : ∃ a b c d e f, cs = [a, b, c, d, e, f] := by
      match cs, hl with
      | [a, b, c, d, e, f], _ => exact ⟨a, b, c, d, e, f, rfl⟩
    have hxs2 : xs.length = 6 := hxs
    obtain ⟨y0, y1, y2, y3, y4, y5, rfl⟩ : ∃ a b c d e f, xs = [a, b, c, d, e, f] := by
      match xs, hxs2 with
      | [a, b, c, d, e, f], _ => exact ⟨a, b, c, d, e, f, rfl⟩
    rw [congrArg Prod.fst hx] at hwt
    simp only [DataW.weights, Tryz.underlying25] at hwt
    have hw2 : ∀ m ∈ y2.1.weights Tryz.prog 9, m ≤ reachBytes := fun m hm => hwt m (DataW.weights_mem_each (j := 2) rfl rfl m hm)
    have hw3 : ∀ m ∈ y3.1.weights Tryz.prog 9, m ≤ reachBytes := fun m hm => hwt m (DataW.weights_mem_each (j := 3) rfl rfl m hm)
    have hw4 : ∀ m ∈ y4.1.weights Tryz.prog 22, m ≤ reachBytes := fun m hm => hwt m (DataW.weights_mem_each (j := 4) rfl rfl m hm)
    have hw5 : ∀ m ∈ y5.1.weights Tryz.prog 23, m ≤ reachBytes := fun m hm => hwt m (DataW.weights_mem_each (j := 5) rfl rfl m hm)
    have f0 : DataW.trod enc Tryz.prog w base spare held n 3 ((([c0, c1, c2, c3, c4, c5] : List Value).drop 0).take (Tryz.prog.cellsOf 3)) = some y0 := hf 0 _ rfl
    have f1 : DataW.trod enc Tryz.prog w base spare held n 4 ((([c0, c1, c2, c3, c4, c5] : List Value).drop 1).take (Tryz.prog.cellsOf 4)) = some y1 := hf 1 _ rfl
    have f2 : DataW.trod enc Tryz.prog w base spare held n 9 ((([c0, c1, c2, c3, c4, c5] : List Value).drop 2).take (Tryz.prog.cellsOf 9)) = some y2 := hf 2 _ rfl
    have f3 : DataW.trod enc Tryz.prog w base spare held n 9 ((([c0, c1, c2, c3, c4, c5] : List Value).drop 3).take (Tryz.prog.cellsOf 9)) = some y3 := hf 3 _ rfl
    have f4 : DataW.trod enc Tryz.prog w base spare held n 22 ((([c0, c1, c2, c3, c4, c5] : List Value).drop 4).take (Tryz.prog.cellsOf 22)) = some y4 := hf 4 _ rfl
    have f5 : DataW.trod enc Tryz.prog w base spare held n 23 ((([c0, c1, c2, c3, c4, c5] : List Value).drop 5).take (Tryz.prog.cellsOf 23)) = some y5 := hf 5 _ rfl
    rw [show Tryz.prog.cellsOf 3 = 1 by kernel_rfl] at f0
    rw [show Tryz.prog.cellsOf 4 = 1 by kernel_rfl] at f1
    rw [cellsSt] at f2 f3
    rw [cellsKs] at f4
    rw [cellsVs] at f5
    obtain ⟨k, e0, -, hw⟩ := DataW.trod_int Tryz.underlying3 (show DataW.trod enc Tryz.prog w base spare held n 3 [c0] = some y0 from f0)
    obtain ⟨b, e1, -⟩ := DataW.trod_bool Tryz.underlying4 (show DataW.trod enc Tryz.prog w base spare held n 4 [c1] = some y1 from f1)
    obtain ⟨r, e2, g2, -⟩ := DataW.trod_string Tryz.underlying9 (show DataW.trod enc Tryz.prog w base spare held n 9 [c2] = some y2 from f2)
    obtain ⟨t, e3, g3, -⟩ := DataW.trod_string Tryz.underlying9 (show DataW.trod enc Tryz.prog w base spare held n 9 [c3] = some y3 from f3)
    have hz2 : r.size ≤ capT := hw2 r.size (by rw [g2]; simp only [DataW.weights, List.mem_singleton, Array.length_toList]; rfl)
    have hz3 : t.size ≤ capT := hw3 t.size (by rw [g3]; simp only [DataW.weights, List.mem_singleton, Array.length_toList]; rfl)
    obtain ⟨ko, kc, ks, rfl, hz4, hks⟩ := open_keys (show DataW.trod enc Tryz.prog w base spare held n 22 [c4] = some y4 from f4) hw4
    simp only [List.cons.injEq, and_true] at e0 e1 e2 e3
    subst e0 e1 e2 e3
    rcases DataW.trod_slice Tryz.underlying23 (show DataW.trod enc Tryz.prog w base spare held n 23 [c5] = some y5 from f5) with ⟨hcs, _⟩ | ⟨a, len, cap, elems, rest, m, rfl, hcs, hx5, hb, hlc, hm, hlen, hel, -, -⟩
    · simp only [List.cons.injEq, and_true] at hcs
      subst hcs
      exact ⟨_, .mk k b r t ks [] ko kc none 0 (fun _ => #[]) hw ⟨hz2, hz3, hz4, Nat.zero_le _⟩ hks (fun i hi => by simp at hi) (fun i u hu => by simp at hu)⟩
    · simp only [List.cons.injEq, and_true] at hcs
      subst hcs
      rw [congrArg Prod.fst hx5] at hw5
      simp only [DataW.weights, Tryz.underlying23] at hw5
      have hlc2 : len ≤ capT := by
        have h := hw5 _ (List.mem_cons_self ..)
        have hby : 1 ≤ Tryz.prog.bytesOf 25 := by decide +kernel
        simp only [List.length_map] at h
        have h2 := Nat.le_mul_of_pos_right (elems.length + rest.length) hby
        unfold reachBytes at h
        unfold capT
        omega
      have each : ∀ i, i < len → ∃ (cs : List Value) (u : Vt), w.cells? base (a.add (i * 6)) 6 = some cs ∧ cs.length = 6 ∧ ValAt w u (.agg cs.toArray) := by
        intro i hi
        have h := hel i hi
        rw [cellsVl, List.getElem?_eq_getElem (by omega), Option.bind_eq_some_iff] at h
        obtain ⟨cs, h1, h2⟩ := h
        obtain ⟨h3, u, h4⟩ := ih m (by omega) h2 (fun q hq => hw5 q (List.mem_cons_of_mem _ (List.mem_append_left _ (weights_all (List.mem_map_of_mem (List.getElem_mem _)) hq))))
        exact ⟨cs, u, h1, h3, h4⟩
      have key : ∀ q, q ≤ len → ∃ (L : List Vt) (X : Nat → Array Value), L.length = q ∧ ∀ (i : Nat) (u : Vt), L[i]? = some u → w.cells? base (a.add (i * 6)) 6 = some (X i).toList ∧ (X i).size = 6 ∧ ValAt w u (.agg (X i)) := by
        intro q
        induction q with
        | zero => exact fun _ => ⟨[], fun _ => #[], rfl, fun i o h => by simp at h⟩
        | succ q ihq =>
          intro hq
          obtain ⟨L, X, hL, hall⟩ := ihq (by omega)
          obtain ⟨cs, u, h1, h2, h3⟩ := each q (by omega)
          refine ⟨L ++ [u], fun i => if i = q then cs.toArray else X i, by simp [hL], fun i o' h => ?_⟩
          by_cases hi : i < q
          · rw [List.getElem?_append_left (by omega)] at h
            dsimp only
            rw [if_neg (by omega)]
            exact hall i o' h
          · have hi2 := (List.getElem?_eq_some_iff.1 h).1
            rw [List.length_append, List.length_cons, List.length_nil] at hi2
            obtain rfl : i = q := by omega
            rw [List.getElem?_append_right (by omega), hL] at h
            simp at h
            subst h
            dsimp only
            rw [if_pos rfl]
            exact ⟨by simpa using h1, by simpa using h2, h3⟩
      obtain ⟨L, X, hL, hall⟩ := key len (Nat.le_refl _)
      refine ⟨.mk k b r t ks L, ?_⟩
      rw [← hL]
      refine .mk k b r t ks L ko kc (some a) cap X hw ⟨hz2, hz3, hz4, by rw [hL]; exact hlc2⟩ hks (fun i hi => ?_) (fun i u hu => (hall i u hu).2.2)
      obtain ⟨u, hu⟩ : ∃ u, L[i]? = some u := ⟨_, List.getElem?_eq_getElem hi⟩
      obtain ⟨g1, g2, -⟩ := hall i u hu
      refine ⟨g2, ?_⟩
      have hc := World.cells?_some g1
      obtain ⟨bk, off, spot⟩ := a
      have hspot : spot = none := by
        obtain ⟨o0, ho0⟩ : ∃ o0, L[0]? = some o0 := ⟨_, List.getElem?_eq_getElem (by omega)⟩
        have hq := (World.cells?_some (hall 0 o0 ho0).1).2.2 0 (by decide)
        rw [List.getElem?_eq_getElem (by rw [Array.length_toList, (hall 0 o0 ho0).2.1]; decide)] at hq
        have := World.cell?_spot hq
        simpa [Addr.add] using this
      subst hspot
      have e : ∀ j, ((⟨bk, off, none⟩ : Addr).add (i * 6)).add j = ⟨bk, off + i * 6 + j, none⟩ := by
        intro j
        by_cases h : i * 6 = 0 <;> by_cases h' : j = 0 <;> simp [Addr.add, h, h']
      have hcell : ∀ j, j < 6 → w.cell? ⟨bk, off + i * 6 + j, none⟩ = (X i)[j]? := fun j hj => by
        have h2 := hc.2.2 j hj
        rw [e] at h2
        rw [h2, Array.getElem?_eq_getElem (by omega)]
        simp
      refine ⟨bk, off, rfl, ?_, hcell⟩
      have h0 := hcell 0 (by decide)
      rw [Array.getElem?_eq_getElem (by omega)] at h0
      exact cell_ltT h0
theorem okWide_strctT {P : Program} {r : Reach} {b0 : Nat} {t : TypeId} {v : Value} {fs : Array Field} (ht : P.underlying t = some (.struct fs)) (h : Value.okWide P w r b0 t v) : ∃ cs, v = .agg cs ∧ cs.size = P.cellsOf t := by
  simp only [Value.okWide, ht] at h
  obtain ⟨cs, h1, h2, _⟩ := h
  exact ⟨cs, h1, h2⟩
theorem open_value {r : Reach} {b0 : Nat} {v : Value} {d : DataW H} {ps : List MemPlace} (hval : Value.okWide Tryz.prog w r b0 25 v) (hd : DataW.Trod enc Tryz.prog w base spare held 25 v d ps) (hwt : ∀ m ∈ d.weights Tryz.prog 25, m ≤ reachBytes) : ∃ t, ValAt w t v := by
  obtain ⟨cs, rfl, hs⟩ := okWide_strctT Tryz.underlying25 hval
  obtain ⟨fuel, hf⟩ := hd
  obtain ⟨-, t, ht⟩ := open_vt fuel hf hwt
  exact ⟨t, by simpa [Value.cells] using ht⟩
end
end Go.Proofs.YtkejlejhnnjdkaaGreatDoor
/- quarryref00.SameTexts and SameValue: whether two lists of texts, two values, are the same. -/
namespace Go.Proofs.YtkejlejhnnjdkaaGreatDoor
open Go.RowKit Go.Shelf
theorem text_beq (a b : ByteArray) : (a.toList != b.toList) = !decide (a = b) := by
  by_cases h : a = b
  · subst h; simp
  · rw [decide_eq_false h]
    have : (a.toList == b.toList) = false := by
      rw [beq_eq_false_iff_ne]
      intro e
      apply h
      apply ByteArray.ext
      have h2 : a.data.toList = b.data.toList := by rw [← Lib.toList_data, ← Lib.toList_data, e]
      exact Array.toList_inj.1 h2
    simp [bne, this]
set_option maxRecDepth 10000 in
set_option maxHeartbeats 1000000 in
theorem sameK_calls (L L' : List ByteArray) (hl : L.length ≤ capT) (hl' : L'.length ≤ capT) (ao bo : Option Addr) (cap cap' : Nat) (w : World) (hA : KeysAt w ao L) (hB : KeysAt w bo L') :
    Calls Tryz.prog 17 #[.slice ao L.length cap, .slice bo L'.length cap'] w fun e w' => ∃ B : Bool, e = .returned (.bool B) ∧ (B = true ↔ L = L') ∧ Below w.heap.size w w' := by
  unfold capT at hl hl'
  have hA' := hid hA
  have hB' := hid hB
  obtain ⟨n, hn⟩ : ∃ n, Hid (L.length = n) := ⟨_, rfl⟩
  obtain ⟨m, hm⟩ : ∃ m, Hid (L'.length = m) := ⟨_, rfl⟩
  rw [hn.out] at hl ⊢
  rw [hm.out] at hl' ⊢
  have hli : (n : Int) ≤ 9223372036854775807 := by omega
  have hmi : (m : Int) ≤ 9223372036854775807 := by omega
  clear hl hl'
  clear hA hB
  by_cases hnm : n = m
  · subst hnm
    have e0 : ((n : Int) != (n : Int)) = false := by simp
    go_enter Tryz.func17, Tryz.ntmps17
    go_wp2
    go_loopw [5] (fun ii wr => ∃ i : Nat, i ≤ n ∧ ii = .int .i64 (i : Int) ∧ Hid (∀ j, j < i → L[j]? = L'[j]?) ∧ Below w.heap.size w wr) (fun ii _ => n - (intOf ii).toNat)
    case atStart => exact ⟨0, Nat.zero_le _, rfl, hid (fun j hj => by omega), Below.refl _ _⟩
    case round =>
      obtain ⟨i, hi, rfl, hsm, hb⟩ := hrel
      by_cases hlt : i < n
      · have hii : (i : Int) < (n : Int) := by omega
        obtain ⟨p, hp⟩ : ∃ p, Hid (L[i]? = some p) := ⟨_, List.getElem?_eq_getElem (by rw [hn.out]; exact hlt)⟩
        obtain ⟨q, hq⟩ : ∃ q, Hid (L'[i]? = some q) := ⟨_, List.getElem?_eq_getElem (by rw [hm.out]; exact hlt)⟩
        obtain ⟨-, g, o, rfl, hg, cg⟩ := hA'.out i p hp.out
        obtain ⟨-, h, o', rfl, hh, ch⟩ := hB'.out i q hq.out
        have s1 := (hb.cell (p := ⟨g, o + i, none⟩) hg).trans cg
        have s2 := (hb.cell (p := ⟨h, o' + i, none⟩) hh).trans ch
        have ad1 : (⟨g, o, none⟩ : Addr).add i = ⟨g, o + i, none⟩ := by by_cases h : i = 0 <;> simp [Addr.add, h]
        have ad2 : (⟨h, o', none⟩ : Addr).add i = ⟨h, o' + i, none⟩ := by by_cases h : i = 0 <;> simp [Addr.add, h]
        have ep := text_beq p q
        clear cg ch
        by_cases hpq : p = q
        · subst hpq
          have ep2 : (p.toList != p.toList) = false := by simp
          clear ep
          go_wp2
          go_quiet (fail)
          go_wp2
          go_roundw
          case rel => exact ⟨i + 1, by omega, by simp, hid (fun j hj => by
            by_cases e : j = i
            · subst e; rw [hp.out, hq.out]
            · exact hsm.out j (by omega)), below_drewN hb _⟩
          case measure => simp [intOf]; omega
        · have ep2 : (p.toList != q.toList) = true := by rw [text_beq, decide_eq_false hpq]; rfl
          have ep3 : (p.toList == q.toList) = false := by rw [bne] at ep2; simpa using ep2
          clear ep
          go_wp2
          go_quiet (fail)
          go_wp2
          go_ret
          refine ⟨false, rfl, ⟨fun h => (by cases h), fun h => ?_⟩, below_drewN hb _⟩
          subst h
          rw [hp.out] at hq
          have := hq.out
          injection this with this
          exact absurd this hpq
      · obtain rfl : i = n := by omega
        go_wp2
        go_ret
        refine ⟨true, rfl, ⟨fun _ => ?_, fun _ => rfl⟩, hb⟩
        apply List.ext_getElem?
        intro j
        by_cases hj : j < i
        · exact hsm.out j hj
        · rw [List.getElem?_eq_none (by rw [hn.out]; omega), List.getElem?_eq_none (by rw [hm.out]; omega)]
  · have e0 : ((n : Int) != (m : Int)) = true := by simp; omega
    go_enter Tryz.func17, Tryz.ntmps17
    go_wp2
    go_ret
    refine ⟨false, rfl, ⟨fun h => (by cases h), fun h => ?_⟩, Below.refl _ _⟩
    subst h
    exact absurd (hn.out.symm.trans hm.out) hnm
theorem kid_size {k : Int} {b : Bool} {r t : ByteArray} {ks : List ByteArray} {vs : List Vt} {i : Nat} {u : Vt} (h : vs[i]? = some u) : SizeOf.sizeOf u < SizeOf.sizeOf (Vt.mk k b r t ks vs) := by
  have h1 := List.sizeOf_lt_of_mem (List.mem_of_getElem? h)
  simp only [Vt.mk.sizeOf_spec]
  omega
/-- A value's own cells. -/
theorem ValAt.cells {w : World} {u : Vt} {x : Array Value} (h : ValAt w u (.agg x)) : ∃ ko kc vo vc, x = #[.int .i64 u.kind, .bool u.b, .string u.raw, .string u.text, .slice ko u.keys.length kc, .slice vo u.kids.length vc] := by
  cases h with
  | mk k b r t ks vs ko kc vo vc X hw hz hk hr hv => exact ⟨ko, kc, vo, vc, rfl⟩
end Go.Proofs.YtkejlejhnnjdkaaGreatDoor
/- quarryref00.SameValue: whether two values are the same. -/
namespace Go.Proofs.YtkejlejhnnjdkaaGreatDoor
open Go.RowKit Go.Shelf
theorem sizeVl : (Tryz.prog.info? 25).map (·.size) = some 6 := by kernel_rfl
theorem row_range {w : World} {vo : Option Addr} {n : Nat} {X : Nat → Array Value} (h : RowAt w vo n X) {i : Nat} (hi : i < n) : ∃ b off, vo = some ⟨b, off, none⟩ ∧ b < w.heap.size ∧ w.rangeAt b (off + i * 6) (X i).toList ∧ (X i).toList.length = 6 := by
  obtain ⟨h0, b, off, h1, h2, h3⟩ := h i hi
  refine ⟨b, off, h1, h2, fun j v hv => ?_, by rw [Array.length_toList]; exact h0⟩
  have hj : j < 6 := by
    have := (List.getElem?_eq_some_iff.1 hv).1
    rw [Array.length_toList, h0] at this
    exact this
  rw [h3 j hj]
  simpa using hv
theorem no_iff {P : Prop} (h : ¬ P) : (false = true ↔ P) := ⟨fun e => (by cases e), fun p => absurd p h⟩
set_option maxRecDepth 10000 in
set_option maxHeartbeats 8000000 in
theorem sameV_ex : ∀ (n : Nat) (t u : Vt), SizeOf.sizeOf t ≤ n → ∀ (va vb : Value) (w : World), ValAt w t va → ValAt w u vb →
    Calls Tryz.prog 6 #[va, vb] w fun e w' => ∃ B : Bool, e = .returned (.bool B) ∧ (B = true ↔ t = u) ∧ Below w.heap.size w w' := by
  intro n
  induction n with
  | zero =>
    intro t u hs
    cases t
    simp at hs
  | succ n ih =>
    intro t u hs va vb w ha hb
    cases ha with
    | mk k b r t ks vs ko kc vo vc X hw hz hk hr hv =>
    cases hb with
    | mk k' b' r' t' ks' vs' ko' kc' vo' vc' X' hw' hz' hk' hr' hv' =>
    have ih' := hid ih
    have hs' := hid hs
    have hk1 := hid hk
    have hk2 := hid hk'
    have hr1 := hid hr
    have hr2 := hid hr'
    have hv1 := hid hv
    have hv2 := hid hv'
    have hz1 := hid hz
    have hz2 := hid hz'
    obtain ⟨N, hN⟩ : ∃ N, Hid (ks.length = N) := ⟨_, rfl⟩
    obtain ⟨N', hN'⟩ : ∃ N, Hid (ks'.length = N) := ⟨_, rfl⟩
    obtain ⟨M, hM⟩ : ∃ M, Hid (vs.length = M) := ⟨_, rfl⟩
    obtain ⟨M', hM'⟩ : ∃ M, Hid (vs'.length = M) := ⟨_, rfl⟩
    have hsK : Hid (∀ u : World, KeysAt u ko ks → KeysAt u ko' ks' → Calls Tryz.prog 17 #[.slice ko N kc, .slice ko' N' kc'] u fun e w' => ∃ B : Bool, e = .returned (.bool B) ∧ (B = true ↔ ks = ks') ∧ Below u.heap.size u w') := fun u g1 g2 => by
      rw [← hN.out, ← hN'.out]
      exact sameK_calls ks ks' hz1.out.2.2.1 hz2.out.2.2.1 ko ko' kc kc' u g1 g2
    rw [hN.out, hN'.out, hM.out, hM'.out]
    have hMi : (M : Int) ≤ 9223372036854775807 := by have := hz1.out.2.2.2; rw [hM.out] at this; unfold capT at this; omega
    have hMi' : (M' : Int) ≤ 9223372036854775807 := by have := hz2.out.2.2.2; rw [hM'.out] at this; unfold capT at this; omega
    clear ih hs hk hk' hr hr' hv hv' hz hz' hw hw'
    obtain ⟨W1, hW1⟩ : ∃ W, w.alloc (.cells #[.int .i64 k, .bool b, .string r, .string t, .slice ko N kc, .slice vo M vc] 25) = W := ⟨_, rfl⟩
    obtain ⟨W2, hW2⟩ : ∃ W, W1.alloc (.cells #[.int .i64 k', .bool b', .string r', .string t', .slice ko' N' kc', .slice vo' M' vc'] 25) = W := ⟨_, rfl⟩
    have A1 : Hid (At W2 w.heap.size #[.int .i64 k, .bool b, .string r, .string t, .slice ko N kc, .slice vo M vc] 25) := by
      rw [← hW2, ← hW1]
      exact (At.new w _ _).alloc _
    have A2 : Hid (At W2 (w.heap.size + 1) #[.int .i64 k', .bool b', .string r', .string t', .slice ko' N' kc', .slice vo' M' vc'] 25) := by
      have h := At.new W1 #[.int .i64 k', .bool b', .string r', .string t', .slice ko' N' kc', .slice vo' M' vc'] 25
      rw [hW2, ← hW1, World.size_alloc] at h
      exact h
    have hsz1 : W1.heap.size = w.heap.size + 1 := by rw [← hW1, World.size_alloc]
    have B2 : Hid (Below w.heap.size w W2) := by
      rw [← hW2, ← hW1]
      exact ((Below.refl _ w).alloc (Nat.le_refl _) _).alloc (by rw [World.size_alloc]; omega) _
    obtain ⟨a1, ha1⟩ : ∃ a, w.heap.size = a := ⟨_, rfl⟩
    obtain ⟨a2, ha2⟩ : ∃ a, a1 + 1 = a := ⟨_, rfl⟩
    rw [ha1] at A1 hsz1
    rw [ha1, ha2] at A2
    rw [ha2] at hsz1
    have c0 := A1.out.cell 0
    have c1 := A1.out.cell 1
    have c2 := A1.out.cell 2
    have c3 := A1.out.cell 3
    have c4 := A1.out.cell 4
    have c5 := A1.out.cell 5
    have d0 := A2.out.cell 0
    have d1 := A2.out.cell 1
    have d2 := A2.out.cell 2
    have d3 := A2.out.cell 3
    have d4 := A2.out.cell 4
    have d5 := A2.out.cell 5
    simp only [List.getElem?_toArray, List.getElem?_cons_zero, List.getElem?_cons_succ] at c0 c1 c2 c3 c4 c5 d0 d1 d2 d3 d4 d5
    clear ha2
    by_cases e1 : k = k'
    · by_cases e2 : b = b'
      · by_cases e3 : r = r'
        · by_cases e4 : t = t'
          · by_cases e5 : M = M'
            · subst e1 e2 e3 e4 e5
              have f1 : (k != k) = false := by simp
              have f3 : (r.toList != r.toList) = false := by simp
              have f4 : (t.toList != t.toList) = false := by simp
              have f5 : ((M : Int) != (M : Int)) = false := by simp
              have f2 : (b != b) = false := by simp
              go_enter Tryz.func6, Tryz.ntmps6
              go_wp2_with fail
              refine Calls.mono (hsK.out W2 (hk1.out.kept B2.out) (hk2.out.kept B2.out)) ?_
              rintro e w3 ⟨B1, rfl, hB1, hb3⟩
              have A1b := hid (A1.out.keptAll hb3)
              have A2b := hid (A2.out.keptAll hb3)
              have B3 := hid (B2.out.trans (hb3.mono B2.out.size))
              have hB1' := hid hB1
              clear hW1 hW2 hsz1 c0 c1 c2 c3 c4 c5 d0 d1 d2 d3 d4 d5 hb3 hB1 A1 A2 hsK
              cases B1 with
              | false =>
                go_wp2
                go_ret
                refine ⟨false, rfl, no_iff (fun h => ?_), B3.out⟩
                have := hB1'.out.2 (Vt.mk.inj h).2.2.2.2.1
                cases this
              | true =>
                have hks := hid (hB1'.out.1 rfl)
                clear f1 f2 f3 f4 f5
                go_wp2
                go_loopw [5] (fun ii wr => ∃ i : Nat, i ≤ M ∧ ii = .int .i64 (i : Int) ∧ Hid (∀ j, j < i → vs[j]? = vs'[j]?) ∧ Hid (At wr a1 #[.int .i64 k, .bool b, .string r, .string t, .slice ko N kc, .slice vo M vc] 25) ∧ Hid (At wr a2 #[.int .i64 k, .bool b, .string r, .string t, .slice ko' N' kc', .slice vo' M vc'] 25) ∧ Hid (Below w.heap.size w wr)) (fun ii _ => M - (intOf ii).toNat)
                case atStart => exact ⟨0, Nat.zero_le _, rfl, hid (fun j hj => by omega), A1b, A2b, B3⟩
                case round =>
                  obtain ⟨i, hi, rfl, hsm, hA1, hA2, hb⟩ := hrel
                  have c5 := hA1.out.cell 5
                  have d5 := hA2.out.cell 5
                  simp only [List.getElem?_toArray, List.getElem?_cons_zero, List.getElem?_cons_succ] at c5 d5
                  by_cases hlt : i < M
                  · have hli : (i : Int) < (M : Int) := by omega
                    obtain ⟨u1, hu1⟩ : ∃ u, Hid (vs[i]? = some u) := ⟨_, List.getElem?_eq_getElem (by rw [hM.out]; exact hlt)⟩
                    obtain ⟨u2, hu2⟩ : ∃ u, Hid (vs'[i]? = some u) := ⟨_, List.getElem?_eq_getElem (by rw [hM'.out]; exact hlt)⟩
                    obtain ⟨g, o, rfl, hg, hrg, hl1⟩ := row_range (hr1.out.kept hb.out) (i := i) (by rw [hM.out]; exact hlt)
                    obtain ⟨g', o', rfl, hg', hrg', hl2⟩ := row_range (hr2.out.kept hb.out) (i := i) (by rw [hM'.out]; exact hlt)
                    obtain ⟨L1, hL1⟩ : ∃ L, Hid ((X i).toList = L) := ⟨_, rfl⟩
                    obtain ⟨L2, hL2⟩ : ∃ L, Hid ((X' i).toList = L) := ⟨_, rfl⟩
                    rw [hL1.out] at hrg hl1
                    rw [hL2.out] at hrg' hl2
                    have z1 : (Tryz.prog.info? 25).map (·.size) = some L1.length := by rw [hl1]; exact sizeVl
                    have z2 : (Tryz.prog.info? 25).map (·.size) = some L2.length := by rw [hl2]; exact sizeVl
                    have v1 : Hid (ValAt wr u1 (.agg L1.toArray)) := by
                      have := (hv1.out i u1 hu1.out).kept hb.out
                      rw [← hL1.out, Array.toArray_toList]
                      exact this
                    have v2 : Hid (ValAt wr u2 (.agg L2.toArray)) := by
                      have := (hv2.out i u2 hu2.out).kept hb.out
                      rw [← hL2.out, Array.toArray_toList]
                      exact this
                    obtain ⟨S, hS⟩ : ∃ S : Bool, Hid (S = true ↔ u1 = u2) := by
                      by_cases h : u1 = u2
                      · exact ⟨true, hid ⟨fun _ => h, fun _ => rfl⟩⟩
                      · exact ⟨false, hid (no_iff h)⟩
                    have hcall : Hid (∀ wq : World, Below wr.heap.size wr wq → Calls Tryz.prog 6 #[.agg L1.toArray, .agg L2.toArray] wq fun e w' => e = .returned (.bool S) ∧ Below wq.heap.size wq w') := fun wq hq => by
                      have hsz := kid_size (k := k) (b := b) (r := r) (t := t) (ks := ks) hu1.out
                      refine (ih'.out u1 u2 (by have := hs'.out; omega) _ _ wq (v1.out.kept hq) (v2.out.kept hq)).mono ?_
                      rintro e w' ⟨B, rfl, hB, hbb⟩
                      refine ⟨?_, hbb⟩
                      have : B = S := by
                        cases B <;> cases S
                        · rfl
                        · exact absurd (hB.2 (hS.out.1 rfl)) (by simp)
                        · exact absurd (hS.out.2 (hB.1 rfl)) (by simp)
                        · rfl
                      rw [this]
                    have hrgk := hid hrg
                    have hrgk' := hid hrg'
                    clear hrg hrg' hl1 hl2
                    go_wp2
                    refine wp_region_quiet (C := (fun w' => w'.cell? ⟨a1, 5, none⟩ = some (.slice (some ⟨g, o, none⟩) M vc) ∧ w'.cell? ⟨a2, 5, none⟩ = some (.slice (some ⟨g', o', none⟩) M vc') ∧ Below wr.heap.size wr w')) (by kernel_rfl) (by kernel_rfl) (⟨c5, d5, (Below.refl _ _).drew⟩) ?_
                    dsimp only
                    repeat (first
                      | (refine wpQuiet_skip (by rfl) ?_; simp only [Act.put, List.setIfInBounds_toArray, List.set_cons_zero, List.set_cons_succ])
                      | (refine wpQuiet_load 25 _ (g) (o + i * 6) L1 _ (fun wq hq => range_kept hrgk.out hq.2.2) Tryz.underlying25 z1 rfl rfl rfl (by rfl) ?_; simp only [Act.put, List.setIfInBounds_toArray, List.set_cons_zero, List.set_cons_succ])
                      | (refine wpQuiet_load 25 _ (g') (o' + i * 6) L2 _ (fun wq hq => range_kept hrgk'.out hq.2.2) Tryz.underlying25 z2 rfl rfl rfl (by rfl) ?_; simp only [Act.put, List.setIfInBounds_toArray, List.set_cons_zero, List.set_cons_succ])
                      | (refine' wpQuiet_take (by rfl) ?_ ?_
                         rotate_left
                         · (intro wq hq; (try dsimp only at hq); go_simp
                            first
                              | done
                              | with_reducible rfl
                              | (go_at_call 6; have hzz := hcall.out wq hq.2.2; with_reducible refine hzz.mono ?_; clear hzz; rintro e wz ⟨rfl, hb⟩; exact ⟨rfl, (hb.cell (p := ⟨a1, 5, none⟩) (block_lt_of_cell hq.1)).trans hq.1, (hb.cell (p := ⟨a2, 5, none⟩) (block_lt_of_cell hq.2.1)).trans hq.2.1, Below.trans hq.2.2 (Below.mono hb hq.2.2.size)⟩)
                           )
                         simp only [Act.put, List.setIfInBounds_toArray, List.set_cons_zero, List.set_cons_succ]))
                    refine wpQuiet_nil ?_
                    intro w5 hw5
                    have J1 := hid (hA1.out.keptAll hw5.2.2)
                    have J2 := hid (hA2.out.keptAll hw5.2.2)
                    have Jb := hid (hb.out.trans (hw5.2.2.mono hb.out.size))
                    clear hw5 c5 d5 hcall hrgk hrgk'
                    cases S with
                    | true =>
                      have hue := hS.out.1 rfl
                      go_wp2
                      go_roundw
                      case rel => exact ⟨i + 1, by omega, by simp, hid (fun j hj => by
                        by_cases e : j = i
                        · subst e; rw [hu1.out, hu2.out, hue]
                        · exact hsm.out j (by omega)), J1, J2, Jb⟩
                      case measure => simp [intOf]; omega
                    | false =>
                      go_wp2
                      go_ret
                      refine ⟨false, rfl, no_iff (fun h => ?_), Jb.out⟩
                      have h2 := (Vt.mk.inj h).2.2.2.2.2
                      subst h2
                      have h3 := hu1.out
                      rw [hu2.out] at h3
                      injection h3 with h3
                      have := hS.out.2 h3.symm
                      cases this
                  · obtain rfl : i = M := by omega
                    go_wp2
                    go_ret
                    refine ⟨true, rfl, ⟨fun _ => ?_, fun _ => rfl⟩, hb.out⟩
                    have hvs : vs = vs' := by
                      apply List.ext_getElem?
                      intro j
                      by_cases hj : j < i
                      · exact hsm.out j hj
                      · rw [List.getElem?_eq_none (by rw [hM.out]; omega), List.getElem?_eq_none (by rw [hM'.out]; omega)]
                    rw [hvs, hks.out]
            · have f : ((M : Int) != (M' : Int)) = true := by simp; omega
              subst e1 e2 e3 e4
              have f1 : (k != k) = false := by simp
              have f3 : (r.toList != r.toList) = false := by simp
              have f4 : (t.toList != t.toList) = false := by simp
              have f2 : (b != b) = false := by simp
              go_enter Tryz.func6, Tryz.ntmps6
              go_wp2
              go_ret
              refine ⟨false, rfl, no_iff (fun h => e5 ?_), B2.out⟩
              rw [← hM.out, ← hM'.out, (Vt.mk.inj h).2.2.2.2.2]
          · have f : (t.toList != t'.toList) = true := by rw [text_beq, decide_eq_false e4]; rfl
            have f' : (t.toList == t'.toList) = false := by rw [bne] at f; simpa using f
            subst e1 e2 e3
            have f1 : (k != k) = false := by simp
            have f3 : (r.toList != r.toList) = false := by simp
            have f2 : (b != b) = false := by simp
            go_enter Tryz.func6, Tryz.ntmps6
            go_wp2
            go_ret
            exact ⟨false, rfl, no_iff (fun h => e4 (Vt.mk.inj h).2.2.2.1), B2.out⟩
        · have f : (r.toList != r'.toList) = true := by rw [text_beq, decide_eq_false e3]; rfl
          have f' : (r.toList == r'.toList) = false := by rw [bne] at f; simpa using f
          subst e1 e2
          have f1 : (k != k) = false := by simp
          have f2 : (b != b) = false := by simp
          go_enter Tryz.func6, Tryz.ntmps6
          go_wp2
          go_ret
          exact ⟨false, rfl, no_iff (fun h => e3 (Vt.mk.inj h).2.2.1), B2.out⟩
      · have f : (b != b') = true := by cases b <;> cases b' <;> simp_all
        have f' : (b == b') = false := by cases b <;> cases b' <;> simp_all
        subst e1
        have f1 : (k != k) = false := by simp
        go_enter Tryz.func6, Tryz.ntmps6
        go_wp2
        go_ret
        exact ⟨false, rfl, no_iff (fun h => e2 (Vt.mk.inj h).2.1), B2.out⟩
    · have f : (k != k') = true := by simp; exact e1
      have f' : (k == k') = false := by simp; exact e1
      go_enter Tryz.func6, Tryz.ntmps6
      go_wp2
      go_ret
      refine ⟨false, rfl, no_iff (fun h => e1 (Vt.mk.inj h).1), B2.out⟩
/-- Whether two values are the same. -/
theorem sameV_calls (t u : Vt) (va vb : Value) (B : Bool) (hB : Hid (B = true ↔ t = u)) (w : World) (ha : ValAt w t va) (hb : ValAt w u vb) :
    Calls Tryz.prog 6 #[va, vb] w fun e w' => e = .returned (.bool B) ∧ Below w.heap.size w w' := by
  refine (sameV_ex _ t u (Nat.le_refl _) va vb w ha hb).mono ?_
  rintro e w' ⟨C, rfl, hC, hbb⟩
  refine ⟨?_, hbb⟩
  have : C = B := by
    cases C <;> cases B
    · rfl
    · exact absurd (hC.2 (hB.out.1 rfl)) (by simp)
    · exact absurd (hB.out.2 (hC.1 rfl)) (by simp)
    · rfl
  rw [this]
end Go.Proofs.YtkejlejhnnjdkaaGreatDoor

/-
 A text as numbers, and numbers as a text.
-/
namespace Go.Proofs.YtkejlejhnnjdkaaGreatDoor
/-- The bytes of a text. -/
def byts (s : ByteArray) : List Nat := s.data.toList.map UInt8.toNat
theorem byts_length (s : ByteArray) : (byts s).length = s.size := by
 unfold byts
 rw [List.length_map, Array.length_toList]
 rfl
/-- The byte number i of a text. -/
def byt (s : ByteArray) (i : Nat) : Nat := (s.data.toList.getD i 0).toNat
theorem byts_get (s : ByteArray) (i : Nat) (h : i < s.size) : (byts s)[i]? = some (byt s i) := by
 have h' : i < s.data.toList.length := by rw [Array.length_toList]; exact h
 unfold byts byt
 rw [List.getElem?_map, List.getD_eq_getElem?_getD, List.getElem?_eq_getElem h']
 rfl
theorem byts_take (s : ByteArray) (i : Nat) (h : i < s.size) : (byts s).take (i + 1) = (byts s).take i ++ [byt s i] := by
 rw [List.take_add_one, byts_get s i h]
 rfl
theorem byts_drop (s : ByteArray) (i : Nat) (h : i < s.size) : (byts s).drop i = byt s i :: (byts s).drop (i + 1) := by
 have h1 := byts_get s i h
 have hl : i < (byts s).length := by rw [byts_length]; exact h
 rw [List.getElem?_eq_getElem hl] at h1
 rw [List.drop_eq_getElem_cons hl]
 rw [Option.some.inj h1]
theorem byts_whole (s : ByteArray) : (byts s).take s.size = byts s := List.take_of_length_le (by rw [byts_length]; exact Nat.le_refl _)
theorem byts_extract (s : ByteArray) (a b : Nat) : byts (s.extract a b) = ((byts s).drop a).take (b - a) := by
 unfold byts
 have e : (s.extract a b).data.toList = (s.data.toList.drop a).take (b - a) := by
  rw [ByteArray.data_extract, Array.toList_extract]
 rw [e, List.map_take, List.map_drop]
/-- The text of these bytes. -/
def mkS (l : List Nat) : ByteArray := ⟨(l.map UInt8.ofNat).toArray⟩
theorem mkS_size (l : List Nat) : (mkS l).size = l.length := by show (l.map UInt8.ofNat).toArray.size = _; simp
theorem mkS_byts (s : ByteArray) : mkS (byts s) = s := by
 apply ByteArray.ext
 apply Array.toList_inj.1
 show ((byts s).map UInt8.ofNat) = s.data.toList
 unfold byts
 rw [List.map_map]
 conv => rhs; rw [← List.map_id s.data.toList]
 apply List.map_congr_left
 intro x _
 simp
theorem byts_inj {a b : ByteArray} (h : byts a = byts b) : a = b := by rw [← mkS_byts a, ← mkS_byts b, h]
end Go.Proofs.YtkejlejhnnjdkaaGreatDoor

/-
  VaMath, VaWrap, VaSim, VaDocs, VaEnds, one behind the other.
-/
/- A machine that takes a text byte by byte, in numbers. -/
namespace Go.Proofs.YtkejlejhnnjdkaaGreatDoor
/-- The machine: the brackets that are open, what is awaited, whether a text is a name, the rest of a word, how many digits or bytes have to come, and between which bounds. -/
structure Mc where
  op : List Nat
  st : Nat
  nm : Bool
  wd : List Nat
  lf : Nat
  lo : Nat
  hi : Nat
def mc0 : Mc := ⟨[], 0, false, [], 0, 0, 0⟩
def blankN (c : Nat) : Bool := decide (c = 32 ∨ c = 9 ∨ c = 10 ∨ c = 13)
def digN (c : Nat) : Bool := decide (48 ≤ c ∧ c ≤ 57)
def hexN (c : Nat) : Bool := decide ((48 ≤ c ∧ c ≤ 57) ∨ (97 ≤ c ∧ c ≤ 102) ∨ (65 ≤ c ∧ c ≤ 70))
def topN (m : Mc) : Nat := m.op.getLastD 0
/-- The first byte of a value. -/
def valueM (m : Mc) (c : Nat) : Option Mc :=
  if c = 91 then some { m with nm := false, op := m.op ++ [91], st := 1 }
  else if c = 123 then some { m with nm := false, op := m.op ++ [123], st := 2 }
  else if c = 34 then some { m with nm := false, st := 6 }
  else if c = 45 then some { m with nm := false, st := 10 }
  else if c = 48 then some { m with nm := false, st := 11 }
  else if digN c = true then some { m with nm := false, st := 12 }
  else if c = 110 then some { m with nm := false, st := 9, wd := [117, 108, 108] }
  else if c = 116 then some { m with nm := false, st := 9, wd := [114, 117, 101] }
  else if c = 102 then some { m with nm := false, st := 9, wd := [97, 108, 115, 101] }
  else none
/-- A byte behind a value. -/
def afterM (m : Mc) (c : Nat) : Option Mc :=
  if blankN c = true then some { m with st := 5 }
  else if c = 44 ∧ topN m = 91 then some { m with st := 0 }
  else if c = 44 ∧ topN m = 123 then some { m with st := 3 }
  else if (c = 93 ∧ topN m = 91) ∨ (c = 125 ∧ topN m = 123) then some { m with st := 5, op := m.op.dropLast }
  else none
def lowB (c : Nat) : Nat := if c = 224 then 160 else if c = 240 then 144 else 128
def highB (c : Nat) : Nat := if c = 237 then 159 else if c = 244 then 143 else 191
/-- A byte within a text. -/
def charM (m : Mc) (c : Nat) : Option Mc :=
  if 0 < m.lf then (if c < m.lo ∨ m.hi < c then none else some { m with lf := m.lf - 1, lo := 128, hi := 191 })
  else if c = 34 ∧ m.nm = true then some { m with st := 4, lo := 128, hi := 191 }
  else if c = 34 then some { m with st := 5, lo := 128, hi := 191 }
  else if c = 92 then some { m with st := 7, lo := 128, hi := 191 }
  else if 32 ≤ c ∧ c < 128 then some { m with lo := 128, hi := 191 }
  else if 194 ≤ c ∧ c < 224 then some { m with lf := 1, lo := 128, hi := 191 }
  else if 224 ≤ c ∧ c < 240 then some { m with lf := 2, lo := lowB c, hi := highB c }
  else if 240 ≤ c ∧ c < 245 then some { m with lf := 3, lo := lowB c, hi := highB c }
  else none
/-- A byte behind a backslash, or a digit behind its u. -/
def escM (m : Mc) (c : Nat) : Option Mc :=
  if m.st = 8 then (if hexN c = true then some { m with lf := m.lf - 1, st := if m.lf = 1 then 6 else 8 } else none)
  else if c = 34 ∨ c = 92 ∨ c = 47 ∨ c = 98 ∨ c = 102 ∨ c = 110 ∨ c = 114 ∨ c = 116 then some { m with st := 6 }
  else if c = 117 then some { m with st := 8, lf := 4 }
  else none
/-- A byte within a number, or behind one. -/
def numM (m : Mc) (c : Nat) : Option Mc :=
  if m.st = 10 ∧ c = 48 then some { m with st := 11 }
  else if m.st = 10 ∧ digN c = true then some { m with st := 12 }
  else if m.st = 10 then none
  else if (m.st = 12 ∨ m.st = 14 ∨ m.st = 17) ∧ digN c = true then some m
  else if (m.st = 11 ∨ m.st = 12) ∧ c = 46 then some { m with st := 13 }
  else if m.st = 13 then (if digN c = true then some { m with st := 14 } else none)
  else if (m.st = 11 ∨ m.st = 12 ∨ m.st = 14) ∧ (c = 101 ∨ c = 69) then some { m with st := 15 }
  else if m.st = 15 ∧ (c = 43 ∨ c = 45) then some { m with st := 16 }
  else if m.st = 15 ∨ m.st = 16 then (if digN c = true then some { m with st := 17 } else none)
  else afterM m c
/-- A byte is taken. -/
def stepM (m : Mc) (c : Nat) : Option Mc :=
  if 10 ≤ m.st then numM m c
  else if m.st = 6 then charM m c
  else if m.st = 7 ∨ m.st = 8 then escM m c
  else if m.st = 9 then (match m.wd with
    | [] => none
    | x :: r => if x = c then some { m with wd := r, st := if r = [] then 5 else 9 } else none)
  else if blankN c = true then some m
  else if m.st = 5 then afterM m c
  else if m.st = 4 then (if c = 58 then some { m with st := 0 } else none)
  else if m.st = 0 then valueM m c
  else if (m.st = 1 ∧ c = 93) ∨ (m.st = 2 ∧ c = 125) then some { m with op := m.op.dropLast, st := 5 }
  else if m.st = 1 then valueM m c
  else if c = 34 then some { m with nm := true, st := 6 } else none
/-- As many bytes as can be taken, and the machine behind them. -/
def runM (m : Mc) : List Nat → Nat × Mc
  | [] => (0, m)
  | x :: l => match stepM m x with
    | none => (0, m)
    | some m' => ((runM m' l).1 + 1, (runM m' l).2)
def wholeM (m : Mc) : Bool := m.op.isEmpty && decide (m.st = 5 ∨ m.st = 11 ∨ m.st = 12 ∨ m.st = 14 ∨ m.st = 17)
end Go.Proofs.YtkejlejhnnjdkaaGreatDoor
/- The machine: what holds of it at all times; and a text that is taken within brackets. -/
namespace Go.Proofs.YtkejlejhnnjdkaaGreatDoor
/-- What holds of the machine at all times. -/
structure Fit (m : Mc) : Prop where
  st : m.st ≤ 17
  lf : m.st ≠ 6 → m.st ≠ 8 → m.lf = 0
  wd : ∀ x ∈ m.wd, 97 ≤ x ∧ x ≤ 122
  s1 : m.st = 1 → topN m = 91
  s2 : m.st = 2 ∨ m.st = 3 ∨ m.st = 4 → topN m = 123
  s6 : (m.st = 6 ∨ m.st = 7 ∨ m.st = 8) → m.nm = true → topN m = 123
theorem fit0 : Fit mc0 := ⟨by decide, fun _ _ => rfl, (by simp [mc0]), (by simp [mc0]), (by simp [mc0]), (by simp [mc0])⟩
theorem value_fit {m m' : Mc} {c : Nat} (f : Fit m) (h0 : m.lf = 0) (h : valueM m c = some m') : Fit m' := by
  unfold valueM at h
  repeat' split at h
  all_goals first
    | (cases h; done)
    | (injection h with h; subst h
       refine ⟨by simp, by simp [h0], ?_, ?_, ?_, ?_⟩ <;> first
        | (intro x hx; exact f.wd x hx)
        | (simp [topN]; done)
        | (simp; done))
theorem after_fit {m m' : Mc} {c : Nat} (f : Fit m) (h0 : m.lf = 0) (h : afterM m c = some m') : Fit m' := by
  unfold afterM at h
  repeat' split at h
  all_goals first
    | (cases h; done)
    | (injection h with h; subst h
       refine ⟨by simp, by simp [h0], fun x hx => f.wd x hx, by simp, ?_, by simp⟩ <;> first
        | (simp; done)
        | (rename_i hc; intro _; exact hc.2))
theorem char_fit {m m' : Mc} {c : Nat} (f : Fit m) (hs : m.st = 6) (h : charM m c = some m') : Fit m' := by
  unfold charM at h
  have hn := f.s6 (Or.inl hs)
  repeat' split at h
  all_goals first
    | (cases h; done)
    | (injection h with h; subst h
       refine ⟨by simp [hs], ?_, fun x hx => f.wd x hx, by simp [hs], ?_, ?_⟩ <;> first
        | (simp [hs]; done)
        | (intro _ _; simp at *; omega)
        | (intro _ hh; exact hn hh)
        | (intro _; exact hn (by simp_all)))
theorem esc_fit {m m' : Mc} {c : Nat} (f : Fit m) (hs : m.st = 7 ∨ m.st = 8) (h : escM m c = some m') : Fit m' := by
  unfold escM at h
  have hn := f.s6 (Or.inr hs)
  have h7 : m.st = 7 → m.lf = 0 := fun h => f.lf (by omega) (by omega)
  repeat' split at h
  all_goals first
    | (cases h; done)
    | (injection h with h; subst h
       refine ⟨?_, ?_, fun x hx => f.wd x hx, ?_, ?_, ?_⟩ <;> first
        | (intro _ hh; exact hn hh)
        | (simp; done)
        | (simp; split <;> simp; done)
        | (simp; split <;> omega))
theorem num_fit {m m' : Mc} {c : Nat} (f : Fit m) (hs : 10 ≤ m.st) (h : numM m c = some m') : Fit m' := by
  unfold numM at h
  have h0 : m.lf = 0 := f.lf (by omega) (by omega)
  repeat' split at h
  all_goals first
    | (cases h; done)
    | (exact after_fit f h0 h)
    | (injection h with h; subst h; exact f)
    | (injection h with h; subst h
       exact ⟨by simp, by simp [h0], fun x hx => f.wd x hx, by simp, by simp, by simp⟩)
theorem step_fit {m m' : Mc} {c : Nat} (f : Fit m) (h : stepM m c = some m') : Fit m' := by
  unfold stepM at h
  split at h
  · exact num_fit f (by assumption) h
  split at h
  · exact char_fit f (by assumption) h
  split at h
  · exact esc_fit f (by assumption) h
  have h0 : m.lf = 0 := f.lf (by omega) (by omega)
  split at h
  · split at h
    · exact absurd h (by simp)
    · rename_i x r hw
      split at h
      · injection h with h; subst h
        refine ⟨?_, by simp [h0], fun y hy => f.wd y (by rw [hw]; exact List.mem_cons_of_mem _ hy), ?_, ?_, ?_⟩ <;> (simp; split <;> simp)
      · exact absurd h (by simp)
  split at h
  · injection h with h; subst h; exact f
  split at h
  · exact after_fit f h0 h
  split at h
  · split at h
    · injection h with h; subst h
      exact ⟨by simp, by simp [h0], fun x hx => f.wd x hx, by simp, by simp, by simp⟩
    · exact absurd h (by simp)
  split at h
  · exact value_fit f h0 h
  split at h
  · injection h with h; subst h
    exact ⟨by simp, by simp [h0], fun x hx => f.wd x hx, by simp, by simp, by simp⟩
  split at h
  · exact value_fit f h0 h
  split at h
  · injection h with h; subst h
    have hst := f.st
    refine ⟨by simp, by simp [h0], fun x hx => f.wd x hx, by simp, by simp, fun _ _ => ?_⟩
    exact f.s2 (by omega)
  · exact absurd h (by simp)
/-- All bytes of a list are taken. -/
def takeM (m : Mc) : List Nat → Option Mc
  | [] => some m
  | x :: l => match stepM m x with
    | none => none
    | some m' => takeM m' l
theorem takeM_cons {m m1 : Mc} {x : Nat} {l : List Nat} (h : stepM m x = some m1) : takeM m (x :: l) = takeM m1 l := by
  simp [takeM, h]
theorem takeM_app (m : Mc) (a b : List Nat) : takeM m (a ++ b) = (takeM m a).bind (fun k => takeM k b) := by
  induction a generalizing m with
  | nil => rfl
  | cons x a ih =>
    simp only [List.cons_append, takeM]
    cases stepM m x with
    | none => rfl
    | some k => exact ih k
theorem take_fit {m m' : Mc} {l : List Nat} (f : Fit m) (h : takeM m l = some m') : Fit m' := by
  induction l generalizing m with
  | nil => simp [takeM] at h; subst h; exact f
  | cons x l ih =>
    simp only [takeM] at h
    cases hs : stepM m x with
    | none => rw [hs] at h; exact absurd h (by simp)
    | some k => rw [hs] at h; exact ih (step_fit f hs) h
theorem run_take (m : Mc) (l : List Nat) : ((runM m l).1 = l.length ↔ (takeM m l).isSome = true) ∧ (∀ m', takeM m l = some m' → (runM m l).2 = m') ∧ (runM m l).1 ≤ l.length := by
  induction l generalizing m with
  | nil => simp [runM, takeM]
  | cons x l ih =>
    simp only [runM, takeM]
    cases hs : stepM m x with
    | none => simp
    | some k =>
      have := ih k
      simp only [List.length_cons]
      refine ⟨?_, this.2.1, by omega⟩
      rw [← this.1]; omega
/-- A document. -/
def docM (l : List Nat) : Prop := ∃ m, takeM mc0 l = some m ∧ wholeM m = true
end Go.Proofs.YtkejlejhnnjdkaaGreatDoor
/- The machine within brackets takes what the machine alone takes. -/
namespace Go.Proofs.YtkejlejhnnjdkaaGreatDoor
theorem op_ne {m : Mc} (h : topN m ≠ 0) : m.op ≠ [] := by
  intro e; exact h (by simp [topN, e])
end Go.Proofs.YtkejlejhnnjdkaaGreatDoor
/- Documents with blanks and brackets around them. -/
namespace Go.Proofs.YtkejlejhnnjdkaaGreatDoor
theorem whole_of {m : Mc} (h : m.op = []) (hs : m.st = 5 ∨ m.st = 11 ∨ m.st = 12 ∨ m.st = 14 ∨ m.st = 17) : wholeM m = true := by
  simp [wholeM, h, hs]
/-- Behind a value: a byte that is no digit, point or e. -/
theorem step_behind {m : Mc} {c : Nat} (hs : m.st = 5 ∨ m.st = 11 ∨ m.st = 12 ∨ m.st = 14 ∨ m.st = 17)
    (hd : digN c = false) (h1 : c ≠ 46) (h2 : c ≠ 101) (h3 : c ≠ 69) : stepM m c = afterM m c := by
  have hb : ¬ (digN c = true) := by simp [hd]
  unfold stepM
  by_cases h10 : 10 ≤ m.st
  · rw [if_pos h10]
    unfold numM
    rw [if_neg (by omega), if_neg (by omega), if_neg (by omega), if_neg (fun h => hb h.2), if_neg (by omega), if_neg (by omega), if_neg (by omega), if_neg (by omega), if_neg (by omega)]
  · rw [if_neg h10, if_neg (by omega), if_neg (by omega), if_neg (by omega)]
    by_cases h5 : blankN c = true
    · rw [if_pos h5]
      unfold afterM
      rw [if_pos h5]
      have : m.st = 5 := by omega
      rw [← this]
    · rw [if_neg h5, if_pos (by omega)]
/-- As many brackets as are open at most on the way. -/
def mostM (m : Mc) : List Nat → Nat
  | [] => m.op.length
  | x :: l => match stepM m x with
    | none => m.op.length
    | some k => max m.op.length (mostM k l)
theorem most_cons {m k : Mc} {x : Nat} {l : List Nat} (h : stepM m x = some k) : mostM m (x :: l) = max m.op.length (mostM k l) := by
  simp [mostM, h]
/-- A closing bracket, or a comma, behind it. -/
theorem shut {k : Mc} {a c : Nat} (ho : k.op = [a]) (hs : k.st = 5 ∨ k.st = 11 ∨ k.st = 12 ∨ k.st = 14 ∨ k.st = 17)
    (hc : (a = 91 ∧ c = 93) ∨ (a = 123 ∧ c = 125)) : ∃ q, takeM k [c] = some q ∧ wholeM q = true ∧ mostM k [c] = 1 := by
  have ht : topN k = a := by simp [topN, ho]
  have e : stepM k c = some { k with st := 5, op := k.op.dropLast } := by
    rw [step_behind hs (by simp only [digN, decide_eq_false_iff_not]; omega) (by omega) (by omega) (by omega)]
    unfold afterM
    rw [if_neg (by simp only [blankN, decide_eq_true_eq]; omega), if_neg (by omega), if_neg (by omega), if_pos (by rw [ht]; omega)]
  refine ⟨_, takeM_cons e, whole_of (by simp [ho]) (Or.inl rfl), ?_⟩
  rw [most_cons e]
  simp [mostM, ho]
end Go.Proofs.YtkejlejhnnjdkaaGreatDoor
/- A beginning of a document can be brought to its end. -/
namespace Go.Proofs.YtkejlejhnnjdkaaGreatDoor
/-- What else holds of the machine at all times. -/
structure Fit2 (m : Mc) : Prop where
  op : ∀ x ∈ m.op, x = 91 ∨ x = 123
  l8 : m.st = 8 → 1 ≤ m.lf
  l6 : m.st = 6 → 0 < m.lf → m.lo ≤ m.hi
  w9 : m.st = 9 → m.wd ≠ []
theorem fit20 : Fit2 mc0 := ⟨by simp [mc0], by simp [mc0], by simp [mc0], by simp [mc0]⟩
theorem value_fit2 {m m' : Mc} {c : Nat} (f : Fit2 m) (h0 : m.lf = 0) (h : valueM m c = some m') : Fit2 m' := by
  unfold valueM at h
  repeat' split at h
  all_goals first
    | (cases h; done)
    | (injection h with h; subst h
       refine ⟨?_, by simp, by simp [h0], by simp⟩
       intro x hx
       simp only [List.mem_append, List.mem_singleton] at hx
       rcases hx with hx | hx
       · exact f.op x hx
       · omega)
    | (injection h with h; subst h
       exact ⟨fun x hx => f.op x hx, by simp, by simp [h0], by simp⟩)
theorem after_fit2 {m m' : Mc} {c : Nat} (f : Fit2 m) (h : afterM m c = some m') : Fit2 m' := by
  unfold afterM at h
  repeat' split at h
  all_goals first
    | (cases h; done)
    | (injection h with h; subst h
       exact ⟨fun x hx => f.op x ((List.dropLast_sublist _).mem hx), by simp, by simp, by simp⟩)
    | (injection h with h; subst h
       exact ⟨fun x hx => f.op x hx, by simp, by simp, by simp⟩)
theorem low_high (c : Nat) : lowB c ≤ highB c := by
  unfold lowB highB
  repeat' split
  all_goals omega
theorem char_fit2 {m m' : Mc} {c : Nat} (f : Fit2 m) (hs : m.st = 6) (h : charM m c = some m') : Fit2 m' := by
  unfold charM at h
  have hb := low_high c
  repeat' split at h
  all_goals first
    | (cases h; done)
    | (injection h with h; subst h
       refine ⟨fun x hx => f.op x hx, by simp [hs], ?_, by simp [hs]⟩
       intro _ _
       simp only
       omega)
theorem esc_fit2 {m m' : Mc} {c : Nat} (f : Fit2 m) (g : Fit m) (hs : m.st = 7 ∨ m.st = 8) (h : escM m c = some m') : Fit2 m' := by
  unfold escM at h
  have h7 : m.st = 7 → m.lf = 0 := fun h => g.lf (by omega) (by omega)
  have h8 := f.l8
  by_cases e : m.st = 8
  · rw [if_pos e] at h
    by_cases e2 : hexN c = true
    · rw [if_pos e2] at h
      injection h with h; subst h
      have := h8 e
      refine ⟨fun x hx => f.op x hx, ?_, ?_, ?_⟩ <;> (simp only; split <;> omega)
    · rw [if_neg e2] at h; cases h
  · rw [if_neg e] at h
    have := h7 (by omega)
    repeat' split at h
    all_goals first
      | (cases h; done)
      | (injection h with h; subst h
         refine ⟨fun x hx => f.op x hx, ?_, ?_, ?_⟩ <;> (simp only; omega))
theorem num_fit2 {m m' : Mc} {c : Nat} (f : Fit2 m) (h : numM m c = some m') : Fit2 m' := by
  unfold numM at h
  repeat' split at h
  all_goals first
    | (cases h; done)
    | (exact after_fit2 f h)
    | (injection h with h; subst h; exact f)
    | (injection h with h; subst h
       exact ⟨fun x hx => f.op x hx, by simp, by simp, by simp⟩)
theorem step_fit2 {m m' : Mc} {c : Nat} (f : Fit2 m) (g : Fit m) (h : stepM m c = some m') : Fit2 m' := by
  unfold stepM at h
  by_cases h1 : 10 ≤ m.st
  · rw [if_pos h1] at h; exact num_fit2 f h
  rw [if_neg h1] at h
  by_cases h2 : m.st = 6
  · rw [if_pos h2] at h; exact char_fit2 f h2 h
  rw [if_neg h2] at h
  by_cases h3 : m.st = 7 ∨ m.st = 8
  · rw [if_pos h3] at h; exact esc_fit2 f g h3 h
  rw [if_neg h3] at h
  have h0 : m.lf = 0 := g.lf (by omega) (by omega)
  by_cases h4 : m.st = 9
  · rw [if_pos h4] at h
    cases hw : m.wd with
    | nil => rw [hw] at h; cases h
    | cons x r =>
      rw [hw] at h
      simp only at h
      by_cases h5 : x = c
      · rw [if_pos h5] at h
        injection h with h; subst h
        refine ⟨fun x hx => f.op x hx, ?_, ?_, ?_⟩
        · simp only; split <;> omega
        · simp only; split <;> omega
        · intro h hr
          simp only at h hr
          rw [if_pos hr] at h; omega
      · rw [if_neg h5] at h; cases h
  rw [if_neg h4] at h
  by_cases h5 : blankN c = true
  · rw [if_pos h5] at h; injection h with h; subst h; exact f
  rw [if_neg h5] at h
  by_cases h6 : m.st = 5
  · rw [if_pos h6] at h; exact after_fit2 f h
  rw [if_neg h6] at h
  by_cases h7 : m.st = 4
  · rw [if_pos h7] at h
    by_cases h8 : c = 58
    · rw [if_pos h8] at h; injection h with h; subst h
      exact ⟨fun x hx => f.op x hx, by simp, by simp, by simp⟩
    · rw [if_neg h8] at h; cases h
  rw [if_neg h7] at h
  by_cases h8 : m.st = 0
  · rw [if_pos h8] at h; exact value_fit2 f h0 h
  rw [if_neg h8] at h
  by_cases h9 : (m.st = 1 ∧ c = 93) ∨ (m.st = 2 ∧ c = 125)
  · rw [if_pos h9] at h; injection h with h; subst h
    exact ⟨fun x hx => f.op x ((List.dropLast_sublist _).mem hx), by simp, by simp, by simp⟩
  rw [if_neg h9] at h
  by_cases h10 : m.st = 1
  · rw [if_pos h10] at h; exact value_fit2 f h0 h
  rw [if_neg h10] at h
  by_cases h11 : c = 34
  · rw [if_pos h11] at h; injection h with h; subst h
    exact ⟨fun x hx => f.op x hx, by simp, by simp [h0], by simp⟩
  · rw [if_neg h11] at h; cases h
theorem take_fit2 {m m' : Mc} {l : List Nat} (f : Fit2 m) (g : Fit m) (h : takeM m l = some m') : Fit2 m' := by
  induction l generalizing m with
  | nil => simp only [takeM] at h; injection h with h; subst h; exact f
  | cons x l ih =>
    simp only [takeM] at h
    cases hs : stepM m x with
    | none => rw [hs] at h; cases h
    | some k => rw [hs] at h; exact ih (step_fit2 f g hs) (step_fit g hs) h
theorem char_keeps {m k : Mc} {c : Nat} (h : charM m c = some k) : k.op = m.op ∧ k.wd = m.wd := by
  unfold charM at h
  repeat' split at h
  all_goals first
    | (cases h; done)
    | (injection h with h; subst h; exact ⟨rfl, rfl⟩)
theorem esc_keeps {m k : Mc} {c : Nat} (h : escM m c = some k) : k.op = m.op ∧ k.wd = m.wd := by
  unfold escM at h
  repeat' split at h
  all_goals first
    | (cases h; done)
    | (injection h with h; subst h; exact ⟨rfl, rfl⟩)
end Go.Proofs.YtkejlejhnnjdkaaGreatDoor

/-
 EscText, OddWalk.
-/
/-
 Of no program: the backslashes of a text; which bytes are escaped; rows of backslashes.
-/
namespace Go.Proofs.YtkejlejhnnjdkaaGreatDoor
/-- Is the byte i a backslash? -/
def slash (s : ByteArray) (i : Nat) : Bool := decide ((s.data[i]?.getD 0).toNat = 92)
theorem slash_at (s : ByteArray) (i : Nat) (h : i < s.size) : slash s i = decide ((s[i]'h).toNat = 92) := by
 unfold slash
 rw [Array.getElem?_eq_getElem (show i < s.data.size from h)]
 rfl
/-- Is the byte n escaped, where q tells the backslashes, and c whether the byte 0 is? -/
def escG (q : Nat → Bool) (c : Bool) : Nat → Bool
 | 0 => c
 | n + 1 => q n && !escG q c n
theorem escG_succ (q : Nat → Bool) (c : Bool) (n : Nat) : escG q c (n + 1) = (q n && !escG q c n) := rfl
/-- How many backslashes end right ahead of n. -/
def runE (q : Nat → Bool) : Nat → Nat
 | 0 => 0
 | n + 1 => if q n then runE q n + 1 else 0
theorem runE_succ (q : Nat → Bool) (n : Nat) : runE q (n + 1) = if q n then runE q n + 1 else 0 := rfl
theorem runE_of {q : Nat → Bool} {n k : Nat} (hk : k ≤ n) (h : ∀ j, n - k ≤ j → j < n → q j = true) (he : k = n ∨ q (n - k - 1) = false) : runE q n = k := by
 induction n generalizing k with
 | zero => simp [runE]; omega
 | succ n ih =>
  rw [runE_succ]
  cases k with
  | zero =>
   rcases he with he | he
   ·omega
   ·simp at he
    rw [he]; rfl
  | succ k =>
   rw [h n (by omega) (by omega), if_pos rfl, ih (k := k) (by omega) (fun j h1 h2 => h j (by omega) (by omega))]
   rcases he with he | he
   ·exact .inl (by omega)
   ·exact .inr (by rw [← he]; congr 1; omega)
end Go.Proofs.YtkejlejhnnjdkaaGreatDoor
/-
 What escape.Odd answers.
-/
namespace Go.Proofs.YtkejlejhnnjdkaaGreatDoor
open Go.RowKit
set_option maxRecDepth 10000 in
set_option maxHeartbeats 1000000 in
theorem odd_nat (s : ByteArray) (a f : Nat) (o : Bool) (hs : s.size ≤ 9223372036854775807) (ha : a ≤ s.size) (hf : Hid (a - runE (slash s) a = f ∧ decide (runE (slash s) a % 2 = 1) = o)) (w : World) :
  Calls Tryz.prog 107 #[.string s, .int .i64 (a : Int)] w fun e w' => e = .returned (.tuple #[.int .i64 (f : Int), .bool o]) ∧ w' = w := by
 go_enter Tryz.func107, Tryz.ntmps107
 have e0 : decide ((a : Int) < 0) = false := by simp
 have e1 : decide ((s.size : Int) < (a : Int)) = false := by simp; omega
 go_wp2
 go_loop [6] (fun ff => ∃ i : Nat, i ≤ a ∧ ff = .int .i64 (i : Int) ∧ Hid (∀ j, i ≤ j → j < a → slash s j = true)) (fun ff => (intOf ff).toNat)
 case atStart => exact ⟨a, Nat.le_refl _, rfl, fun j h1 h2 => by omega⟩
 case round =>
  obtain ⟨i, hi, rfl, hall⟩ := hrel
  have fin : Hid (i = 0 ∨ slash s (i - 1) = false → i = f ∧ decide ((a - i) % 2 = 1) = o) := by
   intro h
   have hr := runE_of (q := slash s) (n := a) (k := a - i) (by omega) (fun j h1 h2 => hall.out j (by omega) h2) (by
    rcases h with h | h
    ·exact .inl (by omega)
    ·by_cases h0 : a - i = a
     ·exact .inl h0
     ·exact .inr (by rw [show a - (a - i) - 1 = i - 1 by omega]; exact h))
   obtain ⟨h1, h2⟩ := hf.out
   rw [hr] at h1 h2
   exact ⟨by omega, h2⟩
  clear hf
  have done : Hid (i = f → decide ((a - i) % 2 = 1) = o → (((a : Int) - (i : Int)) % 2 == 1) = o) := by
   intro _ h
   rw [← h, show (a : Int) - (i : Int) = ((a - i : Nat) : Int) by omega]
   generalize a - i = d
   rw [show ((d : Int) % 2) = ((d % 2 : Nat) : Int) by simp]
   rcases Nat.mod_two_eq_zero_or_one d with h | h <;> simp [h]
  by_cases h0 : i = 0
  ·subst h0
   obtain ⟨h1, h2⟩ := fin.out (.inl rfl)
   have h3 := done.out h1 h2
   subst h1
   clear h2 fin done hall e0 e1
   go_wp2
   refine bodyPost_ret (results_tmp2 rfl _ _ _) rfl ?_
   exact ⟨by rw [← h3]; simp, rfl⟩
  ·have hp : decide ((0 : Int) < (i : Int)) = true := by simp; omega
   have hlt : i - 1 < s.size := by omega
   have hx := slash_at s (i - 1) hlt
   obtain ⟨j, rfl⟩ : ∃ j, i = j + 1 := ⟨i - 1, by omega⟩
   have ej : ((j + 1 : Nat) : Int) - 1 = (j : Int) := by omega
   simp only [Nat.add_sub_cancel] at hlt hx
   have hjl : (j : Int) < (s.size : Int) := by omega
   obtain ⟨x, hxe⟩ : ∃ x, s[j].toNat = x := ⟨_, rfl⟩
   rw [hxe] at hx
   by_cases h92 : x = 92
   ·subst h92
    have hall' := hall
    clear hall fin done e0 e1
    have hx' := hid hx
    clear hx
    go_wp2
    go_round
    case rel => exact ⟨j, by omega, by simp, fun k h1 h2 => by
           by_cases hk : k = j
           ·rw [hk, hx'.out]; rfl
           ·exact hall'.out k (by omega) h2⟩
    case measure => simp [intOf]
   ·have hne : ((x : Int) == 92) = false := by simp; omega
    rw [decide_eq_false h92] at hx
    obtain ⟨h1, h2⟩ := fin.out (.inr hx)
    have h3 := done.out h1 h2
    subst h1
    clear h2 fin done hall e0 e1 hx
    go_wp2
    refine bodyPost_ret (results_tmp2 rfl _ _ _) rfl ?_
    exact ⟨by rw [← h3]; simp, rfl⟩
/-- Does a text end so that the next byte is escaped, where c says it of its first one? -/
def behindS (s : ByteArray) (c : Bool) : Bool := escG (slash s) c s.size
end Go.Proofs.YtkejlejhnnjdkaaGreatDoor
