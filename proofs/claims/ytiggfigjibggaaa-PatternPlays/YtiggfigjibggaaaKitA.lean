/-
  At, HidKit, Range, QuietC, SeqKit, HeldKit, RoundKit.
-/
import Derived.Test.YtiggfigjibggaaaKit
import Derived.WalkSpells
import Derived.WalkLawsBesides
import Derived.BigQuiet
import Derived.Deep.QuietTactic
import Derived.Outline
import Derived.Deep.RegionHeld3
import Derived.Deep.RegionWith
import Derived.Deep.MidRow
import Derived.Deep.Quiet
import Derived.BigFrame
import Derived.RangeFuncNested
import Derived.RangeFuncBound
import Derived.RangeFuncCalls
import Derived.RangeFuncLeaves
import Derived.Shelf.Abstract
import Derived.Shelf.RegionOpen
import Derived.WalkKit
import Derived.OwnWalkIn
import Derived.TacticsInMore
import Derived.LoopNIn
import Derived.LoopIn
import Derived.RangeFuncBox
import Derived.Maps.AppendAt
/-
  A block of cells of a world, and what keeps it.
-/
namespace Go.Proofs.Ytiggfigjibggaaa
open Go.RowKit

/-- Block b of the world holds just these cells, none of them frozen. -/
def At (w : World) (b : Nat) (cs : Array Value) (t : TypeId) : Prop := w.heap[b]? = some (.cells cs t)

section
variable {w w' : World} {b : Nat} {cs : Array Value} {t : TypeId}
theorem At.lt (h : At w b cs t) : b < w.heap.size := (Array.getElem?_eq_some_iff.1 h).1
theorem At.new (w : World) (cs : Array Value) (t : TypeId) : At (w.alloc (.cells cs t)) w.heap.size cs t := by
  show (w.heap.push _)[_]? = _
  simp
theorem At.kept {n : Nat} (h : At w b cs t) (hb : Below n w w') (hn : b < n) : At w' b cs t := (hb.block b hn).trans h
theorem At.keptAll (h : At w b cs t) (hb : Below w.heap.size w w') : At w' b cs t := h.kept hb h.lt
theorem At.alloc (h : At w b cs t) (o : Obj) : At (w.alloc o) b cs t := (Below.heap_alloc w o b h.lt).trans h
theorem At.drew (h : At w b cs t) : At w.drew b cs t := h
theorem At.drewN (h : At w b cs t) (n : Nat) : At (w.drewN n) b cs t := h
theorem At.other (h : At w b cs t) {p : Addr} (hp : b ≠ p.block) (v : Value) : At (w.setCell p v) b cs t := (Below.heap_setCell w p v b hp).trans h
theorem At.set (h : At w b cs t) (i : Nat) (v : Value) : At (w.setCell ⟨b, i, none⟩ v) b (cs.setIfInBounds i v) t := by
  unfold At at *
  simp only [World.setCell, Array.getElem?_modify, if_true, h, Option.map_some]
  rfl
theorem At.cell (h : At w b cs t) (i : Nat) : w.cell? ⟨b, i, none⟩ = cs[i]? := by
  unfold At at h
  simp [World.cell?, h]
theorem At.frozen (h : At w b cs t) (i : Nat) : w.frozen? ⟨b, i, none⟩ = false := by
  unfold At at h
  simp [World.frozen?, h]
end
end Go.Proofs.Ytiggfigjibggaaa

/-
  A fact is laid aside.
-/
namespace Go.Proofs.Ytiggfigjibggaaa
open Go.RowKit
theorem hid {p : Prop} (h : p) : Hid p := h
end Go.Proofs.Ytiggfigjibggaaa

/-
  Ranges of cells that a world holds, and what keeps them.
-/
namespace Go.Proofs.Ytiggfigjibggaaa
open Go.RowKit

theorem At.range {w : World} {b : Nat} {cs : Array Value} {t : TypeId} (h : At w b cs t) {L : List Value} (hL : L.toArray = cs) : w.rangeAt b 0 L := fun j v hv => by
  rw [Nat.zero_add, h.cell j, ← hL]
  simpa using hv
theorem range_kept {w w1 : World} {b o : Nat} {L : List Value} (h : w.rangeAt b o L) (hb : Below w.heap.size w w1) : w1.rangeAt b o L := fun j v hv => by
  have hc := h j v hv
  rw [hb.cell (p := ⟨b, o + j, none⟩) (block_lt_of_cell hc)]; exact hc
theorem At.there {w : World} {b : Nat} {cs : Array Value} {t : TypeId} (h : At w b cs t) (n : Nat) (hn : cs.size = n) : w.there b 0 n := fun j hj => by
  rw [Nat.zero_add]
  refine ⟨?_, h.frozen j⟩
  rw [h.cell j, Array.getElem?_eq_getElem (by omega)]; rfl
/-- Some cells of a block laid over. -/
theorem At.setCells_at {b : Nat} {t : TypeId} : ∀ (vs : List Value) (o : Nat) {w : World} {cs : Array Value}, At w b cs t → o + vs.length ≤ cs.size → ∃ ds : Array Value, At (w.setCells b o vs) b ds t ∧ ds.size = cs.size ∧ (∀ i, i < o → ds[i]? = cs[i]?) ∧ (∀ i, i < vs.length → ds[o + i]? = vs[i]?) ∧ ∀ i, o + vs.length ≤ i → ds[i]? = cs[i]? := by
  intro vs
  induction vs with
  | nil => exact fun o w cs h _ => ⟨cs, h, rfl, fun _ _ => rfl, fun i hi => by simp at hi, fun _ _ => rfl⟩
  | cons v vs ih =>
    intro o w cs h hle
    simp only [List.length_cons] at hle
    obtain ⟨ds, h1, h2, h3, h4, h5⟩ := ih (o + 1) (h.set o v) (by simp; omega)
    refine ⟨ds, h1, by simpa using h2, ?_, ?_, ?_⟩
    · intro i hi
      rw [h3 i (by omega), Array.getElem?_setIfInBounds_ne (by omega)]
    · intro i hi
      cases i with
      | zero =>
        rw [Nat.add_zero, h3 o (by omega), Array.getElem?_setIfInBounds_self_of_lt (by omega)]
        rfl
      | succ i =>
        have := h4 i (by simpa using hi)
        rw [show o + (i + 1) = o + 1 + i by omega, this]
        simp
    · intro i hi
      simp only [List.length_cons] at hi
      rw [h5 i (by omega), Array.getElem?_setIfInBounds_ne (by omega)]
/-- A whole block laid over. -/
theorem At.setCells {w : World} {b : Nat} {cs : Array Value} {t : TypeId} (h : At w b cs t) (vs : List Value) (hn : cs.size = vs.length) : At (w.setCells b 0 vs) b vs.toArray t := by
  obtain ⟨ds, h1, h2, _, h4, _⟩ := At.setCells_at vs 0 h (by omega)
  have e : ds = vs.toArray := by
    apply Array.ext_getElem?
    intro i
    by_cases hi : i < vs.length
    · have := h4 i hi
      rw [Nat.zero_add] at this
      rw [this]; simp
    · rw [Array.getElem?_eq_none (by omega), Array.getElem?_eq_none (by simp; omega)]
  rwa [e] at h1
theorem At.setCells_other {w : World} {b : Nat} {cs : Array Value} {t : TypeId} (h : At w b cs t) {b' : Nat} (hb : b ≠ b') : ∀ (vs : List Value) (o : Nat), At (w.setCells b' o vs) b cs t := by
  intro vs
  induction vs generalizing w with
  | nil => exact fun _ => h
  | cons v vs ih => exact fun o => ih (h.other (p := ⟨b', o, none⟩) hb v) (o + 1)
theorem below_setCells {n b : Nat} {a w : World} (h : Below n a w) (hb : n ≤ b) : ∀ (vs : List Value) (o : Nat), Below n a (w.setCells b o vs) := by
  intro vs
  induction vs generalizing w with
  | nil => exact fun _ => h
  | cons v vs ih => exact fun o => ih (h.setCell (p := ⟨b, o, none⟩) hb v) (o + 1)
end Go.Proofs.Ytiggfigjibggaaa

/-
  A region that draws its order, walked once in the text's order, in a class of worlds of one's own.
-/
namespace Go.Proofs.Ytiggfigjibggaaa
open Go.RowKit

section
variable {P : Program} {ops : Array Oper} {C : World → Prop} {Q : Act → Prop}
theorem wpQuiet_take {a : Act} {o : Oper} {rest : List Oper} {v : Value} (hw : Region.wanted o (yielded ops a.tmps) = true) (hy : ∀ w, C w → o.quietAt P a C w v) (h : wpQuiet P ops C Q rest (a.put o.dst v)) : wpQuiet P ops C Q (o :: rest) a := by
  unfold wpQuiet
  rw [if_pos hw]
  exact ⟨v, hy, h⟩
theorem wpQuiet_skip {a : Act} {o : Oper} {rest : List Oper} (hw : Region.wanted o (yielded ops a.tmps) = false) (h : wpQuiet P ops C Q rest (a.put o.dst undef)) : wpQuiet P ops C Q (o :: rest) a := by
  unfold wpQuiet
  rw [if_neg (by rw [hw]; decide)]
  exact h
/-- The load of a long array. -/
theorem wpQuiet_load {a : Act} {o : Oper} {rest : List Oper} (ty : TypeId) (x : Operand) (b off : Nat) (cs : List Value) (d : TypeDesc) (hS : ∀ w, C w → w.rangeAt b off cs) (hu : P.underlying ty = some d) (hi : (P.info? ty).map (·.size) = some cs.length) (hd : d.isRow = true)
    (ho : o.op = .load ty x) (hx : a.eval x = .pointer (some ⟨b, off, none⟩)) (hw : Region.wanted o (yielded ops a.tmps) = true) (h : wpQuiet P ops C Q rest (a.put o.dst (.agg cs.toArray))) : wpQuiet P ops C Q (o :: rest) a := by
  refine wpQuiet_take hw (fun w hw' => ?_) h
  unfold Oper.quietAt execOp
  simp only [ho, hx, Instr.loadAt, Instr.sureAddr, Sem.run_bind, Sem.run_pure, Result.andThen_ok, run_loadVar_mid w b off ty cs d (hS w hw') hu hd hi]
  exact ⟨rfl, rfl⟩
end
section
variable {P : Program} {ops : Array Oper} {rest : List Oper} {op : Oper} {a : Act} {w : World} {Q : Exit → Act → World → Prop}
/-- A long array is loaded, in a plain region, guarded or not. -/
theorem wpList_load_want (ty : TypeId) (x : Operand) (b o : Nat) (cs : List Value) (d : TypeDesc) (hc : w.rangeAt b o cs) (hu : P.underlying ty = some d) (hi : (P.info? ty).map (·.size) = some cs.length) (hd : d.isRow = true)
    (ho : op.op = .load ty x) (hx : a.eval x = .pointer (some ⟨b, o, none⟩)) (hw : Region.wanted op (yielded ops a.tmps) = true) (h : wpList P ops Q rest (a.put op.dst (.agg cs.toArray)) w) : wpList P ops Q (op :: rest) a w :=
  BigFrame.wpList_want hw fun _ hK => wp_load_mid ty x ho b o hx cs d hc hu hd hi (hK _ _ h)
/-- A long array is stored. -/
theorem wpList_store_want (ty : TypeId) (x y : Operand) (b o : Nat) (cells : Array Value) (ht : w.there b o cells.size) (hi : (P.info? ty).map (·.size) = some cells.size) (h1 : cells.all (·.oneCell') = true)
    (ho : op.op = .store ty x y) (hx : a.eval x = .pointer (some ⟨b, o, none⟩)) (hy : a.eval y = .agg cells) (hw : Region.wanted op (yielded ops a.tmps) = true) (h : wpList P ops Q rest (a.put op.dst undef) (w.setCells b o cells.toList)) : wpList P ops Q (op :: rest) a w :=
  BigFrame.wpList_want hw fun _ hK => wp_store_mid ty x y ho b o cells hx hy ht hi h1 (hK _ _ h)
end
end Go.Proofs.Ytiggfigjibggaaa

/-
  Long arrays inside a fence, and what an iterator's caller keeps.
-/
namespace Go.Proofs.Ytiggfigjibggaaa
open Go.RowKit Go.Shelf

section
variable {F : Fence} {n : Nat} {P : Program} {ops : Array Oper} {rest : List Oper} {op : Oper} {a : Act} {w : World} {Q : Exit → Act → World → Prop}
theorem wpListIn_load_want (ty : TypeId) (x : Operand) (b o : Nat) (cs : List Value) (d : TypeDesc) (hc : w.rangeAt b o cs) (hu : P.underlying ty = some d) (hi : (P.info? ty).map (·.size) = some cs.length) (hd : d.isRow = true)
    (ho : op.op = .load ty x) (hx : a.eval x = .pointer (some ⟨b, o, none⟩)) (hw : Region.wanted op (yielded ops a.tmps) = true) (h : wpListIn F n P ops Q rest (a.put op.dst (.agg cs.toArray)) w) : wpListIn F n P ops Q (op :: rest) a w :=
  BigFrame.wpListIn_want hw fun K hK => by
    refine ⟨fun f hf => by simp [Oper.about, ho] at hf, ?_⟩
    rw [Oper.semAt_eq _ _ _ (fun c => by rw [ho]; intro h; cases h)]
    unfold execOp
    simp only [ho, hx, Instr.loadAt, Instr.sureAddr, Sem.run_bind, Sem.run_pure, Result.andThen_ok, run_loadVar_mid w b o ty cs d hc hu hd hi]
    exact hK _ _ h
theorem wpListIn_store_want (ty : TypeId) (x y : Operand) (b o : Nat) (cells : Array Value) (ht : w.there b o cells.size) (hi : (P.info? ty).map (·.size) = some cells.size) (h1 : cells.all (·.oneCell') = true)
    (ho : op.op = .store ty x y) (hx : a.eval x = .pointer (some ⟨b, o, none⟩)) (hy : a.eval y = .agg cells) (hw : Region.wanted op (yielded ops a.tmps) = true) (h : wpListIn F n P ops Q rest (a.put op.dst undef) (w.setCells b o cells.toList)) : wpListIn F n P ops Q (op :: rest) a w :=
  BigFrame.wpListIn_want hw fun K hK => by
    refine ⟨fun f hf => by simp [Oper.about, ho] at hf, ?_⟩
    rw [Oper.semAt_eq _ _ _ (fun c => by rw [ho]; intro h; cases h)]
    unfold execOp
    simp only [ho, hx, hy, Instr.storeAt, Instr.sureAddr, Sem.run_bind, Sem.run_pure, Result.andThen_ok, run_storeVar_mid w b o ty cells ht hi h1]
    exact hK _ _ h
end

/-- What was there is as it was, all of it. -/
theorem grown_of_below {w w' : World} (h : Below w.heap.size w w') : w.grownBy w' none := ⟨h.os, h.tape, h.output, h.size, fun k hk _ => h.block k hk⟩
theorem abides_below {β : Type} {B : Nat} {J : β → World → Prop} (hJ : AbidesFrom B J) {s : β} {A A' : World} (h : J s A) (hb : Below A.heap.size A A') : J s A' :=
  hJ s A A' none h (grown_of_below hb) (fun r e => by cases e)
theorem keeps_below {A A' : World} (hb : Below A.heap.size A A') : KeepsOthers A A' := ⟨hb.size, fun k _ hk _ => (hb.block k (Array.getElem?_eq_some_iff.1 hk).1).trans hk⟩
theorem At.own {w w' : World} {b : Nat} {cs : Array Value} {t : TypeId} (h : At w b cs t) {row : Option Nat} (hg : w.grownBy w' row) (hr : ∀ r, row = some r → ∃ o : Obj, w.heap[r]? = some o ∧ o.isCells = false) : At w' b cs t := by
  refine (hg.block b h.lt (fun e => ?_)).trans h
  obtain ⟨o, ho, hc⟩ := hr b e.symm
  have hh : w.heap[b]? = some (.cells cs t) := h
  rw [hh] at ho
  cases ho
  cases hc
end Go.Proofs.Ytiggfigjibggaaa

/-
  A range over an iterator that itself ranges over another one and calls its yield in those rounds: the rounds of the outer loop must leave alone what the iterator has laid since it was called, its own loop's record too. The library's laws ask of the relation that a round keeps (Kp) that it abide a turn of ANY record from the loop's on; here it is asked to abide a turn of the loop's own record alone.
-/
namespace Go.Proofs.Ytiggfigjibggaaa
open Go.RowKit Go.Shelf

section
variable {P : Program}
/-- The two blocks that a loop lays: where deferred calls are gathered, and its record. -/
def Book (D : Nat) (r : Loop) (W : World) : Prop := W.heap[D + 1]? = some (.loop r) ∧ W.heap[D]? = some (.deferred (some []))
theorem Book.keeps {D : Nat} {r : Loop} {W W' : World} (h : Book D r W) (hk : KeepsFrom D W W') : Book D r W' := ⟨hk.same _ _ (by omega) h.1 rfl, hk.same _ _ (Nat.le_refl _) h.2 rfl⟩
theorem Book.lt {D : Nat} {r : Loop} {W : World} (h : Book D r W) : D + 1 < W.heap.size := (Array.getElem?_eq_some_iff.1 h.1).1
theorem Book.turn {D : Nat} {r : Loop} {W : World} (h : Book D r W) (r' : Loop) : Book D r' (W.putObj (D + 1) (.loop r')) :=
  ⟨World.putObj_heap_same h.lt, (World.putObj_heap_other (by omega)).trans h.2⟩
theorem Book.new (w : World) (r : Loop) : Book w.heap.size r ((w.alloc (.deferred (some []))).alloc (.loop r)) := by
  refine ⟨?_, (Below.heap_alloc _ _ _ (by simp)).trans (World.alloc_heap_new w _)⟩
  have h := World.alloc_heap_new (w.alloc (.deferred (some []))) (.loop r)
  rwa [World.size_alloc] at h
theorem Book.grown {D : Nat} {r : Loop} {X Y : World} {row : Option Nat} (h : Book D r X) (hg : X.grownBy Y row) (hr : ∀ k, row = some k → D + 1 < k) : Book D r Y := by
  have h1 := h.lt
  exact ⟨(hg.block _ h1 (fun e => by have := hr _ e.symm; omega)).trans h.1, (hg.block _ (by omega) (fun e => by have := hr _ e.symm; omega)).trans h.2⟩

/-- An iterator's contract, where what its caller says abides a turn of whatever is no cells and was laid since the iterator was called. -/
def SeqHeld {α : Type} (n : Nat) (P : Program) (g : Nat) (lb : Array Value) (encs : α → Array Value) (Kp : World → World → Prop) (S Sp : List α → Prop) (N : Nat) (w : World) : Prop :=
  ∀ (l : Nat) (J Jx : List α → World → Prop) (W : World), Below w.heap.size w W → OwnFrom W.heap.size J → OwnFrom W.heap.size Jx →
    (∀ pre x W1, J pre W1 → pre.length < N → YieldAt Fence.wide (n - 1) P l (encs x) W1 fun e W' =>
      (e = .returned (.bool true) ∧ J (pre ++ [x]) W' ∧ Kp W1 W') ∨ (e = .returned (.bool false) ∧ Jx (pre ++ [x]) W' ∧ Kp W1 W')) →
    J [] W → w.heap.size + 1 + 1 ≤ W.heap.size →
    CallsIn Fence.wide n P g (#[.func (.yield l) #[] #[]] ++ lb) W fun e W' => (∃ v, e = .returned v) ∧ ((∃ xs, S xs ∧ J xs W') ∨ (∃ pre, Sp pre ∧ Jx pre W'))

/-- How the body of a round may be left: each way out keeps Kp. -/
def heldPost {α : Type} (B : Nat) (Kp : World → World → Prop) (I : List α → World → Prop) (Ix : Code → List α → World → Prop) (xs : List α) (W : World) : Exit → Act → World → Prop
  | .normal, _, W' => KeepsFrom B W W' ∧ Kp W W' ∧ I xs W'
  | .ret, _, W' => KeepsFrom B W W' ∧ Kp W W' ∧ Ix .ret xs W'
  | .exit id, _, W' => KeepsFrom B W W' ∧ Kp W W' ∧ Ix (.exit id) xs W'
  | .goto t, _, W' => KeepsFrom B W W' ∧ Kp W W' ∧ Ix (.goto t) xs W'
  | .panic _, _, _ => False
  | .outgrown, _, _ => False

theorem range_held {α : Type} {n : Nat} {g : Operand} {ps : Array Tmp} {assign body : Code} {Q : Exit → Act → World → Prop} {a : Act} {w : World}
    (hn : 1 ≤ n) {gf : Nat} {lb : Array Value} (hg : a.eval g = .func (.func gf) #[] lb) (eg : ∀ args w, (callFunc gf args).run P w = .ok (.enter gf args) w)
    {encs : α → Array Value} {Kp : World → World → Prop} {S Sp : List α → Prop} {N : Nat} {w0 : World} (hseq : SeqHeld (n - 1) P gf lb encs Kp S Sp N w0) (hb0 : Below w0.heap.size w0 w) (hps : ∀ x, (encs x).size = ps.size)
    (hKt : ∀ {A B C : World}, Kp A B → Kp B C → Kp A C) (hKl : ∀ (W : World) (r r' : Loop), W.heap[w.heap.size + 1]? = some (.loop r) → Kp W (W.putObj (w.heap.size + 1) (.loop r')))
    (I : List α → World → Prop) (Ix : Code → List α → World → Prop) (hI : OwnFrom w.heap.size I) (hIx : ∀ c, OwnFrom w.heap.size (Ix c)) (h0 : I [] w) (fr : α → Act)
    (hassign : ∀ (l : Nat) (x : α) (W : World) (K : Act → World → Prop), K (fr x) W →
      assign.wpIn (Fence.wide.inRound l) (n - 1 - 1) P (Exit.then K (fun _ _ _ => False)) { tmps := (ps.zip (encs x)).foldl (fun t (p, v) => t.setIfInBounds p v) a.tmps, defers := [] } W)
    (hbody : ∀ (l : Nat) (pre : List α) (x : α) (W : World), w.heap.size ≤ l → I pre W → pre.length < N → body.wpIn (Fence.wide.inRound l) (n - 1 - 1) P (heldPost w.heap.size Kp I Ix (pre ++ [x]) W) (fr x) W)
    (hdone : ∀ (D : Nat) (xs : List α) (W : World), w.heap.size ≤ D → S xs → I xs W → W.heap[D]? = some (.deferred (some [])) → Q .normal { a with defers := { target := .collected D, args := #[] } :: a.defers } W)
    (hstop : ∀ (D : Nat) (c : Code) (pre : List α) (W : World), w.heap.size ≤ D → Sp pre → Ix c pre W → W.heap[D]? = some (.deferred (some [])) → c.wpIn Fence.wide n P Q { a with defers := { target := .collected D, args := #[] } :: a.defers } W) :
    (Code.rangeFunc g ps assign body).wpIn Fence.wide n P Q a w := by
  refine wpIn_rangeFunc fun fn hfn => ?_
  obtain ⟨L, hL⟩ : ∃ L : LoopState → Option Code → Loop, L = fun st pe => { state := st, pending := pe, fn, tmps := a.tmps, params := ps, assign, body, defers := w.heap.size } := ⟨_, rfl⟩
  have book1 := Book.new w (L .ready none)
  have inv1 : I [] ((w.alloc (.deferred (some []))).alloc (.loop (L .ready none))) := hI.alloc _ (hI.alloc _ h0)
  have below1 : Below w0.heap.size w0 ((w.alloc (.deferred (some []))).alloc (.loop (L .ready none))) :=
    hb0.trans ((((Below.refl _ w).alloc (Nat.le_refl _) _).alloc (by simp) _).mono hb0.size)
  have size1 : ((w.alloc (.deferred (some []))).alloc (.loop (L .ready none))).heap.size = w.heap.size + 1 + 1 := by simp
  have enter1 : (Instr.enterLoop fn a.tmps ps assign body Fence.wide.round).run P w = .ok (w.heap.size + 1, [{ target := .collected w.heap.size, args := #[] }]) ((w.alloc (.deferred (some []))).alloc (.loop (L .ready none))) := by
    rw [hL]; exact run_enterLoop_outer _ _ _ _ _
  generalize (w.alloc (.deferred (some []))).alloc (.loop (L .ready none)) = W1 at *
  -- between two rounds, and behind the one that has left
  obtain ⟨J, hJ⟩ : ∃ J : List α → World → Prop, J = fun pre W => I pre W ∧ Book w.heap.size (L .ready none) W := ⟨_, rfl⟩
  obtain ⟨Jx, hJx⟩ : ∃ Jx : List α → World → Prop, Jx = fun pre W => ∃ c, Ix c pre W ∧ Book w.heap.size (L .done (some c)) W := ⟨_, rfl⟩
  have abJ : OwnFrom W1.heap.size J := fun s X Y row hs hg' hr => by
    rw [hJ] at hs ⊢
    exact ⟨hI s X Y row hs.1 hg' (fun r e => ⟨by have := (hr r e).1; omega, (hr r e).2⟩), hs.2.grown hg' (fun r e => by have := (hr r e).1; omega)⟩
  have abJx : OwnFrom W1.heap.size Jx := fun s X Y row hs hg' hr => by
    rw [hJx] at hs ⊢
    obtain ⟨c, h1, h2⟩ := hs
    exact ⟨c, hIx c s X Y row h1 hg' (fun r e => ⟨by have := (hr r e).1; omega, (hr r e).2⟩), h2.grown hg' (fun r e => by have := (hr r e).1; omega)⟩
  have round : ∀ pre x W, J pre W → pre.length < N → YieldAt Fence.wide (n - 1 - 1) P (w.heap.size + 1) (encs x) W fun e W' =>
      (e = .returned (.bool true) ∧ J (pre ++ [x]) W' ∧ Kp W W') ∨ (e = .returned (.bool false) ∧ Jx (pre ++ [x]) W' ∧ Kp W W') := by
    intro pre x W hs hlen
    rw [hJ] at hs
    obtain ⟨inv, book⟩ := hs
    have hy := run_yield (P := P) (args := encs x) book.1 (by rw [hL]; exact hps x)
    rw [hL] at hy
    refine ⟨fn, _, assign, body, hy, roundIn_of_wpIn hfn (hassign _ x W _ ⟨_, run_beginRound book.1 (by rw [hL]), ?_⟩)⟩
    clear hy
    have busy := book.turn { L .ready none with state := .busy }
    have invB := hI.putObj (.loop { L .ready none with state := .busy }) inv (by omega) book.1 rfl
    have kpB := hKl W _ { L .ready none with state := .busy } book.1
    generalize W.putObj (w.heap.size + 1) (.loop { L .ready none with state := .busy }) = WB at *
    refine wpIn_mono (hbody _ pre x WB (by omega) invB hlen) ?_
    have last : ∀ (jump : Option Code) (W3 : World), KeepsFrom w.heap.size WB W3 → (Instr.endRound (w.heap.size + 1) jump).run P W3 = .ok (.bool jump.isNone) (W3.putObj (w.heap.size + 1) (.loop (L (if jump.isNone then .ready else .done) jump))) ∧ Book w.heap.size { L .ready none with state := .busy } W3 := fun jump W3 hk => by
      have b3 := busy.keeps hk
      have e := run_endRound (P := P) jump b3.1
      refine ⟨?_, b3⟩
      rw [hL] at e ⊢
      exact e
    have leave : ∀ (c : Code) (W3 : World), KeepsFrom w.heap.size WB W3 ∧ Kp WB W3 ∧ Ix c (pre ++ [x]) W3 → ∃ v W4, (Instr.endRound (w.heap.size + 1) (some c)).run P W3 = .ok v W4 ∧
        ((Ending.returned v = .returned (.bool true) ∧ J (pre ++ [x]) W4 ∧ Kp W W4) ∨ (Ending.returned v = .returned (.bool false) ∧ Jx (pre ++ [x]) W4 ∧ Kp W W4)) := fun c W3 ⟨hk, hkp, hx⟩ => by
      obtain ⟨e, b3⟩ := last (some c) W3 hk
      exact ⟨_, _, e, .inr ⟨rfl, by rw [hJx]; exact ⟨c, (hIx c).putObj _ hx (by omega) b3.1 rfl, b3.turn _⟩, hKt kpB (hKt hkp (hKl W3 _ _ b3.1))⟩⟩
    intro e a3 W3 hp
    cases e with
    | normal =>
      obtain ⟨hk, hkp, hi3⟩ := hp
      obtain ⟨e, b3⟩ := last none W3 hk
      exact ⟨_, _, e, .inl ⟨rfl, by rw [hJ]; exact ⟨hI.putObj _ hi3 (by omega) b3.1 rfl, b3.turn _⟩, hKt kpB (hKt hkp (hKl W3 _ _ b3.1))⟩⟩
    | ret => exact leave _ W3 hp
    | exit id => exact leave _ W3 hp
    | goto t => exact leave _ W3 hp
    | panic ch => exact hp.elim
    | outgrown => exact hp.elim
  refine ⟨w.heap.size + 1, [{ target := .collected w.heap.size, args := #[] }], W1, { target := .fn (.func gf) lb, args := #[.func (.yield (w.heap.size + 1)) #[] #[]] }, W1, gf,
    #[.func (.yield (w.heap.size + 1)) #[] #[]] ++ lb, W1, enter1, ?_, ?_, ?_, fun _ => hn, ?_⟩
  · simp only [resolve, hg]
    simp [go_sem]
  · intro f' _; trivial
  · simp [invoke, go_sem, eg]
  · refine (hseq (w.heap.size + 1) J Jx W1 below1 abJ abJx round (by rw [hJ]; exact ⟨inv1, book1⟩) (by have := hb0.size; omega)).mono ?_
    rintro e W2 ⟨⟨v, rfl⟩, h | h⟩
    · obtain ⟨xs, hS, hs⟩ := h
      rw [hJ] at hs
      obtain ⟨hi2, b2⟩ := hs
      have e := run_endLoop (P := P) b2.1 (by rw [hL]; simp)
      exact ⟨none, _, by rw [hL] at e; exact e, hdone _ xs _ (Nat.le_refl _) hS (hI.putObj _ hi2 (by omega) b2.1 rfl) ((World.putObj_heap_other (by omega)).trans b2.2)⟩
    · obtain ⟨pre, hSp, hs⟩ := h
      rw [hJx] at hs
      obtain ⟨c, hx2, b2⟩ := hs
      have e := run_endLoop (P := P) b2.1 (by rw [hL]; simp)
      exact ⟨some c, _, by rw [hL] at e; exact e, hstop _ c pre _ (Nat.le_refl _) hSp ((hIx c).putObj _ hx2 (by omega) b2.1 rfl) ((World.putObj_heap_other (by omega)).trans b2.2)⟩

/-- A round at the wide fence asks for no depth. -/
theorem roundIn_any {n m l : Nat} {f : FuncId} {tmps : Array Value} {assign body : Code} {W : World} {R : Ending → World → Prop} (h : RoundIn Fence.wide n P l f tmps assign body W R) : RoundIn Fence.wide m P l f tmps assign body W R :=
  ⟨h.1, fun c cs _ => h.2 c cs (room_wide _)⟩

section
variable {md : Region.Mode} {ops : Array Oper} {Q : Exit → Act → World → Prop} {l n : Nat}
theorem wpOpIn_lift {i : Nat} {K K' : Act → World → Prop} {a : Act} {w : World} (hnd : ∀ (i : Nat) (o : Oper), ops[i]? = some o → ∀ c, o.op ≠ .defer c) (hK : ∀ a w, K a w → K' a w)
    (h : wpOpIn Fence.wide n P ops Q i K a w) : wpOpIn (Fence.wide.inRound l) n P ops Q i K' a w := by
  replace h := wpOpIn_mono hK h
  unfold wpOpIn at *
  cases ho : ops[i]? with
  | none => simp only [ho] at h ⊢; exact h
  | some o =>
    simp only [ho] at h ⊢
    split at h
    · rename_i hw
      rw [if_pos hw]
      unfold Oper.wpIn at *
      rw [Fence.inRound_round, Oper.semAt_some l _ _ (hnd i o ho)]
      rw [Fence.wide_round, Oper.semAt_none] at h
      exact h
    · rename_i hw
      rw [if_neg hw]
      exact h
theorem wpAnyIn_lift (hnd : ∀ (i : Nat) (o : Oper), ops[i]? = some o → ∀ c, o.op ≠ .defer c) : ∀ (fuel : Nat) (listed : Array Bool) (a : Act) (w : World),
    wpAnyIn Fence.wide n P md ops Q fuel listed a w → wpAnyIn (Fence.wide.inRound l) n P md ops Q fuel listed a w
  | 0, _, _, _, h => h
  | fuel + 1, _, _, _, h => ⟨h.1, fun i hi => wpOpIn_lift hnd (fun a' w' h' => wpAnyIn_lift hnd fuel _ a' w' h') (h.2 i hi)⟩
/-- A region without defer statements that draws its order, inside a round: by the moves of the wide fence. -/
theorem wpIn_region_lift {id : Nat} {a : Act} {w : World} (hm : P.follows .mixedOrders = true) (hnd : ops.all (fun o => match o.op with | .defer _ => false | _ => true) = true)
    (h : wpAnyIn Fence.wide n P .any ops Q ops.size (Array.replicate ops.size false) a w.drew) : (Code.region id ops true).wpIn (Fence.wide.inRound l) n P Q a w := by
  refine wpIn_region_any hm (wpAnyIn_lift ?_ _ _ _ _ h)
  intro i o hi c hc
  have := Array.all_eq_true.1 hnd i (Array.getElem?_eq_some_iff.1 hi).1
  rw [(Array.getElem?_eq_some_iff.1 hi).2, hc] at this
  cases this
end

/-- What a round must leave alone: all below n0; the block Bx; all that lies from B on. -/
def Held (n0 B Bx : Nat) (W W' : World) : Prop := Below n0 W W' ∧ W.heap.size ≤ W'.heap.size ∧ ∀ k o, B ≤ k ∨ k = Bx → W.heap[k]? = some o → W'.heap[k]? = some o
theorem Held.refl (n0 B Bx : Nat) (W : World) : Held n0 B Bx W W := ⟨Below.refl _ _, Nat.le_refl _, fun _ _ _ h => h⟩
theorem Held.trans {n0 B Bx : Nat} {X Y Z : World} (h : Held n0 B Bx X Y) (k : Held n0 B Bx Y Z) : Held n0 B Bx X Z :=
  ⟨h.1.trans k.1, Nat.le_trans h.2.1 k.2.1, fun i o hi ho => k.2.2 i o hi (h.2.2 i o hi ho)⟩
theorem Held.below {n0 B Bx : Nat} {W W' : World} (hn : n0 ≤ W.heap.size) (hb : Below W.heap.size W W') : Held n0 B Bx W W' :=
  ⟨hb.mono hn, hb.size, fun k _ _ ho => (hb.block k (Array.getElem?_eq_some_iff.1 ho).1).trans ho⟩
theorem Held.setCell {n0 B Bx b : Nat} (W : World) (v : Value) (h1 : n0 ≤ b) (h2 : b < B) (h3 : b ≠ Bx) : Held n0 B Bx W (W.setCell ⟨b, 0, none⟩ v) :=
  ⟨(Below.refl _ _).setCell (p := ⟨b, 0, none⟩) h1 v, by simp, fun k _ hk ho => (Below.heap_setCell W ⟨b, 0, none⟩ v k (by show k ≠ b; omega)).trans ho⟩
theorem Held.turn {n0 B Bx l : Nat} {W : World} {r r' : Loop} (hl : W.heap[l]? = some (.loop r)) (h1 : n0 ≤ l) (h2 : l < B) (h3 : l ≠ Bx) : Held n0 B Bx W (W.putObj l (.loop r')) := by
  have hg := grownBy_putObj' W l (.loop r')
  have hlt := (Array.getElem?_eq_some_iff.1 hl).1
  exact ⟨(Below.refl n0 W).grown hg (by omega) (fun k e => by cases e; omega), hg.size, fun k _ hk ho => (World.putObj_heap_other (by omega)).trans ho⟩
theorem Held.drew {n0 B Bx : Nat} (W : World) : Held n0 B Bx W W.drew := ⟨(Below.refl _ _).drew, Nat.le_refl _, fun _ _ _ h => h⟩
theorem Held.at {n0 B Bx : Nat} {W W' : World} (h : Held n0 B Bx W W') {b : Nat} {cs : Array Value} {t : TypeId} (ha : At W b cs t) (hb : B ≤ b ∨ b = Bx) : At W' b cs t := h.2.2 b _ hb ha
theorem Held.from {n0 B Bx : Nat} {W W' : World} (h : Held n0 B Bx W W') {D : Nat} (hD : B ≤ D) : KeepsFrom D W W' := ⟨h.2.1, fun k o hk ho _ => h.2.2 k o (.inl (by omega)) ho⟩
end
end Go.Proofs.Ytiggfigjibggaaa

/-
  A region that draws its order, inside a round of a range over a function.
-/
namespace Go.Proofs.Ytiggfigjibggaaa
open Go.RowKit Go.Shelf

section
variable {P : Program} {md : Region.Mode} {ops : Array Oper} {Q : Exit → Act → World → Prop} {l n : Nat}
theorem wpOpIn_round {i : Nat} {K K' : Act → World → Prop} {a : Act} {w : World} (hnd : ∀ (i : Nat) (o : Oper), ops[i]? = some o → ∀ c, o.op ≠ .defer c) (hLO : ¬ LetsOut Q) (hK : ∀ a w, K a w → K' a w)
    (h : wpOp P ops Q i K a w) : wpOpIn (Fence.wide.inRound l) n P ops Q i K' a w := by
  unfold wpOp at h
  unfold wpOpIn
  cases ho : ops[i]? with
  | none => simp only [ho] at h; exact hK _ _ h
  | some o =>
    simp only [ho] at h ⊢
    split
    · rename_i hw
      simp only [hw, if_true] at h
      rcases h with h | ⟨_, h⟩
      · refine ⟨fun _ _ => trivial, ?_⟩
        rw [Fence.inRound_round, Oper.semAt_some l _ _ (hnd i o ho)]
        unfold Oper.wp at h
        generalize (execOp a.eval o).run P w = r at *
        cases r with
        | ok x w' =>
          cases x <;> simp only [Oper.upon, Oper.uponIn] at h ⊢
          case value u => exact hK _ _ h
          case skip => exact hK _ _ h
          case defer d => exact hK _ _ h
          case enter f args =>
            refine ⟨fun hd => (by cases hd), CallsIn.inRound l (callsIn_wide.2 (Calls.mono h fun e w'' he => ?_))⟩
            cases e with
            | returned u => exact hK _ _ he
            | panicked c => exact he
            | outgrown => exact he
          case row row args =>
            refine ⟨fun hd => (by cases hd), fun c cs _ => ?_⟩
            obtain ⟨v, w'', hr, hs⟩ := h c cs
            exact ⟨v, w'', hK _ _ hr, stepsIn_wide.2 hs⟩
        | halt x w' =>
          cases x <;> simp only [Oper.upon, Oper.uponIn] at h ⊢
          case panic u => exact h
      · exact absurd h hLO
    · rename_i hw
      simp only [hw] at h
      exact ⟨fun _ _ => trivial, hK _ _ h⟩

theorem wpAnyIn_round (hnd : ∀ (i : Nat) (o : Oper), ops[i]? = some o → ∀ c, o.op ≠ .defer c) (hLO : ¬ LetsOut Q) : ∀ (fuel : Nat) (listed : Array Bool) (a : Act) (w : World),
    wpAny P md ops Q fuel listed a w → wpAnyIn (Fence.wide.inRound l) n P md ops Q fuel listed a w
  | 0, _, _, _, h => h
  | fuel + 1, _, _, _, h => ⟨h.1, fun i hi => wpOpIn_round hnd hLO (fun a' w' h' => wpAnyIn_round hnd hLO fuel _ a' w' h') (h.2 i hi)⟩

/-- The region ends as it should, and K holds behind it. -/
def OnlyN (K : Act → World → Prop) : Exit → Act → World → Prop
  | .normal, a, w => K a w
  | _, _, _ => False
/-- A region without defer statements that draws its order, inside a round: by the plain walk that holds S. -/
theorem wpIn_region_round {id : Nat} {a : Act} {w : World} {K : Act → World → Prop} {S : World → Prop} (hm : P.follows .mixedOrders = true) (hnd : ops.all (fun o => match o.op with | .defer _ => false | _ => true) = true)
    (hQ : ∀ a w, K a w → Q .normal a w) (hS : S w.drew)
    (h : S w.drew → wpAnyH P .any ops (OnlyN K) S ops.size (Array.replicate ops.size false) a w.drew) : (Code.region id ops true).wpIn (Fence.wide.inRound l) n P Q a w := by
  refine wpIn_mono (Q := OnlyN K) (wpIn_region_any hm (wpAnyIn_round ?_ ?_ _ _ _ _ (wpAny_of_held _ _ _ _ (h hS)))) ?_
  · intro i o hi c hc
    have := Array.all_eq_true.1 hnd i (Array.getElem?_eq_some_iff.1 hi).1
    rw [(Array.getElem?_eq_some_iff.1 hi).2, hc] at this
    cases this
  · rintro ⟨a, w, h⟩
    exact h
  · intro e a w h
    cases e with
    | normal => exact hQ _ _ h
    | _ => exact False.elim h
end
end Go.Proofs.Ytiggfigjibggaaa
