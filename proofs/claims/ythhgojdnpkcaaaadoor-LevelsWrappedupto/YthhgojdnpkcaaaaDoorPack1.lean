/-
  Texts of mine that others lean on, one behind the other.
-/
import Derived.Test.YthhgojdnpkcaaaaDoorRows
import Derived.WalkKit
import Derived.ProofKit
import Derived.OpenShut
import Derived.ShutString
import Derived.ChangeOld
import Derived.Below
import Derived.Laws.StructEq
import Derived.WalkSpells
import Derived.WalkLawsBesides
import Derived.BigQuiet
import Derived.Deep.QuietTactic
import Derived.Outline
import Derived.Deep.RegionHeld3
import Derived.Deep.RegionWith
import Derived.Deep.MidRow
import Derived.Deep.Quiet
import Derived.BigFrame
import Derived.RangeFuncNested
import Derived.RangeFuncBound
import Derived.RangeFuncCalls
import Derived.RangeFuncLeaves
import Derived.Shelf.Abstract
import Derived.Shelf.RegionOpen
import Derived.OwnWalkIn
import Derived.TacticsInMore
import Derived.LoopNIn
import Derived.LoopIn
import Derived.RangeFuncBox
import Derived.Maps.AppendAt
import Derived.Laws.Bits64b
import Derived.Lib.TrailingZeros
/-
  Small helpers for the laws' proofs: an array of integers that comes in by value; bounds of integers; what is kept of the world.
-/
namespace Go.Proofs.YthhgojdnpkcaaaaDoor
open Go.ChangeShapes Go.WideShapes Go.ChangeAt Go.RowKit

theorem own : ownKnob Tryd.prog.godebug = none := by kernel_rfl
theorem laidOut : laidOutB Tryd.prog = true := by kernel_rfl

section
variable {H : Type} {enc : TypeId × Value → H} {P : Program} {w : World} {base : Nat} {spare : Nat → Bool} {held : Bool}

theorem okWide_array {r : Reach} {b0 : Nat} {t : TypeId} {v : Value} {n : Nat} {e : TypeId} (ht : P.underlying t = some (.array n e)) (h : Value.okWide P w r b0 t v) : ∃ cs, v = .agg cs ∧ cs.size = P.cellsOf t := by
  simp only [Value.okWide, ht] at h
  obtain ⟨cs, h1, h2, _⟩ := h
  exact ⟨cs, h1, h2⟩

/-- An array of integers by value: a list of so many numbers, each of its kind. -/
theorem open_ints_array {r : Reach} {b0 : Nat} {t e : TypeId} {k : IntKind} {n : Nat} {v : Value} {d : DataW H} {ps : List MemPlace} (ht : P.underlying t = some (.array n e)) (he : P.underlying e = some (.int k)) (hc : P.cellsOf e = 1) (hn : P.cellsOf t = n)
    (hval : Value.okWide P w r b0 t v) (hd : DataW.Trod enc P w base spare held t v d ps) :
    ∃ zs : List Int, v = .agg (zs.map (Value.int k)).toArray ∧ zs.length = n ∧ ∀ z ∈ zs, (Lit.int k z).wf = true := by
  obtain ⟨cs, rfl, hs⟩ := okWide_array ht hval
  obtain ⟨fuel, hf⟩ := hd
  obtain ⟨xs, m, _, _, _, hxl, hx⟩ := DataW.trod_array ht hf
  have hcell : ∀ i, i < n → ∃ z : Int, cs[i]? = some (.int k z) ∧ (Lit.int k z).wf = true := by
    intro i hi
    have h1 := hx i hi
    rw [hc, List.getElem?_eq_getElem (by omega)] at h1
    obtain ⟨z, hz, _, hw⟩ := DataW.trod_int he h1
    refine ⟨z, ?_, hw⟩
    have h2 : ((Value.agg cs).cells.toList.drop (i * 1)).take 1 = [.int k z] := hz
    have h3 : (((Value.agg cs).cells.toList.drop (i * 1)).take 1)[0]? = some (.int k z) := by rw [h2]; rfl
    simpa [Value.cells, List.getElem?_take, List.getElem?_drop] using h3
  have hsz : cs.size = n := by rw [hs, hn]
  clear hx hs hf
  have key : ∀ (l : List Value), (∀ i, i < l.length → ∃ z : Int, l[i]? = some (.int k z) ∧ (Lit.int k z).wf = true) → ∃ zs : List Int, l = zs.map (Value.int k) ∧ ∀ z ∈ zs, (Lit.int k z).wf = true := by
    intro l
    induction l with
    | nil => exact fun _ => ⟨[], rfl, by simp⟩
    | cons a l ih =>
      intro h
      obtain ⟨z, hz, hw⟩ := h 0 (by simp)
      obtain ⟨zs, hzs, hws⟩ := ih (fun i hi => by simpa using h (i + 1) (by simpa using hi))
      simp at hz
      exact ⟨z :: zs, by simp [hz, hzs], by intro y hy; rcases List.mem_cons.1 hy with rfl | hy' <;> first | exact hw | exact hws y hy'⟩
  obtain ⟨zs, hzs, hws⟩ := key cs.toList (by intro i hi; simpa using hcell i (by simpa [hsz] using hi))
  refine ⟨zs, ?_, ?_, hws⟩
  · rw [← hzs]
  · have := congrArg List.length hzs; simp at this; omega
end

section
variable {P : Program} (w : World)

theorem run_equalIn_fun (d : Nat) (t e : TypeId) (n : Nat) (k : IntKind) (ht : P.underlying t = some (.array n e)) (he : P.underlying e = some (.int k)) (hsz : ∀ w, (sizeOf e).run P w = .ok 1 w)
    (A B : Array Value) (a b : Nat → Int) (hA : ∀ i, i < n → A[i]? = some (.int k (a i))) (hB : ∀ i, i < n → B[i]? = some (.int k (b i))) :
    (Op.equalIn (d + 2) t (.agg A) (.agg B)).run P w = .ok ((List.range n).all fun i => a i == b i) w := by
  rw [List.range_eq_range', Op.equalIn]
  simp only [Sem.run_bind, run_underlying ht, Result.andThen_ok, hsz, Std.Legacy.Range.forIn_eq_forIn_range', Std.Legacy.Range.size, Nat.sub_zero, Nat.add_sub_cancel, Nat.div_one]
  have hl : ∀ i ∈ List.range' 0 n 1, i < n := fun i hi => by simpa using (List.mem_range'_1.1 hi).2
  generalize List.range' 0 n 1 = l at hl ⊢
  induction l with
  | nil => simp
  | cons i l ih =>
    have hi : i < n := hl i (by simp)
    have px : (part e A (i * 1)).run P w = .ok (.int k (a i)) w := by
      simp [part, isAgg, run_underlying he, hA i hi]
    have py : (part e B (i * 1)).run P w = .ok (.int k (b i)) w := by
      simp [part, isAgg, run_underlying he, hB i hi]
    have pe : (Op.equalIn (d + 1) e (.int k (a i)) (.int k (b i))).run P w = .ok (a i == b i) w := run_equalIn_int w d e k k _ _ he
    simp only [List.forIn_cons, Sem.run_bind, px, py, pe, Result.andThen_ok, List.all_cons]
    cases hb : (a i == b i)
    · simp
    · simp only [Bool.not_true, Bool.false_eq_true, if_false, Sem.run_pure, Result.andThen_ok, Bool.true_and]
      exact ih fun j hj => hl j (by simp [hj])
end

theorem wf_u64 {a : Int} (h : (Lit.int .u64 a).wf = true) : 0 ≤ a ∧ a < 18446744073709551616 := by
  have := Go.bounds_u64 h; omega
theorem wf_u8 {a : Int} (h : (Lit.int .u8 a).wf = true) : 0 ≤ a ∧ a < 256 := by
  have := Go.bounds_u8 h; omega
theorem wf_i8 {a : Int} (h : (Lit.int .i8 a).wf = true) : -128 ≤ a ∧ a < 128 := by
  have := Go.bounds_i8 h; omega
theorem wf_i64 {a : Int} (h : (Lit.int .i64 a).wf = true) : -9223372036854775808 ≤ a ∧ a < 9223372036854775808 := by
  have := Go.bounds_i64 h; omega

/-- All old cells, all old marks read as before. -/
theorem bcell {W w1 : World} (hb : Below W.heap.size W w1) : (∀ b o, b < W.heap.size → w1.cell? ⟨b, o, none⟩ = W.cell? ⟨b, o, none⟩) ∧ (∀ b o, b < W.heap.size → w1.frozen? ⟨b, o, none⟩ = W.frozen? ⟨b, o, none⟩) :=
  ⟨fun b o h => hb.cell (p := ⟨b, o, none⟩) h, fun b o h => hb.frozen (p := ⟨b, o, none⟩) h⟩
end Go.Proofs.YthhgojdnpkcaaaaDoor

/-
  At, HidKit, Range, QuietC, SeqKit, HeldKit, RoundKit.
-/
/-
  A block of cells of a world, and what keeps it.
-/
namespace Go.Proofs.YthhgojdnpkcaaaaDoor
open Go.RowKit

/-- Block b of the world holds just these cells, none of them frozen. -/
def At (w : World) (b : Nat) (cs : Array Value) (t : TypeId) : Prop := w.heap[b]? = some (.cells cs t)

section
variable {w w' : World} {b : Nat} {cs : Array Value} {t : TypeId}
theorem At.lt (h : At w b cs t) : b < w.heap.size := (Array.getElem?_eq_some_iff.1 h).1
theorem At.new (w : World) (cs : Array Value) (t : TypeId) : At (w.alloc (.cells cs t)) w.heap.size cs t := by
  show (w.heap.push _)[_]? = _
  simp
theorem At.kept {n : Nat} (h : At w b cs t) (hb : Below n w w') (hn : b < n) : At w' b cs t := (hb.block b hn).trans h
theorem At.keptAll (h : At w b cs t) (hb : Below w.heap.size w w') : At w' b cs t := h.kept hb h.lt
theorem At.alloc (h : At w b cs t) (o : Obj) : At (w.alloc o) b cs t := (Below.heap_alloc w o b h.lt).trans h
theorem At.drew (h : At w b cs t) : At w.drew b cs t := h
theorem At.drewN (h : At w b cs t) (n : Nat) : At (w.drewN n) b cs t := h
theorem At.other (h : At w b cs t) {p : Addr} (hp : b ≠ p.block) (v : Value) : At (w.setCell p v) b cs t := (Below.heap_setCell w p v b hp).trans h
theorem At.set (h : At w b cs t) (i : Nat) (v : Value) : At (w.setCell ⟨b, i, none⟩ v) b (cs.setIfInBounds i v) t := by
  unfold At at *
  simp only [World.setCell, Array.getElem?_modify, if_true, h, Option.map_some]
  rfl
theorem At.cell (h : At w b cs t) (i : Nat) : w.cell? ⟨b, i, none⟩ = cs[i]? := by
  unfold At at h
  simp [World.cell?, h]
theorem At.frozen (h : At w b cs t) (i : Nat) : w.frozen? ⟨b, i, none⟩ = false := by
  unfold At at h
  simp [World.frozen?, h]
end
end Go.Proofs.YthhgojdnpkcaaaaDoor

/-
  A fact is laid aside.
-/
namespace Go.Proofs.YthhgojdnpkcaaaaDoor
open Go.RowKit
theorem hid {p : Prop} (h : p) : Hid p := h
end Go.Proofs.YthhgojdnpkcaaaaDoor

/-
  Ranges of cells that a world holds, and what keeps them.
-/
namespace Go.Proofs.YthhgojdnpkcaaaaDoor
open Go.RowKit

theorem At.range {w : World} {b : Nat} {cs : Array Value} {t : TypeId} (h : At w b cs t) {L : List Value} (hL : L.toArray = cs) : w.rangeAt b 0 L := fun j v hv => by
  rw [Nat.zero_add, h.cell j, ← hL]
  simpa using hv
theorem range_kept {w w1 : World} {b o : Nat} {L : List Value} (h : w.rangeAt b o L) (hb : Below w.heap.size w w1) : w1.rangeAt b o L := fun j v hv => by
  have hc := h j v hv
  rw [hb.cell (p := ⟨b, o + j, none⟩) (block_lt_of_cell hc)]; exact hc
theorem At.there {w : World} {b : Nat} {cs : Array Value} {t : TypeId} (h : At w b cs t) (n : Nat) (hn : cs.size = n) : w.there b 0 n := fun j hj => by
  rw [Nat.zero_add]
  refine ⟨?_, h.frozen j⟩
  rw [h.cell j, Array.getElem?_eq_getElem (by omega)]; rfl
/-- Some cells of a block laid over. -/
theorem At.setCells_at {b : Nat} {t : TypeId} : ∀ (vs : List Value) (o : Nat) {w : World} {cs : Array Value}, At w b cs t → o + vs.length ≤ cs.size → ∃ ds : Array Value, At (w.setCells b o vs) b ds t ∧ ds.size = cs.size ∧ (∀ i, i < o → ds[i]? = cs[i]?) ∧ (∀ i, i < vs.length → ds[o + i]? = vs[i]?) ∧ ∀ i, o + vs.length ≤ i → ds[i]? = cs[i]? := by
  intro vs
  induction vs with
  | nil => exact fun o w cs h _ => ⟨cs, h, rfl, fun _ _ => rfl, fun i hi => by simp at hi, fun _ _ => rfl⟩
  | cons v vs ih =>
    intro o w cs h hle
    simp only [List.length_cons] at hle
    obtain ⟨ds, h1, h2, h3, h4, h5⟩ := ih (o + 1) (h.set o v) (by simp; omega)
    refine ⟨ds, h1, by simpa using h2, ?_, ?_, ?_⟩
    · intro i hi
      rw [h3 i (by omega), Array.getElem?_setIfInBounds_ne (by omega)]
    · intro i hi
      cases i with
      | zero =>
        rw [Nat.add_zero, h3 o (by omega), Array.getElem?_setIfInBounds_self_of_lt (by omega)]
        rfl
      | succ i =>
        have := h4 i (by simpa using hi)
        rw [show o + (i + 1) = o + 1 + i by omega, this]
        simp
    · intro i hi
      simp only [List.length_cons] at hi
      rw [h5 i (by omega), Array.getElem?_setIfInBounds_ne (by omega)]
/-- A whole block laid over. -/
theorem At.setCells {w : World} {b : Nat} {cs : Array Value} {t : TypeId} (h : At w b cs t) (vs : List Value) (hn : cs.size = vs.length) : At (w.setCells b 0 vs) b vs.toArray t := by
  obtain ⟨ds, h1, h2, _, h4, _⟩ := At.setCells_at vs 0 h (by omega)
  have e : ds = vs.toArray := by
    apply Array.ext_getElem?
    intro i
    by_cases hi : i < vs.length
    · have := h4 i hi
      rw [Nat.zero_add] at this
      rw [this]; simp
    · rw [Array.getElem?_eq_none (by omega), Array.getElem?_eq_none (by simp; omega)]
  rwa [e] at h1
theorem At.setCells_other {w : World} {b : Nat} {cs : Array Value} {t : TypeId} (h : At w b cs t) {b' : Nat} (hb : b ≠ b') : ∀ (vs : List Value) (o : Nat), At (w.setCells b' o vs) b cs t := by
  intro vs
  induction vs generalizing w with
  | nil => exact fun _ => h
  | cons v vs ih => exact fun o => ih (h.other (p := ⟨b', o, none⟩) hb v) (o + 1)
theorem below_setCells {n b : Nat} {a w : World} (h : Below n a w) (hb : n ≤ b) : ∀ (vs : List Value) (o : Nat), Below n a (w.setCells b o vs) := by
  intro vs
  induction vs generalizing w with
  | nil => exact fun _ => h
  | cons v vs ih => exact fun o => ih (h.setCell (p := ⟨b, o, none⟩) hb v) (o + 1)
end Go.Proofs.YthhgojdnpkcaaaaDoor

/-
  A region that draws its order, walked once in the text's order, in a class of worlds of one's own.
-/
namespace Go.Proofs.YthhgojdnpkcaaaaDoor
open Go.RowKit

section
variable {P : Program} {ops : Array Oper} {C : World → Prop} {Q : Act → Prop}
theorem wpQuiet_take {a : Act} {o : Oper} {rest : List Oper} {v : Value} (hw : Region.wanted o (yielded ops a.tmps) = true) (hy : ∀ w, C w → o.quietAt P a C w v) (h : wpQuiet P ops C Q rest (a.put o.dst v)) : wpQuiet P ops C Q (o :: rest) a := by
  unfold wpQuiet
  rw [if_pos hw]
  exact ⟨v, hy, h⟩
theorem wpQuiet_skip {a : Act} {o : Oper} {rest : List Oper} (hw : Region.wanted o (yielded ops a.tmps) = false) (h : wpQuiet P ops C Q rest (a.put o.dst undef)) : wpQuiet P ops C Q (o :: rest) a := by
  unfold wpQuiet
  rw [if_neg (by rw [hw]; decide)]
  exact h
/-- The load of a long array. -/
theorem wpQuiet_load {a : Act} {o : Oper} {rest : List Oper} (ty : TypeId) (x : Operand) (b off : Nat) (cs : List Value) (d : TypeDesc) (hS : ∀ w, C w → w.rangeAt b off cs) (hu : P.underlying ty = some d) (hi : (P.info? ty).map (·.size) = some cs.length) (hd : d.isRow = true)
    (ho : o.op = .load ty x) (hx : a.eval x = .pointer (some ⟨b, off, none⟩)) (hw : Region.wanted o (yielded ops a.tmps) = true) (h : wpQuiet P ops C Q rest (a.put o.dst (.agg cs.toArray))) : wpQuiet P ops C Q (o :: rest) a := by
  refine wpQuiet_take hw (fun w hw' => ?_) h
  unfold Oper.quietAt execOp
  simp only [ho, hx, Instr.loadAt, Instr.sureAddr, Sem.run_bind, Sem.run_pure, Result.andThen_ok, run_loadVar_mid w b off ty cs d (hS w hw') hu hd hi]
  exact ⟨rfl, rfl⟩
end
section
variable {P : Program} {ops : Array Oper} {rest : List Oper} {op : Oper} {a : Act} {w : World} {Q : Exit → Act → World → Prop}
/-- A long array is loaded, in a plain region, guarded or not. -/
theorem wpList_load_want (ty : TypeId) (x : Operand) (b o : Nat) (cs : List Value) (d : TypeDesc) (hc : w.rangeAt b o cs) (hu : P.underlying ty = some d) (hi : (P.info? ty).map (·.size) = some cs.length) (hd : d.isRow = true)
    (ho : op.op = .load ty x) (hx : a.eval x = .pointer (some ⟨b, o, none⟩)) (hw : Region.wanted op (yielded ops a.tmps) = true) (h : wpList P ops Q rest (a.put op.dst (.agg cs.toArray)) w) : wpList P ops Q (op :: rest) a w :=
  BigFrame.wpList_want hw fun _ hK => wp_load_mid ty x ho b o hx cs d hc hu hd hi (hK _ _ h)
/-- A long array is stored. -/
theorem wpList_store_want (ty : TypeId) (x y : Operand) (b o : Nat) (cells : Array Value) (ht : w.there b o cells.size) (hi : (P.info? ty).map (·.size) = some cells.size) (h1 : cells.all (·.oneCell') = true)
    (ho : op.op = .store ty x y) (hx : a.eval x = .pointer (some ⟨b, o, none⟩)) (hy : a.eval y = .agg cells) (hw : Region.wanted op (yielded ops a.tmps) = true) (h : wpList P ops Q rest (a.put op.dst undef) (w.setCells b o cells.toList)) : wpList P ops Q (op :: rest) a w :=
  BigFrame.wpList_want hw fun _ hK => wp_store_mid ty x y ho b o cells hx hy ht hi h1 (hK _ _ h)
end
end Go.Proofs.YthhgojdnpkcaaaaDoor

/-
  Long arrays inside a fence, and what an iterator's caller keeps.
-/
namespace Go.Proofs.YthhgojdnpkcaaaaDoor
open Go.RowKit Go.Shelf

section
variable {F : Fence} {n : Nat} {P : Program} {ops : Array Oper} {rest : List Oper} {op : Oper} {a : Act} {w : World} {Q : Exit → Act → World → Prop}
theorem wpListIn_load_want (ty : TypeId) (x : Operand) (b o : Nat) (cs : List Value) (d : TypeDesc) (hc : w.rangeAt b o cs) (hu : P.underlying ty = some d) (hi : (P.info? ty).map (·.size) = some cs.length) (hd : d.isRow = true)
    (ho : op.op = .load ty x) (hx : a.eval x = .pointer (some ⟨b, o, none⟩)) (hw : Region.wanted op (yielded ops a.tmps) = true) (h : wpListIn F n P ops Q rest (a.put op.dst (.agg cs.toArray)) w) : wpListIn F n P ops Q (op :: rest) a w :=
  BigFrame.wpListIn_want hw fun K hK => by
    refine ⟨fun f hf => by simp [Oper.about, ho] at hf, ?_⟩
    rw [Oper.semAt_eq _ _ _ (fun c => by rw [ho]; intro h; cases h)]
    unfold execOp
    simp only [ho, hx, Instr.loadAt, Instr.sureAddr, Sem.run_bind, Sem.run_pure, Result.andThen_ok, run_loadVar_mid w b o ty cs d hc hu hd hi]
    exact hK _ _ h
theorem wpListIn_store_want (ty : TypeId) (x y : Operand) (b o : Nat) (cells : Array Value) (ht : w.there b o cells.size) (hi : (P.info? ty).map (·.size) = some cells.size) (h1 : cells.all (·.oneCell') = true)
    (ho : op.op = .store ty x y) (hx : a.eval x = .pointer (some ⟨b, o, none⟩)) (hy : a.eval y = .agg cells) (hw : Region.wanted op (yielded ops a.tmps) = true) (h : wpListIn F n P ops Q rest (a.put op.dst undef) (w.setCells b o cells.toList)) : wpListIn F n P ops Q (op :: rest) a w :=
  BigFrame.wpListIn_want hw fun K hK => by
    refine ⟨fun f hf => by simp [Oper.about, ho] at hf, ?_⟩
    rw [Oper.semAt_eq _ _ _ (fun c => by rw [ho]; intro h; cases h)]
    unfold execOp
    simp only [ho, hx, hy, Instr.storeAt, Instr.sureAddr, Sem.run_bind, Sem.run_pure, Result.andThen_ok, run_storeVar_mid w b o ty cells ht hi h1]
    exact hK _ _ h
end

/-- What was there is as it was, all of it. -/
theorem grown_of_below {w w' : World} (h : Below w.heap.size w w') : w.grownBy w' none := ⟨h.os, h.tape, h.output, h.size, fun k hk _ => h.block k hk⟩
theorem abides_below {β : Type} {B : Nat} {J : β → World → Prop} (hJ : AbidesFrom B J) {s : β} {A A' : World} (h : J s A) (hb : Below A.heap.size A A') : J s A' :=
  hJ s A A' none h (grown_of_below hb) (fun r e => by cases e)
theorem keeps_below {A A' : World} (hb : Below A.heap.size A A') : KeepsOthers A A' := ⟨hb.size, fun k _ hk _ => (hb.block k (Array.getElem?_eq_some_iff.1 hk).1).trans hk⟩
theorem At.own {w w' : World} {b : Nat} {cs : Array Value} {t : TypeId} (h : At w b cs t) {row : Option Nat} (hg : w.grownBy w' row) (hr : ∀ r, row = some r → ∃ o : Obj, w.heap[r]? = some o ∧ o.isCells = false) : At w' b cs t := by
  refine (hg.block b h.lt (fun e => ?_)).trans h
  obtain ⟨o, ho, hc⟩ := hr b e.symm
  have hh : w.heap[b]? = some (.cells cs t) := h
  rw [hh] at ho
  cases ho
  cases hc
end Go.Proofs.YthhgojdnpkcaaaaDoor

/-
  A range over an iterator that itself ranges over another one and calls its yield in those rounds: the rounds of the outer loop must leave alone what the iterator has laid since it was called, its own loop's record too. The library's laws ask of the relation that a round keeps (Kp) that it abide a turn of ANY record from the loop's on; here it is asked to abide a turn of the loop's own record alone.
-/
namespace Go.Proofs.YthhgojdnpkcaaaaDoor
open Go.RowKit Go.Shelf

section
variable {P : Program}
/-- The two blocks that a loop lays: where deferred calls are gathered, and its record. -/
def Book (D : Nat) (r : Loop) (W : World) : Prop := W.heap[D + 1]? = some (.loop r) ∧ W.heap[D]? = some (.deferred (some []))
theorem Book.keeps {D : Nat} {r : Loop} {W W' : World} (h : Book D r W) (hk : KeepsFrom D W W') : Book D r W' := ⟨hk.same _ _ (by omega) h.1 rfl, hk.same _ _ (Nat.le_refl _) h.2 rfl⟩
theorem Book.lt {D : Nat} {r : Loop} {W : World} (h : Book D r W) : D + 1 < W.heap.size := (Array.getElem?_eq_some_iff.1 h.1).1
theorem Book.turn {D : Nat} {r : Loop} {W : World} (h : Book D r W) (r' : Loop) : Book D r' (W.putObj (D + 1) (.loop r')) :=
  ⟨World.putObj_heap_same h.lt, (World.putObj_heap_other (by omega)).trans h.2⟩
theorem Book.new (w : World) (r : Loop) : Book w.heap.size r ((w.alloc (.deferred (some []))).alloc (.loop r)) := by
  refine ⟨?_, (Below.heap_alloc _ _ _ (by simp)).trans (World.alloc_heap_new w _)⟩
  have h := World.alloc_heap_new (w.alloc (.deferred (some []))) (.loop r)
  rwa [World.size_alloc] at h
theorem Book.grown {D : Nat} {r : Loop} {X Y : World} {row : Option Nat} (h : Book D r X) (hg : X.grownBy Y row) (hr : ∀ k, row = some k → D + 1 < k) : Book D r Y := by
  have h1 := h.lt
  exact ⟨(hg.block _ h1 (fun e => by have := hr _ e.symm; omega)).trans h.1, (hg.block _ (by omega) (fun e => by have := hr _ e.symm; omega)).trans h.2⟩

/-- An iterator's contract, where what its caller says abides a turn of whatever is no cells and was laid since the iterator was called. -/
def SeqHeld {α : Type} (n : Nat) (P : Program) (g : Nat) (lb : Array Value) (encs : α → Array Value) (Kp : World → World → Prop) (S Sp : List α → Prop) (N : Nat) (w : World) : Prop :=
  ∀ (l : Nat) (J Jx : List α → World → Prop) (W : World), Below w.heap.size w W → OwnFrom W.heap.size J → OwnFrom W.heap.size Jx →
    (∀ pre x W1, J pre W1 → pre.length < N → YieldAt Fence.wide (n - 1) P l (encs x) W1 fun e W' =>
      (e = .returned (.bool true) ∧ J (pre ++ [x]) W' ∧ Kp W1 W') ∨ (e = .returned (.bool false) ∧ Jx (pre ++ [x]) W' ∧ Kp W1 W')) →
    J [] W → w.heap.size + 1 + 1 ≤ W.heap.size →
    CallsIn Fence.wide n P g (#[.func (.yield l) #[] #[]] ++ lb) W fun e W' => (∃ v, e = .returned v) ∧ ((∃ xs, S xs ∧ J xs W') ∨ (∃ pre, Sp pre ∧ Jx pre W'))

/-- How the body of a round may be left: each way out keeps Kp. -/
def heldPost {α : Type} (B : Nat) (Kp : World → World → Prop) (I : List α → World → Prop) (Ix : Code → List α → World → Prop) (xs : List α) (W : World) : Exit → Act → World → Prop
  | .normal, _, W' => KeepsFrom B W W' ∧ Kp W W' ∧ I xs W'
  | .ret, _, W' => KeepsFrom B W W' ∧ Kp W W' ∧ Ix .ret xs W'
  | .exit id, _, W' => KeepsFrom B W W' ∧ Kp W W' ∧ Ix (.exit id) xs W'
  | .goto t, _, W' => KeepsFrom B W W' ∧ Kp W W' ∧ Ix (.goto t) xs W'
  | .panic _, _, _ => False
  | .outgrown, _, _ => False

theorem range_held {α : Type} {n : Nat} {g : Operand} {ps : Array Tmp} {assign body : Code} {Q : Exit → Act → World → Prop} {a : Act} {w : World}
    (hn : 1 ≤ n) {gf : Nat} {lb : Array Value} (hg : a.eval g = .func (.func gf) #[] lb) (eg : ∀ args w, (callFunc gf args).run P w = .ok (.enter gf args) w)
    {encs : α → Array Value} {Kp : World → World → Prop} {S Sp : List α → Prop} {N : Nat} {w0 : World} (hseq : SeqHeld (n - 1) P gf lb encs Kp S Sp N w0) (hb0 : Below w0.heap.size w0 w) (hps : ∀ x, (encs x).size = ps.size)
    (hKt : ∀ {A B C : World}, Kp A B → Kp B C → Kp A C) (hKl : ∀ (W : World) (r r' : Loop), W.heap[w.heap.size + 1]? = some (.loop r) → Kp W (W.putObj (w.heap.size + 1) (.loop r')))
    (I : List α → World → Prop) (Ix : Code → List α → World → Prop) (hI : OwnFrom w.heap.size I) (hIx : ∀ c, OwnFrom w.heap.size (Ix c)) (h0 : I [] w) (fr : α → Act)
    (hassign : ∀ (l : Nat) (x : α) (W : World) (K : Act → World → Prop), K (fr x) W →
      assign.wpIn (Fence.wide.inRound l) (n - 1 - 1) P (Exit.then K (fun _ _ _ => False)) { tmps := (ps.zip (encs x)).foldl (fun t (p, v) => t.setIfInBounds p v) a.tmps, defers := [] } W)
    (hbody : ∀ (l : Nat) (pre : List α) (x : α) (W : World), w.heap.size ≤ l → I pre W → pre.length < N → body.wpIn (Fence.wide.inRound l) (n - 1 - 1) P (heldPost w.heap.size Kp I Ix (pre ++ [x]) W) (fr x) W)
    (hdone : ∀ (D : Nat) (xs : List α) (W : World), w.heap.size ≤ D → S xs → I xs W → W.heap[D]? = some (.deferred (some [])) → Q .normal { a with defers := { target := .collected D, args := #[] } :: a.defers } W)
    (hstop : ∀ (D : Nat) (c : Code) (pre : List α) (W : World), w.heap.size ≤ D → Sp pre → Ix c pre W → W.heap[D]? = some (.deferred (some [])) → c.wpIn Fence.wide n P Q { a with defers := { target := .collected D, args := #[] } :: a.defers } W) :
    (Code.rangeFunc g ps assign body).wpIn Fence.wide n P Q a w := by
  refine wpIn_rangeFunc fun fn hfn => ?_
  obtain ⟨L, hL⟩ : ∃ L : LoopState → Option Code → Loop, L = fun st pe => { state := st, pending := pe, fn, tmps := a.tmps, params := ps, assign, body, defers := w.heap.size } := ⟨_, rfl⟩
  have book1 := Book.new w (L .ready none)
  have inv1 : I [] ((w.alloc (.deferred (some []))).alloc (.loop (L .ready none))) := hI.alloc _ (hI.alloc _ h0)
  have below1 : Below w0.heap.size w0 ((w.alloc (.deferred (some []))).alloc (.loop (L .ready none))) :=
    hb0.trans ((((Below.refl _ w).alloc (Nat.le_refl _) _).alloc (by simp) _).mono hb0.size)
  have size1 : ((w.alloc (.deferred (some []))).alloc (.loop (L .ready none))).heap.size = w.heap.size + 1 + 1 := by simp
  have enter1 : (Instr.enterLoop fn a.tmps ps assign body Fence.wide.round).run P w = .ok (w.heap.size + 1, [{ target := .collected w.heap.size, args := #[] }]) ((w.alloc (.deferred (some []))).alloc (.loop (L .ready none))) := by
    rw [hL]; exact run_enterLoop_outer _ _ _ _ _
  generalize (w.alloc (.deferred (some []))).alloc (.loop (L .ready none)) = W1 at *
  -- between two rounds, and behind the one that has left
  obtain ⟨J, hJ⟩ : ∃ J : List α → World → Prop, J = fun pre W => I pre W ∧ Book w.heap.size (L .ready none) W := ⟨_, rfl⟩
  obtain ⟨Jx, hJx⟩ : ∃ Jx : List α → World → Prop, Jx = fun pre W => ∃ c, Ix c pre W ∧ Book w.heap.size (L .done (some c)) W := ⟨_, rfl⟩
  have abJ : OwnFrom W1.heap.size J := fun s X Y row hs hg' hr => by
    rw [hJ] at hs ⊢
    exact ⟨hI s X Y row hs.1 hg' (fun r e => ⟨by have := (hr r e).1; omega, (hr r e).2⟩), hs.2.grown hg' (fun r e => by have := (hr r e).1; omega)⟩
  have abJx : OwnFrom W1.heap.size Jx := fun s X Y row hs hg' hr => by
    rw [hJx] at hs ⊢
    obtain ⟨c, h1, h2⟩ := hs
    exact ⟨c, hIx c s X Y row h1 hg' (fun r e => ⟨by have := (hr r e).1; omega, (hr r e).2⟩), h2.grown hg' (fun r e => by have := (hr r e).1; omega)⟩
  have round : ∀ pre x W, J pre W → pre.length < N → YieldAt Fence.wide (n - 1 - 1) P (w.heap.size + 1) (encs x) W fun e W' =>
      (e = .returned (.bool true) ∧ J (pre ++ [x]) W' ∧ Kp W W') ∨ (e = .returned (.bool false) ∧ Jx (pre ++ [x]) W' ∧ Kp W W') := by
    intro pre x W hs hlen
    rw [hJ] at hs
    obtain ⟨inv, book⟩ := hs
    have hy := run_yield (P := P) (args := encs x) book.1 (by rw [hL]; exact hps x)
    rw [hL] at hy
    refine ⟨fn, _, assign, body, hy, roundIn_of_wpIn hfn (hassign _ x W _ ⟨_, run_beginRound book.1 (by rw [hL]), ?_⟩)⟩
    clear hy
    have busy := book.turn { L .ready none with state := .busy }
    have invB := hI.putObj (.loop { L .ready none with state := .busy }) inv (by omega) book.1 rfl
    have kpB := hKl W _ { L .ready none with state := .busy } book.1
    generalize W.putObj (w.heap.size + 1) (.loop { L .ready none with state := .busy }) = WB at *
    refine wpIn_mono (hbody _ pre x WB (by omega) invB hlen) ?_
    have last : ∀ (jump : Option Code) (W3 : World), KeepsFrom w.heap.size WB W3 → (Instr.endRound (w.heap.size + 1) jump).run P W3 = .ok (.bool jump.isNone) (W3.putObj (w.heap.size + 1) (.loop (L (if jump.isNone then .ready else .done) jump))) ∧ Book w.heap.size { L .ready none with state := .busy } W3 := fun jump W3 hk => by
      have b3 := busy.keeps hk
      have e := run_endRound (P := P) jump b3.1
      refine ⟨?_, b3⟩
      rw [hL] at e ⊢
      exact e
    have leave : ∀ (c : Code) (W3 : World), KeepsFrom w.heap.size WB W3 ∧ Kp WB W3 ∧ Ix c (pre ++ [x]) W3 → ∃ v W4, (Instr.endRound (w.heap.size + 1) (some c)).run P W3 = .ok v W4 ∧
        ((Ending.returned v = .returned (.bool true) ∧ J (pre ++ [x]) W4 ∧ Kp W W4) ∨ (Ending.returned v = .returned (.bool false) ∧ Jx (pre ++ [x]) W4 ∧ Kp W W4)) := fun c W3 ⟨hk, hkp, hx⟩ => by
      obtain ⟨e, b3⟩ := last (some c) W3 hk
      exact ⟨_, _, e, .inr ⟨rfl, by rw [hJx]; exact ⟨c, (hIx c).putObj _ hx (by omega) b3.1 rfl, b3.turn _⟩, hKt kpB (hKt hkp (hKl W3 _ _ b3.1))⟩⟩
    intro e a3 W3 hp
    cases e with
    | normal =>
      obtain ⟨hk, hkp, hi3⟩ := hp
      obtain ⟨e, b3⟩ := last none W3 hk
      exact ⟨_, _, e, .inl ⟨rfl, by rw [hJ]; exact ⟨hI.putObj _ hi3 (by omega) b3.1 rfl, b3.turn _⟩, hKt kpB (hKt hkp (hKl W3 _ _ b3.1))⟩⟩
    | ret => exact leave _ W3 hp
    | exit id => exact leave _ W3 hp
    | goto t => exact leave _ W3 hp
    | panic ch => exact hp.elim
    | outgrown => exact hp.elim
  refine ⟨w.heap.size + 1, [{ target := .collected w.heap.size, args := #[] }], W1, { target := .fn (.func gf) lb, args := #[.func (.yield (w.heap.size + 1)) #[] #[]] }, W1, gf,
    #[.func (.yield (w.heap.size + 1)) #[] #[]] ++ lb, W1, enter1, ?_, ?_, ?_, fun _ => hn, ?_⟩
  · simp only [resolve, hg]
    simp [go_sem]
  · intro f' _; trivial
  · simp [invoke, go_sem, eg]
  · refine (hseq (w.heap.size + 1) J Jx W1 below1 abJ abJx round (by rw [hJ]; exact ⟨inv1, book1⟩) (by have := hb0.size; omega)).mono ?_
    rintro e W2 ⟨⟨v, rfl⟩, h | h⟩
    · obtain ⟨xs, hS, hs⟩ := h
      rw [hJ] at hs
      obtain ⟨hi2, b2⟩ := hs
      have e := run_endLoop (P := P) b2.1 (by rw [hL]; simp)
      exact ⟨none, _, by rw [hL] at e; exact e, hdone _ xs _ (Nat.le_refl _) hS (hI.putObj _ hi2 (by omega) b2.1 rfl) ((World.putObj_heap_other (by omega)).trans b2.2)⟩
    · obtain ⟨pre, hSp, hs⟩ := h
      rw [hJx] at hs
      obtain ⟨c, hx2, b2⟩ := hs
      have e := run_endLoop (P := P) b2.1 (by rw [hL]; simp)
      exact ⟨some c, _, by rw [hL] at e; exact e, hstop _ c pre _ (Nat.le_refl _) hSp ((hIx c).putObj _ hx2 (by omega) b2.1 rfl) ((World.putObj_heap_other (by omega)).trans b2.2)⟩

/-- A round at the wide fence asks for no depth. -/
theorem roundIn_any {n m l : Nat} {f : FuncId} {tmps : Array Value} {assign body : Code} {W : World} {R : Ending → World → Prop} (h : RoundIn Fence.wide n P l f tmps assign body W R) : RoundIn Fence.wide m P l f tmps assign body W R :=
  ⟨h.1, fun c cs _ => h.2 c cs (room_wide _)⟩

section
variable {md : Region.Mode} {ops : Array Oper} {Q : Exit → Act → World → Prop} {l n : Nat}
theorem wpOpIn_lift {i : Nat} {K K' : Act → World → Prop} {a : Act} {w : World} (hnd : ∀ (i : Nat) (o : Oper), ops[i]? = some o → ∀ c, o.op ≠ .defer c) (hK : ∀ a w, K a w → K' a w)
    (h : wpOpIn Fence.wide n P ops Q i K a w) : wpOpIn (Fence.wide.inRound l) n P ops Q i K' a w := by
  replace h := wpOpIn_mono hK h
  unfold wpOpIn at *
  cases ho : ops[i]? with
  | none => simp only [ho] at h ⊢; exact h
  | some o =>
    simp only [ho] at h ⊢
    split at h
    · rename_i hw
      rw [if_pos hw]
      unfold Oper.wpIn at *
      rw [Fence.inRound_round, Oper.semAt_some l _ _ (hnd i o ho)]
      rw [Fence.wide_round, Oper.semAt_none] at h
      exact h
    · rename_i hw
      rw [if_neg hw]
      exact h
theorem wpAnyIn_lift (hnd : ∀ (i : Nat) (o : Oper), ops[i]? = some o → ∀ c, o.op ≠ .defer c) : ∀ (fuel : Nat) (listed : Array Bool) (a : Act) (w : World),
    wpAnyIn Fence.wide n P md ops Q fuel listed a w → wpAnyIn (Fence.wide.inRound l) n P md ops Q fuel listed a w
  | 0, _, _, _, h => h
  | fuel + 1, _, _, _, h => ⟨h.1, fun i hi => wpOpIn_lift hnd (fun a' w' h' => wpAnyIn_lift hnd fuel _ a' w' h') (h.2 i hi)⟩
/-- A region without defer statements that draws its order, inside a round: by the moves of the wide fence. -/
theorem wpIn_region_lift {id : Nat} {a : Act} {w : World} (hm : P.follows .mixedOrders = true) (hnd : ops.all (fun o => match o.op with | .defer _ => false | _ => true) = true)
    (h : wpAnyIn Fence.wide n P .any ops Q ops.size (Array.replicate ops.size false) a w.drew) : (Code.region id ops true).wpIn (Fence.wide.inRound l) n P Q a w := by
  refine wpIn_region_any hm (wpAnyIn_lift ?_ _ _ _ _ h)
  intro i o hi c hc
  have := Array.all_eq_true.1 hnd i (Array.getElem?_eq_some_iff.1 hi).1
  rw [(Array.getElem?_eq_some_iff.1 hi).2, hc] at this
  cases this
end

/-- What a round must leave alone: all below n0; the block Bx; all that lies from B on. -/
def Held (n0 B Bx : Nat) (W W' : World) : Prop := Below n0 W W' ∧ W.heap.size ≤ W'.heap.size ∧ ∀ k o, B ≤ k ∨ k = Bx → W.heap[k]? = some o → W'.heap[k]? = some o
theorem Held.refl (n0 B Bx : Nat) (W : World) : Held n0 B Bx W W := ⟨Below.refl _ _, Nat.le_refl _, fun _ _ _ h => h⟩
theorem Held.trans {n0 B Bx : Nat} {X Y Z : World} (h : Held n0 B Bx X Y) (k : Held n0 B Bx Y Z) : Held n0 B Bx X Z :=
  ⟨h.1.trans k.1, Nat.le_trans h.2.1 k.2.1, fun i o hi ho => k.2.2 i o hi (h.2.2 i o hi ho)⟩
theorem Held.below {n0 B Bx : Nat} {W W' : World} (hn : n0 ≤ W.heap.size) (hb : Below W.heap.size W W') : Held n0 B Bx W W' :=
  ⟨hb.mono hn, hb.size, fun k _ _ ho => (hb.block k (Array.getElem?_eq_some_iff.1 ho).1).trans ho⟩
theorem Held.setCell {n0 B Bx b : Nat} (W : World) (v : Value) (h1 : n0 ≤ b) (h2 : b < B) (h3 : b ≠ Bx) : Held n0 B Bx W (W.setCell ⟨b, 0, none⟩ v) :=
  ⟨(Below.refl _ _).setCell (p := ⟨b, 0, none⟩) h1 v, by simp, fun k _ hk ho => (Below.heap_setCell W ⟨b, 0, none⟩ v k (by show k ≠ b; omega)).trans ho⟩
theorem Held.turn {n0 B Bx l : Nat} {W : World} {r r' : Loop} (hl : W.heap[l]? = some (.loop r)) (h1 : n0 ≤ l) (h2 : l < B) (h3 : l ≠ Bx) : Held n0 B Bx W (W.putObj l (.loop r')) := by
  have hg := grownBy_putObj' W l (.loop r')
  have hlt := (Array.getElem?_eq_some_iff.1 hl).1
  exact ⟨(Below.refl n0 W).grown hg (by omega) (fun k e => by cases e; omega), hg.size, fun k _ hk ho => (World.putObj_heap_other (by omega)).trans ho⟩
theorem Held.drew {n0 B Bx : Nat} (W : World) : Held n0 B Bx W W.drew := ⟨(Below.refl _ _).drew, Nat.le_refl _, fun _ _ _ h => h⟩
theorem Held.at {n0 B Bx : Nat} {W W' : World} (h : Held n0 B Bx W W') {b : Nat} {cs : Array Value} {t : TypeId} (ha : At W b cs t) (hb : B ≤ b ∨ b = Bx) : At W' b cs t := h.2.2 b _ hb ha
theorem Held.from {n0 B Bx : Nat} {W W' : World} (h : Held n0 B Bx W W') {D : Nat} (hD : B ≤ D) : KeepsFrom D W W' := ⟨h.2.1, fun k o hk ho _ => h.2.2 k o (.inl (by omega)) ho⟩
end
end Go.Proofs.YthhgojdnpkcaaaaDoor

/-
  A region that draws its order, inside a round of a range over a function.
-/
namespace Go.Proofs.YthhgojdnpkcaaaaDoor
open Go.RowKit Go.Shelf

section
variable {P : Program} {md : Region.Mode} {ops : Array Oper} {Q : Exit → Act → World → Prop} {l n : Nat}
theorem wpOpIn_round {i : Nat} {K K' : Act → World → Prop} {a : Act} {w : World} (hnd : ∀ (i : Nat) (o : Oper), ops[i]? = some o → ∀ c, o.op ≠ .defer c) (hLO : ¬ LetsOut Q) (hK : ∀ a w, K a w → K' a w)
    (h : wpOp P ops Q i K a w) : wpOpIn (Fence.wide.inRound l) n P ops Q i K' a w := by
  unfold wpOp at h
  unfold wpOpIn
  cases ho : ops[i]? with
  | none => simp only [ho] at h; exact hK _ _ h
  | some o =>
    simp only [ho] at h ⊢
    split
    · rename_i hw
      simp only [hw, if_true] at h
      rcases h with h | ⟨_, h⟩
      · refine ⟨fun _ _ => trivial, ?_⟩
        rw [Fence.inRound_round, Oper.semAt_some l _ _ (hnd i o ho)]
        unfold Oper.wp at h
        generalize (execOp a.eval o).run P w = r at *
        cases r with
        | ok x w' =>
          cases x <;> simp only [Oper.upon, Oper.uponIn] at h ⊢
          case value u => exact hK _ _ h
          case skip => exact hK _ _ h
          case defer d => exact hK _ _ h
          case enter f args =>
            refine ⟨fun hd => (by cases hd), CallsIn.inRound l (callsIn_wide.2 (Calls.mono h fun e w'' he => ?_))⟩
            cases e with
            | returned u => exact hK _ _ he
            | panicked c => exact he
            | outgrown => exact he
          case row row args =>
            refine ⟨fun hd => (by cases hd), fun c cs _ => ?_⟩
            obtain ⟨v, w'', hr, hs⟩ := h c cs
            exact ⟨v, w'', hK _ _ hr, stepsIn_wide.2 hs⟩
        | halt x w' =>
          cases x <;> simp only [Oper.upon, Oper.uponIn] at h ⊢
          case panic u => exact h
      · exact absurd h hLO
    · rename_i hw
      simp only [hw] at h
      exact ⟨fun _ _ => trivial, hK _ _ h⟩

theorem wpAnyIn_round (hnd : ∀ (i : Nat) (o : Oper), ops[i]? = some o → ∀ c, o.op ≠ .defer c) (hLO : ¬ LetsOut Q) : ∀ (fuel : Nat) (listed : Array Bool) (a : Act) (w : World),
    wpAny P md ops Q fuel listed a w → wpAnyIn (Fence.wide.inRound l) n P md ops Q fuel listed a w
  | 0, _, _, _, h => h
  | fuel + 1, _, _, _, h => ⟨h.1, fun i hi => wpOpIn_round hnd hLO (fun a' w' h' => wpAnyIn_round hnd hLO fuel _ a' w' h') (h.2 i hi)⟩

/-- The region ends as it should, and K holds behind it. -/
def OnlyN (K : Act → World → Prop) : Exit → Act → World → Prop
  | .normal, a, w => K a w
  | _, _, _ => False
/-- A region without defer statements that draws its order, inside a round: by the plain walk that holds S. -/
theorem wpIn_region_round {id : Nat} {a : Act} {w : World} {K : Act → World → Prop} {S : World → Prop} (hm : P.follows .mixedOrders = true) (hnd : ops.all (fun o => match o.op with | .defer _ => false | _ => true) = true)
    (hQ : ∀ a w, K a w → Q .normal a w) (hS : S w.drew)
    (h : S w.drew → wpAnyH P .any ops (OnlyN K) S ops.size (Array.replicate ops.size false) a w.drew) : (Code.region id ops true).wpIn (Fence.wide.inRound l) n P Q a w := by
  refine wpIn_mono (Q := OnlyN K) (wpIn_region_any hm (wpAnyIn_round ?_ ?_ _ _ _ _ (wpAny_of_held _ _ _ _ (h hS)))) ?_
  · intro i o hi c hc
    have := Array.all_eq_true.1 hnd i (Array.getElem?_eq_some_iff.1 hi).1
    rw [(Array.getElem?_eq_some_iff.1 hi).2, hc] at this
    cases this
  · rintro ⟨a, w, h⟩
    exact h
  · intro e a w h
    cases e with
    | normal => exact hQ _ _ h
    | _ => exact False.elim h
end
end Go.Proofs.YthhgojdnpkcaaaaDoor

/-
  EscText, OddWalk.
-/
/-
  Of no program: the backslashes of a text; which bytes are escaped; rows of backslashes.
-/
namespace Go.Proofs.YthhgojdnpkcaaaaDoor

/-- Is the byte i a backslash? -/
def slash (s : ByteArray) (i : Nat) : Bool := decide ((s.data[i]?.getD 0).toNat = 92)
theorem slash_at (s : ByteArray) (i : Nat) (h : i < s.size) : slash s i = decide ((s[i]'h).toNat = 92) := by
  unfold slash
  rw [Array.getElem?_eq_getElem (show i < s.data.size from h)]
  rfl
theorem slash_out (s : ByteArray) (i : Nat) (h : s.size ≤ i) : slash s i = false := by
  unfold slash
  rw [Array.getElem?_eq_none (show s.data.size ≤ i from h)]
  rfl

/-- Is the byte n escaped, where q tells the backslashes, and c whether the byte 0 is? -/
def escG (q : Nat → Bool) (c : Bool) : Nat → Bool
  | 0 => c
  | n + 1 => q n && !escG q c n
theorem escG_succ (q : Nat → Bool) (c : Bool) (n : Nat) : escG q c (n + 1) = (q n && !escG q c n) := rfl
theorem escG_add (q : Nat → Bool) (c : Bool) (a n : Nat) : escG q c (a + n) = escG (fun i => q (a + i)) (escG q c a) n := by
  induction n with
  | zero => rfl
  | succ n ih => rw [← Nat.add_assoc, escG_succ, escG_succ, ih]
theorem escG_congr {q r : Nat → Bool} (c : Bool) {n : Nat} (h : ∀ i, i < n → q i = r i) : escG q c n = escG r c n := by
  induction n with
  | zero => rfl
  | succ n ih => rw [escG_succ, escG_succ, ih (fun i hi => h i (by omega)), h n (by omega)]

/-- How many backslashes end right ahead of n. -/
def runE (q : Nat → Bool) : Nat → Nat
  | 0 => 0
  | n + 1 => if q n then runE q n + 1 else 0
theorem runE_succ (q : Nat → Bool) (n : Nat) : runE q (n + 1) = if q n then runE q n + 1 else 0 := rfl
theorem runE_le (q : Nat → Bool) (n : Nat) : runE q n ≤ n := by
  induction n with
  | zero => exact Nat.le_refl _
  | succ n ih => rw [runE_succ]; split <;> omega
theorem runE_of {q : Nat → Bool} {n k : Nat} (hk : k ≤ n) (h : ∀ j, n - k ≤ j → j < n → q j = true) (he : k = n ∨ q (n - k - 1) = false) : runE q n = k := by
  induction n generalizing k with
  | zero => simp [runE]; omega
  | succ n ih =>
    rw [runE_succ]
    cases k with
    | zero =>
      rcases he with he | he
      · omega
      · simp at he
        rw [he]; rfl
    | succ k =>
      rw [h n (by omega) (by omega), if_pos rfl, ih (k := k) (by omega) (fun j h1 h2 => h j (by omega) (by omega))]
      rcases he with he | he
      · exact .inl (by omega)
      · exact .inr (by rw [← he]; congr 1; omega)
theorem runE_all (q : Nat → Bool) (n : Nat) : ∀ j, n - runE q n ≤ j → j < n → q j = true := by
  induction n with
  | zero => intro j _ h; omega
  | succ n ih =>
    intro j h1 h2
    rw [runE_succ] at h1
    by_cases hq : q n = true
    · rw [if_pos hq] at h1
      by_cases hj : j = n
      · rw [hj, hq]
      · exact ih j (by omega) (by omega)
    · rw [if_neg hq] at h1; omega
theorem runE_end (q : Nat → Bool) (n : Nat) (h : runE q n < n) : q (n - runE q n - 1) = false := by
  induction n with
  | zero => omega
  | succ n ih =>
    rw [runE_succ] at h ⊢
    by_cases hq : q n = true
    · rw [if_pos hq] at h ⊢
      have := ih (by omega)
      rw [show n + 1 - (runE q n + 1) - 1 = n - runE q n - 1 by omega]
      exact this
    · rw [if_neg hq]
      simpa using hq
theorem odd_succ (r : Nat) : decide ((r + 1) % 2 = 1) = !decide (r % 2 = 1) := by
  by_cases h : r % 2 = 1
  · have : ¬ (r + 1) % 2 = 1 := by omega
    simp [h, this]
  · have : (r + 1) % 2 = 1 := by omega
    simp [h, this]
theorem escG_run (q : Nat → Bool) (c : Bool) (n : Nat) : escG q c n = (decide (runE q n % 2 = 1) != (decide (runE q n = n) && c)) := by
  induction n with
  | zero => simp [escG, runE]
  | succ n ih =>
    rw [escG_succ, ih, runE_succ]
    by_cases hq : q n = true
    · rw [if_pos hq, hq, odd_succ]
      have e : decide (runE q n + 1 = n + 1) = decide (runE q n = n) := by congr 1; simp
      rw [e]
      generalize decide (runE q n % 2 = 1) = x
      generalize (decide (runE q n = n) && c) = y
      revert x y; decide
    · rw [if_neg hq]
      rw [Bool.not_eq_true] at hq
      simp [hq]
theorem escG_odd (q : Nat → Bool) (n : Nat) : escG q false n = decide (runE q n % 2 = 1) := by rw [escG_run]; simp
theorem runE_lt_iff (q : Nat → Bool) (n : Nat) : runE q n = n ∨ runE q n < n := by have := runE_le q n; omega
end Go.Proofs.YthhgojdnpkcaaaaDoor

/-
  What escape.Odd answers.
-/
namespace Go.Proofs.YthhgojdnpkcaaaaDoor
open Go.RowKit

set_option maxRecDepth 10000 in
set_option maxHeartbeats 1000000 in
theorem odd_nat (s : ByteArray) (a f : Nat) (o : Bool) (hs : s.size ≤ 9223372036854775807) (ha : a ≤ s.size) (hf : Hid (a - runE (slash s) a = f ∧ decide (runE (slash s) a % 2 = 1) = o)) (w : World) :
    Calls Tryd.prog 52 #[.string s, .int .i64 (a : Int)] w fun e w' => e = .returned (.tuple #[.int .i64 (f : Int), .bool o]) ∧ w' = w := by
  go_enter Tryd.func52, Tryd.ntmps52
  have e0 : decide ((a : Int) < 0) = false := by simp
  have e1 : decide ((s.size : Int) < (a : Int)) = false := by simp; omega
  go_wp2
  go_loop [6] (fun ff => ∃ i : Nat, i ≤ a ∧ ff = .int .i64 (i : Int) ∧ Hid (∀ j, i ≤ j → j < a → slash s j = true)) (fun ff => (intOf ff).toNat)
  case atStart => exact ⟨a, Nat.le_refl _, rfl, fun j h1 h2 => by omega⟩
  case round =>
    obtain ⟨i, hi, rfl, hall⟩ := hrel
    have fin : Hid (i = 0 ∨ slash s (i - 1) = false → i = f ∧ decide ((a - i) % 2 = 1) = o) := by
      intro h
      have hr := runE_of (q := slash s) (n := a) (k := a - i) (by omega) (fun j h1 h2 => hall.out j (by omega) h2) (by
        rcases h with h | h
        · exact .inl (by omega)
        · by_cases h0 : a - i = a
          · exact .inl h0
          · exact .inr (by rw [show a - (a - i) - 1 = i - 1 by omega]; exact h))
      obtain ⟨h1, h2⟩ := hf.out
      rw [hr] at h1 h2
      exact ⟨by omega, h2⟩
    clear hf
    have done : Hid (i = f → decide ((a - i) % 2 = 1) = o → (((a : Int) - (i : Int)) % 2 == 1) = o) := by
      intro _ h
      rw [← h, show (a : Int) - (i : Int) = ((a - i : Nat) : Int) by omega]
      generalize a - i = d
      rw [show ((d : Int) % 2) = ((d % 2 : Nat) : Int) by simp]
      rcases Nat.mod_two_eq_zero_or_one d with h | h <;> simp [h]
    by_cases h0 : i = 0
    · subst h0
      obtain ⟨h1, h2⟩ := fin.out (.inl rfl)
      have h3 := done.out h1 h2
      subst h1
      clear h2 fin done hall e0 e1
      go_wp2
      refine bodyPost_ret (results_tmp2 rfl _ _ _) rfl ?_
      exact ⟨by rw [← h3]; simp, rfl⟩
    · have hp : decide ((0 : Int) < (i : Int)) = true := by simp; omega
      have hlt : i - 1 < s.size := by omega
      have hx := slash_at s (i - 1) hlt
      obtain ⟨j, rfl⟩ : ∃ j, i = j + 1 := ⟨i - 1, by omega⟩
      have ej : ((j + 1 : Nat) : Int) - 1 = (j : Int) := by omega
      simp only [Nat.add_sub_cancel] at hlt hx
      have hjl : (j : Int) < (s.size : Int) := by omega
      obtain ⟨x, hxe⟩ : ∃ x, s[j].toNat = x := ⟨_, rfl⟩
      rw [hxe] at hx
      by_cases h92 : x = 92
      · subst h92
        have hall' := hall
        clear hall fin done e0 e1
        have hx' := hid hx
        clear hx
        go_wp2
        go_round
        case rel => exact ⟨j, by omega, by simp, fun k h1 h2 => by
                      by_cases hk : k = j
                      · rw [hk, hx'.out]; rfl
                      · exact hall'.out k (by omega) h2⟩
        case measure => simp [intOf]
      · have hne : ((x : Int) == 92) = false := by simp; omega
        rw [decide_eq_false h92] at hx
        obtain ⟨h1, h2⟩ := fin.out (.inr hx)
        have h3 := done.out h1 h2
        subst h1
        clear h2 fin done hall e0 e1 hx
        go_wp2
        refine bodyPost_ret (results_tmp2 rfl _ _ _) rfl ?_
        exact ⟨by rw [← h3]; simp, rfl⟩

set_option maxRecDepth 10000 in
theorem odd_out (s : ByteArray) (a : Int) (ha : ¬ (0 ≤ a ∧ a ≤ s.size)) (w : World) :
    Calls Tryd.prog 52 #[.string s, .int .i64 a] w fun e w' => e = .returned (.tuple #[.int .i64 0, .bool false]) ∧ w' = w := by
  go_enter Tryd.func52, Tryd.ntmps52
  by_cases h0 : a < 0
  · have e0 : decide (a < 0) = true := by simp; omega
    clear ha h0
    go_wp2
    refine bodyPost_ret (results_tmp2 rfl _ _ _) rfl ?_
    exact ⟨rfl, rfl⟩
  · have e0 : decide (a < 0) = false := by simp; omega
    have e1 : decide ((s.size : Int) < a) = true := by simp; omega
    clear ha h0
    go_wp2
    refine bodyPost_ret (results_tmp2 rfl _ _ _) rfl ?_
    exact ⟨rfl, rfl⟩

/-- Does a text end so that the next byte is escaped, where c says it of its first one? -/
def behindS (s : ByteArray) (c : Bool) : Bool := escG (slash s) c s.size
set_option maxRecDepth 10000 in
theorem behind_calls (s : ByteArray) (c B : Bool) (hs : s.size ≤ 9223372036854775807) (hB : Hid (behindS s c = B)) (w : World) :
    Calls Tryd.prog 30 #[.string s, .bool c] w fun e w' => e = .returned (.bool B) ∧ w' = w := by
  obtain ⟨f, o, hfo⟩ : ∃ f o, Hid (s.size - runE (slash s) s.size = f ∧ decide (runE (slash s) s.size % 2 = 1) = o) := ⟨_, _, rfl, rfl⟩
  have hBe : Hid (B = (o != (decide (f = 0) && c))) := by
    show _ = _
    rw [← hB.out, behindS, escG_run, hfo.out.2, ← hfo.out.1]
    have := runE_le (slash s) s.size
    congr 2
    simp; omega
  clear hB
  go_enter Tryd.func30, Tryd.ntmps30
  go_wp2_with fail
  refine (odd_nat s s.size f o hs (Nat.le_refl _) hfo w).mono ?_
  rintro e w1 ⟨rfl, rfl⟩
  clear hfo hs
  by_cases h0 : f = 0
  · subst h0
    go_wp2
    go_ret
    refine ⟨?_, rfl⟩
    rw [hBe.out]
    cases c <;> cases o <;> rfl
  · have e1 : decide ((0 : Int) < (f : Int)) = true := by simp; omega
    go_wp2
    go_ret
    refine ⟨?_, rfl⟩
    rw [hBe.out, decide_eq_false h0]
    cases o <;> rfl
end Go.Proofs.YthhgojdnpkcaaaaDoor

/-
  WordsMath, WordsCount, WordsPlaces, WordsRunMath, WordsEscMath.
-/
/-
  Of no program: words told by their bits; parities; sums bit by bit.
-/
namespace Go.Proofs.YthhgojdnpkcaaaaDoor

/-- The number whose bits below n are g's. -/
def sumBits (g : Nat → Bool) : Nat → Nat
  | 0 => 0
  | n + 1 => sumBits g n + (if g n then 2 ^ n else 0)
theorem sumBits_succ (g : Nat → Bool) (n : Nat) : sumBits g (n + 1) = sumBits g n + (if g n then 2 ^ n else 0) := rfl
theorem sumBits_lt (g : Nat → Bool) (n : Nat) : sumBits g n < 2 ^ n := by
  induction n with
  | zero => simp [sumBits]
  | succ n ih =>
    rw [sumBits_succ, Nat.pow_succ]
    split <;> omega
theorem sumBits_bit (g : Nat → Bool) (n i : Nat) : (sumBits g n).testBit i = (decide (i < n) && g i) := by
  induction n with
  | zero => simp [sumBits]
  | succ n ih =>
    have h := sumBits_lt g n
    have h' := sumBits_lt g (n + 1)
    rcases Nat.lt_trichotomy i n with hi | hi | hi
    · rw [sumBits_succ]
      have e : decide (i < n + 1) = true := by simp; omega
      rw [e]
      split
      · rw [Nat.add_comm, Nat.testBit_two_pow_add_gt hi, ih]; simp [hi]
      · rw [Nat.add_zero, ih]; simp [hi]
    · subst hi
      rw [sumBits_succ]
      have e : decide (i < i + 1) = true := by simp
      have h0 : (sumBits g i).testBit i = false := Nat.testBit_lt_two_pow h
      rw [e]
      split
      · rename_i hg; rw [Nat.add_comm, Nat.testBit_two_pow_add_eq, h0, hg]; rfl
      · rename_i hg; rw [Nat.add_zero, h0]; simp at hg; rw [hg]; rfl
    · have e : decide (i < n + 1) = false := by simp; omega
      rw [e, Bool.false_and]
      exact Nat.testBit_lt_two_pow (Nat.lt_of_lt_of_le h' (Nat.pow_le_pow_right (by decide) hi))
theorem next_t {g : Nat → Bool} {n X : Nat} (h : X = sumBits g n) (hg : g n = true) : X + 2 ^ n = sumBits g (n + 1) := by rw [sumBits_succ, hg, h]; rfl
theorem next_f {g : Nat → Bool} {n X : Nat} (h : X = sumBits g n) (hg : g n = false) : X = sumBits g (n + 1) := by rw [sumBits_succ, hg, h]; rfl
/-- The bit n put in by a sum. -/
theorem put_bit {X n : Nat} (hX : X < 2 ^ n) (hn : n < 64) : IntKind.u64.wrap ((2 : Int) ^ n) = ((2 ^ n : Nat) : Int) ∧ IntKind.u64.wrap ((X : Int) + ((2 ^ n : Nat) : Int)) = ((X + 2 ^ n : Nat) : Int) ∧ IntKind.u64.wrap ((X : Int) + 2 ^ n) = ((X + 2 ^ n : Nat) : Int) := by
  have hp : (2 : Nat) ^ n * 2 ≤ 18446744073709551616 := by
    rw [← Nat.pow_succ]; exact Nat.pow_le_pow_right (by decide) (Nat.succ_le_of_lt hn)
  have e : ((X : Int) + 2 ^ n) = ((X + 2 ^ n : Nat) : Int) := by simp
  have e1 : ((2 : Int) ^ n) = ((2 ^ n : Nat) : Int) := by simp
  rw [IntKind.wrap_u64, IntKind.wrap_u64, IntKind.wrap_u64, e, e1]
  omega
theorem sumBits_eq {g : Nat → Bool} {X : Nat} (hX : X < 2 ^ 64) (h : ∀ i, i < 64 → X.testBit i = g i) : sumBits g 64 = X := by
  apply Nat.eq_of_testBit_eq
  intro i
  rw [sumBits_bit]
  by_cases hi : i < 64
  · simp [hi, h i hi]
  · have : X.testBit i = false := Nat.testBit_lt_two_pow (Nat.lt_of_lt_of_le hX (Nat.pow_le_pow_right (by decide) (by omega)))
    simp [hi, this]
theorem and_one (x i : Nat) : (x / 2 ^ i &&& 1) = (x.testBit i).toNat := by
  rw [Nat.and_one_is_mod, Nat.testBit_eq_decide_div_mod_eq]
  have := Nat.mod_two_eq_zero_or_one (x / 2 ^ i)
  rcases this with h | h <;> simp [h]
theorem bit_hi {x : Nat} (hx : x < 2 ^ 64) {i : Nat} (hi : 64 ≤ i) : x.testBit i = false :=
  Nat.testBit_lt_two_pow (Nat.lt_of_lt_of_le hx (Nat.pow_le_pow_right (by decide) hi))

/-- Odd or even: the m bits that end with the bit i. -/
def xo (f : Nat → Bool) : Nat → Nat → Bool
  | 0, _ => false
  | m + 1, i => xo f m i ^^ (decide (m ≤ i) && f (i - m))
theorem xo_one (f : Nat → Bool) (i : Nat) : xo f 1 i = f i := by simp [xo]
theorem xo_add (f : Nat → Bool) (m n i : Nat) : xo f (m + n) i = (xo f m i ^^ (decide (m ≤ i) && xo f n (i - m))) := by
  induction n with
  | zero => simp [xo]
  | succ n ih =>
    show (xo f (m + n) i ^^ (decide (m + n ≤ i) && f (i - (m + n)))) = _
    rw [ih]
    simp only [xo]
    by_cases h : m ≤ i
    · by_cases h2 : m + n ≤ i
      · have h3 : n ≤ i - m := by omega
        simp [h, h2, h3, Nat.sub_sub]
      · have h3 : ¬ n ≤ i - m := by omega
        simp [h, h2, h3]
    · have h2 : ¬ m + n ≤ i := by omega
      simp [h, h2]
/-- Odd or even: the bits below n. -/
def parTo (x : Nat) : Nat → Bool
  | 0 => false
  | n + 1 => parTo x n ^^ x.testBit n
theorem parTo_succ (x n : Nat) : parTo x (n + 1) = (parTo x n ^^ x.testBit n) := rfl
theorem xo_par (x i : Nat) (hi : i < 64) : xo x.testBit 64 i = parTo x (i + 1) := by
  induction i with
  | zero =>
    have := xo_add x.testBit 1 63 0
    simp at this
    rw [this]; simp [xo, parTo]
  | succ i ih =>
    have h1 : xo x.testBit 64 (i + 1) = (xo x.testBit 1 (i + 1) ^^ (decide (1 ≤ i + 1) && xo x.testBit 63 (i + 1 - 1))) := xo_add x.testBit 1 63 (i + 1)
    have h4 : decide (1 ≤ i + 1) = true := by simp
    have h2 : xo x.testBit 64 i = (xo x.testBit 63 i ^^ (decide (63 ≤ i) && x.testBit (i - 63))) := rfl
    have h3 : decide (63 ≤ i) = false := by simp; omega
    rw [h3, Bool.false_and, Bool.xor_false] at h2
    rw [xo_one, h4, Bool.true_and, Nat.add_sub_cancel] at h1
    rw [h1, ← h2, ih (by omega), parTo_succ x (i + 1), Bool.xor_comm]
/-- Of two words: each bit's parity. -/
theorem parTo_xor (x y n : Nat) : parTo (x ^^^ y) n = (parTo x n ^^ parTo y n) := by
  induction n with
  | zero => rfl
  | succ n ih => rw [parTo_succ, parTo_succ, parTo_succ, ih, Nat.testBit_xor]; cases parTo x n <;> cases parTo y n <;> cases x.testBit n <;> cases y.testBit n <;> rfl
def prefW (x : Nat) : Nat := sumBits (fun i => parTo x (i + 1)) 64
theorem prefW_lt (x : Nat) : prefW x < 18446744073709551616 := sumBits_lt _ 64
theorem prefW_bit (x i : Nat) (hi : i < 64) : (prefW x).testBit i = parTo x (i + 1) := by rw [prefW, sumBits_bit]; simp [hi]

/-- One doubling. -/
def reach (X R : Nat) : Nat := X ^^^ (X * 2 ^ R % 18446744073709551616)
theorem reach_lt (X R : Nat) (h : X < 18446744073709551616) : reach X R < 18446744073709551616 := Nat.xor_lt_two_pow (n := 64) h (Nat.mod_lt _ (by decide))
theorem reach_bit {f : Nat → Bool} {X R : Nat} (hX : ∀ i, i < 64 → X.testBit i = xo f R i) : ∀ i, i < 64 → (reach X R).testBit i = xo f (R * 2) i := by
  intro i hi
  have e : (X * 2 ^ R % 18446744073709551616).testBit i = (decide (R ≤ i) && X.testBit (i - R)) := by
    have := Nat.testBit_mod_two_pow (X * 2 ^ R) 64 i
    rw [show (18446744073709551616 : Nat) = 2 ^ 64 by decide, this, Nat.testBit_mul_two_pow]
    simp [hi]
  rw [reach, Nat.testBit_xor, e, hX i hi, hX (i - R) (by omega), Nat.mul_two, xo_add]
theorem reach_done {x X : Nat} (hX : X < 18446744073709551616) (h : ∀ i, i < 64 → X.testBit i = xo x.testBit 64 i) : X = prefW x :=
  (sumBits_eq hX fun i hi => by rw [h i hi, xo_par x i hi]).symm

/-- The carry into the bit n of a sum. -/
def addC (a b : Nat) (c : Bool) : Nat → Bool
  | 0 => c
  | n + 1 => (a.testBit n && b.testBit n) || (addC a b c n && (a.testBit n || b.testBit n))
def addS (a b : Nat) (c : Bool) (n : Nat) : Nat := sumBits (fun i => (a.testBit i != b.testBit i) != addC a b c i) n
theorem addS_lt (a b : Nat) (c : Bool) (n : Nat) : addS a b c n < 2 ^ n := sumBits_lt _ n
theorem mod_bit (x n : Nat) : x % 2 ^ (n + 1) = x % 2 ^ n + (if x.testBit n then 2 ^ n else 0) := by
  rw [Nat.mod_pow_succ, Nat.testBit_eq_decide_div_mod_eq]
  rcases Nat.mod_two_eq_zero_or_one (x / 2 ^ n) with h | h <;> simp [h]
theorem add_sum (a b : Nat) (c : Bool) (n : Nat) : a % 2 ^ n + b % 2 ^ n + c.toNat = addS a b c n + (if addC a b c n then 2 ^ n else 0) := by
  induction n with
  | zero => cases c <;> simp [addS, sumBits, addC, Nat.mod_one]
  | succ n ih =>
    rw [mod_bit, mod_bit]
    have e : addS a b c (n + 1) = addS a b c n + (if ((a.testBit n != b.testBit n) != addC a b c n) then 2 ^ n else 0) := rfl
    have e2 : addC a b c (n + 1) = ((a.testBit n && b.testBit n) || (addC a b c n && (a.testBit n || b.testBit n))) := rfl
    rw [e, e2, Nat.pow_succ]
    cases a.testBit n <;> cases b.testBit n <;> cases hc : addC a b c n <;> simp [hc] at ih ⊢ <;> omega
theorem add_whole (a b : Nat) (c : Bool) (ha : a < 18446744073709551616) (hb : b < 18446744073709551616) : a + b + c.toNat = addS a b c 64 + (if addC a b c 64 then 18446744073709551616 else 0) := by
  have h := add_sum a b c 64
  rw [Nat.mod_eq_of_lt ha, Nat.mod_eq_of_lt hb] at h
  exact h
theorem has_eq (x i : Nat) (hx : x < 18446744073709551616) : (bits BinOp.and IntKind.u64 ((x : Int) / 2 ^ i) 1 == 1) = x.testBit i := by
  have e : ((x : Int) / 2 ^ i) = ((x / 2 ^ i : Nat) : Int) := by simp
  have h := bits_and_u64_nat (x / 2 ^ i) 1 (Nat.lt_of_le_of_lt (Nat.div_le_self _ _) hx) (by decide)
  rw [e, show (1 : Int) = ((1 : Nat) : Int) from rfl, h, and_one]
  cases x.testBit i <;> rfl

end Go.Proofs.YthhgojdnpkcaaaaDoor

/-
  Of no program: how many bits are set; the count by halves, as math/bits has it.
-/
namespace Go.Proofs.YthhgojdnpkcaaaaDoor

/-- How many of the bits below n are set. -/
def cnt (x : Nat) : Nat → Nat
  | 0 => 0
  | n + 1 => cnt x n + (x.testBit n).toNat
theorem cnt_succ (x n : Nat) : cnt x (n + 1) = cnt x n + (x.testBit n).toNat := rfl
theorem cnt_le (x n : Nat) : cnt x n ≤ n := by
  induction n with
  | zero => exact Nat.le_refl 0
  | succ n ih => rw [cnt_succ]; cases x.testBit n <;> simp <;> omega
theorem cnt_add (x a b : Nat) : cnt x (a + b) = cnt x a + cnt (x / 2 ^ a) b := by
  induction b with
  | zero => rfl
  | succ b ih =>
    rw [← Nat.add_assoc, cnt_succ, ih, cnt_succ, Nat.testBit_div_two_pow, Nat.add_assoc, Nat.add_comm b a]
theorem cnt_congr (x y n : Nat) (h : ∀ i, i < n → x.testBit i = y.testBit i) : cnt x n = cnt y n := by
  induction n with
  | zero => rfl
  | succ n ih => rw [cnt_succ, cnt_succ, ih (fun i hi => h i (by omega)), h n (by omega)]
theorem cnt_mod (x i n : Nat) (h : i ≤ n) : cnt (x % 2 ^ i) n = cnt x i := by
  obtain ⟨d, rfl⟩ : ∃ d, n = i + d := ⟨n - i, by omega⟩
  rw [cnt_add, cnt_congr (x % 2 ^ i) x i (fun j hj => by rw [Nat.testBit_mod_two_pow]; simp [hj])]
  have : ∀ k, cnt 0 k = 0 := fun k => by
    induction k with
    | zero => rfl
    | succ k ih => rw [cnt_succ, ih]; simp
  rw [Nat.div_eq_of_lt (Nat.mod_lt _ (Nat.pow_pos (by decide))), this]
  rfl

/-- Each of the k bytes by itself. -/
def bm (f : Nat → Nat) : Nat → Nat → Nat
  | 0, _ => 0
  | k + 1, x => f (x % 256) + 256 * bm f k (x / 256)
def rep (m : Nat) : Nat → Nat
  | 0 => 0
  | k + 1 => m + 256 * rep m k
theorem and_step (u v m M : Nat) (hu : u < 256) (hm : m < 256) : (u + 256 * v) &&& (m + 256 * M) = (u &&& m) + 256 * (v &&& M) := by
  have e : ∀ a b : Nat, a + 256 * b = 2 ^ 8 * b + a := fun a b => by omega
  have ha : u &&& m < 2 ^ 8 := Nat.and_lt_two_pow _ hm
  apply Nat.eq_of_testBit_eq
  intro i
  rw [Nat.testBit_and, e, e, e, Nat.testBit_two_pow_mul_add _ hu, Nat.testBit_two_pow_mul_add _ hm, Nat.testBit_two_pow_mul_add _ ha]
  split <;> simp [Nat.testBit_and]
theorem bm_and0 (m : Nat) (hm : m < 256) : ∀ k x, x &&& rep m k = bm (fun b => b &&& m) k x
  | 0, x => by simp [rep, bm]
  | k + 1, x => by
    have e : x = x % 256 + 256 * (x / 256) := by omega
    rw [rep, bm, ← bm_and0 m hm k, ← and_step _ _ _ _ (Nat.mod_lt _ (by decide)) hm, ← e]
theorem half_and : ∀ b : Fin 256, ∀ t : Fin 2, (b.val / 2 + 128 * t.val) &&& 85 = b.val / 2 &&& 85 := by decide +kernel
theorem quarter_and : ∀ b : Fin 256, ∀ t : Fin 4, (b.val / 4 + 64 * t.val) &&& 51 = b.val / 4 &&& 51 := by decide +kernel
theorem bm_and1 : ∀ k x, (x / 2) &&& rep 85 k = bm (fun b => b / 2 &&& 85) k x
  | 0, x => by simp [rep, bm]
  | k + 1, x => by
    have e : x / 2 = (x % 256 / 2 + 128 * (x / 256 % 2)) + 256 * (x / 256 / 2) := by omega
    rw [rep, bm, ← bm_and1 k, e, and_step _ _ _ _ (by omega) (by decide), half_and ⟨x % 256, Nat.mod_lt _ (by decide)⟩ ⟨x / 256 % 2, Nat.mod_lt _ (by decide)⟩]
theorem bm_and2 : ∀ k x, (x / 4) &&& rep 51 k = bm (fun b => b / 4 &&& 51) k x
  | 0, x => by simp [rep, bm]
  | k + 1, x => by
    have e : x / 4 = (x % 256 / 4 + 64 * (x / 256 % 4)) + 256 * (x / 256 / 4) := by omega
    rw [rep, bm, ← bm_and2 k, e, and_step _ _ _ _ (by omega) (by decide), quarter_and ⟨x % 256, Nat.mod_lt _ (by decide)⟩ ⟨x / 256 % 4, Nat.mod_lt _ (by decide)⟩]
theorem bm_add (f g : Nat → Nat) : ∀ k x, bm f k x + bm g k x = bm (fun b => f b + g b) k x
  | 0, _ => rfl
  | k + 1, x => by rw [bm, bm, bm, ← bm_add f g k]; omega
theorem bm_comp (f g : Nat → Nat) (hf : ∀ b, b < 256 → f b < 256) : ∀ k x, bm g k (bm f k x) = bm (fun b => g (f b)) k x
  | 0, _ => rfl
  | k + 1, x => by
    have h := hf (x % 256) (Nat.mod_lt _ (by decide))
    rw [bm, bm, bm, ← bm_comp f g hf k]
    rw [show (f (x % 256) + 256 * bm f k (x / 256)) % 256 = f (x % 256) by omega, show (f (x % 256) + 256 * bm f k (x / 256)) / 256 = bm f k (x / 256) by omega]
theorem bm_nib (f : Nat → Nat) (hf : ∀ b, b < 256 → f b / 16 ≤ 4 ∧ f b % 16 ≤ 4) : ∀ k x, (bm f k x) % 16 ≤ 4 ∧ (bm f k x / 16 + bm f k x) &&& rep 15 k = bm (fun b => f b / 16 + f b % 16) k x
  | 0, _ => by simp [bm, rep]
  | k + 1, x => by
    obtain ⟨h1, h2⟩ := hf (x % 256) (Nat.mod_lt _ (by decide))
    obtain ⟨h3, h4⟩ := bm_nib f hf k (x / 256)
    rw [bm, bm, rep, ← h4]
    generalize bm f k (x / 256) = R at *
    generalize f (x % 256) = B at *
    refine ⟨by omega, ?_⟩
    have e : (B + 256 * R) / 16 + (B + 256 * R) = ((B / 16 + B % 16) + 16 * (R % 16 + B / 16)) + 256 * (R / 16 + R) := by omega
    rw [e, and_step _ _ _ _ (by omega) (by decide)]
    have e2 : ((B / 16 + B % 16) + 16 * (R % 16 + B / 16)) &&& 15 = ((B / 16 + B % 16) + 16 * (R % 16 + B / 16)) % 16 := Nat.and_two_pow_sub_one_eq_mod _ 4
    rw [e2]
    omega
theorem bm_lt (f : Nat → Nat) (hf : ∀ b, b < 256 → f b < 256) : ∀ k x, bm f k x < 256 ^ k
  | 0, _ => by simp [bm]
  | k + 1, x => by
    have h := hf (x % 256) (Nat.mod_lt _ (by decide))
    have := bm_lt f hf k (x / 256)
    rw [bm, Nat.pow_succ]; omega
theorem bm_half (f : Nat → Nat) (hf : ∀ b, b < 256 → f b < 128) : ∀ k x, 2 * bm f (k + 1) x < 256 ^ (k + 1)
  | 0, x => by
    have h := hf (x % 256) (Nat.mod_lt _ (by decide))
    rw [bm, bm]; omega
  | k + 1, x => by
    have h := hf (x % 256) (Nat.mod_lt _ (by decide))
    have := bm_half f hf k (x / 256)
    rw [bm, Nat.pow_succ]; omega
def p1 (b : Nat) : Nat := (b / 2 &&& 85) + (b &&& 85)
def p2 (b : Nat) : Nat := (p1 b / 4 &&& 51) + (p1 b &&& 51)
def p3 (b : Nat) : Nat := p2 b / 16 + p2 b % 16
theorem p_facts : ∀ b : Fin 256, p1 b.val < 256 ∧ p2 b.val < 256 ∧ p2 b.val / 16 ≤ 4 ∧ p2 b.val % 16 ≤ 4 ∧ p3 b.val ≤ 8 ∧ p3 b.val = cnt b.val 8 := by decide +kernel
theorem p_fact (b : Nat) (h : b < 256) : p1 b < 256 ∧ p2 b < 256 ∧ p2 b / 16 ≤ 4 ∧ p2 b % 16 ≤ 4 ∧ p3 b ≤ 8 ∧ p3 b = cnt b 8 := p_facts ⟨b, h⟩
theorem rep85 : rep 85 8 = 6148914691236517205 := by decide
theorem rep51 : rep 51 8 = 3689348814741910323 := by decide
theorem rep15 : rep 15 8 = 1085102592571150095 := by decide
theorem pop1 (x : Nat) : (x / 2 &&& 6148914691236517205) + (x &&& 6148914691236517205) = bm p1 8 x := by
  rw [← rep85, bm_and1, bm_and0 85 (by decide), bm_add]; rfl
theorem pop2 (x : Nat) : (bm p1 8 x / 4 &&& 3689348814741910323) + (bm p1 8 x &&& 3689348814741910323) = bm p2 8 x := by
  rw [← rep51, bm_and2, bm_and0 51 (by decide), bm_add, bm_comp p1 _ (fun b h => (p_fact b h).1)]; rfl
theorem pop3 (x : Nat) : (bm p2 8 x / 16 + bm p2 8 x) &&& 1085102592571150095 = bm p3 8 x := by
  rw [← rep15, (bm_nib p2 (fun b h => ⟨(p_fact b h).2.2.1, (p_fact b h).2.2.2.1⟩) 8 x).2]; rfl
theorem cnt_bytes : ∀ k x, ∃ q : Nat → Nat, (∀ i, q i ≤ 8) ∧ cnt x (8 * (k + 1)) = q 0 + cnt (x / 256) (8 * k) ∧ bm p3 (k + 1) x = q 0 + 256 * bm p3 k (x / 256) := fun k x => by
  obtain ⟨_, _, _, _, h5, h6⟩ := p_fact (x % 256) (Nat.mod_lt _ (by decide))
  refine ⟨fun _ => p3 (x % 256), fun _ => h5, ?_, rfl⟩
  rw [show 8 * (k + 1) = 8 + 8 * k by omega, cnt_add, h6]
  rw [show (256 : Nat) = 2 ^ 8 by decide, cnt_mod x 8 8 (Nat.le_refl _)]
/-- Eight small numbers, each in its byte, put together in three steps. -/
theorem gather8 (a0 a1 a2 a3 a4 a5 a6 a7 : Nat) (h0 : a0 ≤ 8) (h1 : a1 ≤ 8) (h2 : a2 ≤ 8) (h3 : a3 ≤ 8) (h4 : a4 ≤ 8) (h5 : a5 ≤ 8) (h6 : a6 ≤ 8) (h7 : a7 ≤ 8) (X0 X1 X2 X3 X4 X5 X6 : Nat)
    (x6 : X6 = a6 + 256 * a7) (x5 : X5 = a5 + 256 * X6) (x4 : X4 = a4 + 256 * X5) (x3 : X3 = a3 + 256 * X4) (x2 : X2 = a2 + 256 * X3) (x1 : X1 = a1 + 256 * X2) (x0 : X0 = a0 + 256 * X1) :
    ∃ t1 t2 t3 : Nat, X0 < 18446744073709551616 ∧ X0 + X0 / 256 = t1 ∧ t1 < 18446744073709551616 ∧ t1 + t1 / 65536 = t2 ∧ t2 < 18446744073709551616 ∧ t2 + t2 / 4294967296 = t3 ∧ t3 < 9223372036854775808 ∧ t3 % 128 = a0 + a1 + a2 + a3 + a4 + a5 + a6 + a7 := by
  have l6 : X6 ≤ 2056 := by omega
  have l5 : X5 ≤ 526344 := by omega
  have l4 : X4 ≤ 134744072 := by omega
  have l3 : X3 ≤ 34494482440 := by omega
  have l2 : X2 ≤ 8830587504648 := by omega
  have l1 : X1 ≤ 2260630401189896 := by omega
  have l0 : X0 ≤ 578721382704613384 := by omega
  have d0 : X0 / 256 = X1 := by clear x1 x2 x3 x4 x5 x6; omega
  obtain ⟨Y2, y2⟩ : ∃ Y2, Y2 = X2 + X3 := ⟨_, rfl⟩
  have e1 : X0 + X1 = (a0 + a1) + 256 * (a1 + a2) + 65536 * Y2 := by clear x3 x4 x5 x6; omega
  have d1 : (X0 + X1) / 65536 = Y2 := by rw [e1]; clear e1 x0 x1 x2 x3 x4 x5 x6 d0; omega
  obtain ⟨Z4, z4⟩ : ∃ Z4, Z4 = X4 + X5 + (X6 + a7) := ⟨_, rfl⟩
  have y3 : Y2 = (a2 + a3) + 256 * (X3 + X4) := by clear x0 x1 e1 d1 d0 x4 x5 x6; omega
  have y4 : X3 + X4 = (a3 + a4) + 256 * (X4 + X5) := by clear x0 x1 e1 d1 d0 y3 y2 x5 x6; omega
  have y5 : X4 + X5 = (a4 + a5) + 256 * (X5 + X6) := by clear x0 x1 e1 d1 d0 y3 y4 y2 x6; omega
  have y6 : X5 + X6 = (a5 + a6) + 256 * (X6 + a7) := by clear x0 x1 e1 d1 d0 y3 y4 y5 y2; omega
  have y7 : X6 + a7 = (a6 + a7) + 256 * a7 := by clear x0 x1 e1 d1 d0 y3 y4 y5 y6 y2; omega
  have e2 : X0 + X1 + Y2 = (a0 + a1 + a2 + a3) + 256 * (a1 + a2 + a3 + a4) + 65536 * (a2 + a3 + a4 + a5) + 16777216 * (a3 + a4 + a5 + a6) + 4294967296 * Z4 := by
    rw [e1, z4]
    clear x0 x1 x2 x3 x4 x5 x6 e1 d0 d1 l6 l5 l4 l3 l2 l1 l0 y2
    generalize X3 + X4 = A at *
    generalize X4 + X5 = B at *
    generalize X5 + X6 = C at *
    generalize X6 + a7 = D at *
    omega
  have d2 : (X0 + X1 + Y2) / 4294967296 = Z4 := by rw [e2]; clear e2 e1 x0 x1 x2 x3 x4 x5 x6 d0 d1 y2 y3 y4 y5 y6 y7 z4; omega
  have e3 : Z4 = (a4 + a5 + a6 + a7) + 256 * (X5 + X6 + a7) := by rw [z4]; clear e2 e1 x0 x1 x2 x3 x4 x5 x6 d0 d1 d2 y2 y3 y4 y6 z4; omega
  have m3 : (X0 + X1 + Y2 + Z4) % 128 = a0 + a1 + a2 + a3 + a4 + a5 + a6 + a7 := by
    rw [e2, e3]
    clear e2 e1 x0 x1 x2 x3 x4 x5 x6 d0 d1 d2 y2 y3 y4 y5 y6 y7 z4 e3
    generalize X5 + X6 + a7 = E
    omega
  refine ⟨X0 + X1, X0 + X1 + Y2, X0 + X1 + Y2 + Z4, by omega, by rw [d0], by omega, by rw [d1], ?_, by rw [d2], ?_, m3⟩
  · rw [y2]; clear e2 e1 x0 x1 x2 x3 x4 x5 x6 d0 d1 d2 y3 y4 y5 y6 y7 z4 e3 m3; omega
  · rw [z4, y2]; clear e2 e1 x0 x1 x2 x3 x4 x5 x6 d0 d1 d2 y3 y4 y5 y6 y7 e3 m3; omega
theorem pop4 (x : Nat) : ∃ t1 t2 t3 : Nat, bm p3 8 x < 18446744073709551616 ∧ bm p3 8 x + bm p3 8 x / 256 = t1 ∧ t1 < 18446744073709551616 ∧ t1 + t1 / 65536 = t2 ∧ t2 < 18446744073709551616 ∧ t2 + t2 / 4294967296 = t3 ∧ t3 < 9223372036854775808 ∧ t3 % 128 = cnt x 64 := by
  obtain ⟨q7, l7, c7, b7⟩ := cnt_bytes 7 x
  obtain ⟨q6, l6, c6, b6⟩ := cnt_bytes 6 (x / 256)
  obtain ⟨q5, l5, c5, b5⟩ := cnt_bytes 5 (x / 256 / 256)
  obtain ⟨q4, l4, c4, b4⟩ := cnt_bytes 4 (x / 256 / 256 / 256)
  obtain ⟨q3, l3, c3, b3⟩ := cnt_bytes 3 (x / 256 / 256 / 256 / 256)
  obtain ⟨q2, l2, c2, b2⟩ := cnt_bytes 2 (x / 256 / 256 / 256 / 256 / 256)
  obtain ⟨q1, l1, c1, b1⟩ := cnt_bytes 1 (x / 256 / 256 / 256 / 256 / 256 / 256)
  obtain ⟨q0, l0, c0, b0⟩ := cnt_bytes 0 (x / 256 / 256 / 256 / 256 / 256 / 256 / 256)
  replace l7 := l7 0; replace l6 := l6 0; replace l5 := l5 0; replace l4 := l4 0; replace l3 := l3 0; replace l2 := l2 0; replace l1 := l1 0; replace l0 := l0 0
  have z : bm p3 0 (x / 256 / 256 / 256 / 256 / 256 / 256 / 256 / 256) = 0 := rfl
  have zc : cnt (x / 256 / 256 / 256 / 256 / 256 / 256 / 256 / 256) (8 * 0) = 0 := rfl
  simp only [Nat.reduceMul, Nat.reduceAdd] at *
  rw [b7, b6, b5, b4, b3, b2, b1, b0, z, c7, c6, c5, c4, c3, c2, c1, c0, zc]
  generalize q7 0 = a0 at *; generalize q6 0 = a1 at *; generalize q5 0 = a2 at *; generalize q4 0 = a3 at *; generalize q3 0 = a4 at *; generalize q2 0 = a5 at *; generalize q1 0 = a6 at *; generalize q0 0 = a7 at *
  clear b7 b6 b5 b4 b3 b2 b1 b0 c7 c6 c5 c4 c3 c2 c1 c0 z zc
  obtain ⟨t1, t2, t3, h⟩ := gather8 a0 a1 a2 a3 a4 a5 a6 a7 l7 l6 l5 l4 l3 l2 l1 l0 _ _ _ _ _ _ _ rfl rfl rfl rfl rfl rfl rfl
  refine ⟨t1, t2, t3, ?_⟩
  simpa [Nat.add_assoc] using h
end Go.Proofs.YthhgojdnpkcaaaaDoor

/-
  Of no program: the places of the set bits, rising.
-/
namespace Go.Proofs.YthhgojdnpkcaaaaDoor

/-- The places of the set bits below n. -/
def below (x n : Nat) : List Nat := (List.range n).filter (fun i => x.testBit i)
def places (x : Nat) : List Nat := below x 64
theorem below_t {x n : Nat} (h : x.testBit n = true) : below x (n + 1) = below x n ++ [n] := by simp [below, List.range_succ, h]
theorem below_f {x n : Nat} (h : x.testBit n = false) : below x (n + 1) = below x n := by simp [below, List.range_succ, h]
theorem below_len (x n : Nat) : (below x n).length = cnt x n := by
  induction n with
  | zero => rfl
  | succ n ih =>
    rw [cnt_succ]
    cases h : x.testBit n
    · rw [below_f h, ih]; rfl
    · rw [below_t h, List.length_append, ih]; rfl
theorem places_lt {x p : Nat} (h : p ∈ places x) : p < 64 ∧ x.testBit p = true := by simpa [places, below] using h
theorem places_len_le (x : Nat) : (places x).length ≤ 64 := by rw [places, below_len]; exact cnt_le x 64
theorem below_split (x n m : Nat) (h : n ≤ m) : below x n <+: below x m := by
  induction m with
  | zero => obtain rfl : n = 0 := by omega
            exact List.prefix_refl _
  | succ m ih =>
    by_cases hm : n = m + 1
    · subst hm; exact List.prefix_refl _
    · refine (ih (by omega)).trans ?_
      cases hb : x.testBit m
      · rw [below_f hb]; exact List.prefix_refl _
      · rw [below_t hb]; exact List.prefix_append _ _
/-- A set bit is the one that has its rank. -/
theorem place_at {x i : Nat} (hi : i < 64) (hb : x.testBit i = true) : (places x)[cnt x i]? = some i := by
  have h := below_split x (i + 1) 64 (by omega)
  obtain ⟨t, ht⟩ := h
  rw [places, ← ht, below_t hb, List.append_assoc, List.getElem?_append_right (by rw [below_len]; exact Nat.le_refl _), below_len, Nat.sub_self]
  rfl
theorem place_rank {x k p : Nat} (h : (places x)[k]? = some p) : p < 64 ∧ x.testBit p = true ∧ cnt x p = k := by
  have hm : p ∈ places x := List.mem_of_getElem? h
  obtain ⟨h1, h2⟩ := places_lt hm
  refine ⟨h1, h2, ?_⟩
  have h3 := place_at h1 h2
  have hn : (places x).Nodup := List.Nodup.sublist List.filter_sublist List.nodup_range
  obtain ⟨hk, ek⟩ := List.getElem?_eq_some_iff.1 h
  obtain ⟨hc, ec⟩ := List.getElem?_eq_some_iff.1 h3
  have hp := List.pairwise_iff_getElem.1 hn
  rcases Nat.lt_trichotomy (cnt x p) k with hl | hl | hl
  · exact absurd (ec.trans ek.symm) (hp _ _ hc hk hl)
  · exact hl
  · exact absurd (ek.trans ec.symm) (hp _ _ hk hc hl)

/-- The same, lowest bit by lowest bit. -/
def plac : Nat → Nat → Nat → List Nat
  | 0, _, _ => []
  | n + 1, b, x => if x % 2 = 1 then b :: plac n (b + 1) (x / 2) else plac n (b + 1) (x / 2)
theorem plac_zero : ∀ n b, plac n b 0 = []
  | 0, _ => rfl
  | n + 1, b => by rw [plac]; simp [plac_zero n]
theorem and_pred_odd (y : Nat) : (2 * y + 1) &&& (2 * y) = 2 * y := by
  apply Nat.eq_of_testBit_eq
  intro i
  rw [Nat.testBit_and]
  cases i with
  | zero => simp
  | succ i => rw [Nat.testBit_succ, Nat.testBit_succ, show (2 * y + 1) / 2 = y by omega, show 2 * y / 2 = y by omega]; simp
theorem and_pred_even (y : Nat) (hy : 0 < y) : (2 * y) &&& (2 * y - 1) = 2 * (y &&& (y - 1)) := by
  apply Nat.eq_of_testBit_eq
  intro i
  rw [Nat.testBit_and]
  cases i with
  | zero => simp
  | succ i => rw [Nat.testBit_succ, Nat.testBit_succ, Nat.testBit_succ, show (2 * y - 1) / 2 = y - 1 by omega, show 2 * y / 2 = y by omega, show 2 * (y &&& (y - 1)) / 2 = y &&& (y - 1) by omega, Nat.testBit_and]
theorem plac_step : ∀ n b x, x ≠ 0 → x < 2 ^ n → plac n b x = (b + Lib.ctzFrom n x) :: plac n b (x &&& (x - 1))
  | 0, _, x, h0, h => by simp at h; omega
  | n + 1, b, x, h0, h => by
    rw [Nat.pow_succ] at h
    rw [plac, Lib.ctzFrom]
    by_cases hx : x % 2 = 1
    · have e : x &&& (x - 1) = 2 * (x / 2) := by
        obtain ⟨y, rfl⟩ : ∃ y, x = 2 * y + 1 := ⟨x / 2, by omega⟩
        rw [Nat.add_sub_cancel, show (2 * y + 1) / 2 = y by omega]
        exact and_pred_odd y
      rw [if_pos hx, if_pos hx, e, plac, if_neg (by omega), show 2 * (x / 2) / 2 = x / 2 by omega]; rfl
    · have e : x &&& (x - 1) = 2 * (x / 2 &&& (x / 2 - 1)) := by
        have := and_pred_even (x / 2) (by omega)
        rwa [show 2 * (x / 2) = x by omega] at this
      rw [if_neg hx, if_neg hx, plac_step n (b + 1) (x / 2) (by omega) (by omega), e, plac, if_neg (by omega), show 2 * (x / 2 &&& (x / 2 - 1)) / 2 = x / 2 &&& (x / 2 - 1) by omega, Nat.add_assoc]
theorem plac_range : ∀ n b x, plac n b x = ((List.range n).filter (fun i => x.testBit i)).map (fun i => b + i)
  | 0, _, _ => rfl
  | n + 1, b, x => by
    rw [plac, plac_range n (b + 1) (x / 2), List.range_succ_eq_map, List.filter_cons, List.filter_map]
    have e : ((fun i => x.testBit i) ∘ Nat.succ) = (fun i => (x / 2).testBit i) := by funext i; simp [Nat.testBit_succ]
    have e0 : x.testBit 0 = decide (x % 2 = 1) := Nat.testBit_zero x
    rw [e, e0]
    by_cases h : x % 2 = 1
    · simp [h, List.map_map, Function.comp_def]; intro a _ _; omega
    · simp [h, List.map_map, Function.comp_def]; intro a _ _; omega
theorem places_plac (x : Nat) : places x = plac 64 0 x := by rw [plac_range]; simp [places, below]
theorem places_zero : places 0 = [] := by rw [places_plac, plac_zero]
theorem places_step {x : Nat} (h0 : x ≠ 0) (hx : x < 18446744073709551616) : places x = Lib.ctz 64 x :: places (x &&& (x - 1)) := by
  rw [places_plac, places_plac, plac_step 64 0 x h0 hx, Nat.zero_add, Lib.ctz, if_neg h0]
theorem ctz_lt {x : Nat} (h0 : x ≠ 0) (hx : x < 18446744073709551616) : Lib.ctz 64 x < 64 := by
  have : Lib.ctz 64 x ∈ places x := by rw [places_step h0 hx]; exact List.mem_cons_self
  exact (places_lt this).1
end Go.Proofs.YthhgojdnpkcaaaaDoor

/-
  Of no program: where rows of set bits begin, and how long they are.
-/
namespace Go.Proofs.YthhgojdnpkcaaaaDoor

/-- The bits of a that are not b's. -/
def andn (a b : Nat) : Nat := a &&& (18446744073709551615 - b)
theorem andn_lt {a b : Nat} (ha : a < 18446744073709551616) : andn a b < 18446744073709551616 := Nat.lt_of_le_of_lt Nat.and_le_left ha
theorem andn_bit {a b : Nat} (ha : a < 18446744073709551616) (hb : b < 18446744073709551616) (i : Nat) : (andn a b).testBit i = (a.testBit i && !b.testBit i) := by
  have e : 18446744073709551615 - b = 2 ^ 64 - (b + 1) := by omega
  rw [andn, Nat.testBit_and, e, Nat.testBit_two_pow_sub_succ (show b < 2 ^ 64 from hb)]
  by_cases hi : i < 64
  · simp [hi]
  · rw [bit_hi ha (by omega)]; rfl
theorem bits_andn (a b : Nat) (ha : a < 18446744073709551616) (hb : b < 18446744073709551616) : bits .andNot .u64 (a : Int) (b : Int) = ((andn a b : Nat) : Int) := by
  have hx := andn_lt (b := b) ha
  have h1 : (BitVec.ofInt 64 (a : Int)).toNat = a := by
    rw [BitVec.ofInt_natCast, BitVec.toNat_ofNat]; exact Nat.mod_eq_of_lt ha
  have h2 : (BitVec.ofInt 64 (b : Int)).toNat = b := by
    rw [BitVec.ofInt_natCast, BitVec.toNat_ofNat]; exact Nat.mod_eq_of_lt hb
  show IntKind.u64.wrap ((BitVec.ofInt 64 (a : Int) &&& ~~~ BitVec.ofInt 64 (b : Int)).toNat : Int) = _
  rw [BitVec.toNat_and, BitVec.toNat_not, h1, h2, IntKind.wrap_u64, show 2 ^ 64 - 1 - b = 18446744073709551615 - b by omega]
  rw [andn] at hx ⊢
  omega
theorem bits_xor_u64 (a b : Nat) (ha : a < 18446744073709551616) (hb : b < 18446744073709551616) : bits .xor .u64 (a : Int) (b : Int) = ((a ^^^ b : Nat) : Int) := by
  have hx : a ^^^ b < 2 ^ 64 := Nat.xor_lt_two_pow (n := 64) ha hb
  have h1 : (BitVec.ofInt 64 (a : Int)).toNat = a := by
    rw [BitVec.ofInt_natCast, BitVec.toNat_ofNat]; exact Nat.mod_eq_of_lt ha
  have h2 : (BitVec.ofInt 64 (b : Int)).toNat = b := by
    rw [BitVec.ofInt_natCast, BitVec.toNat_ofNat]; exact Nat.mod_eq_of_lt hb
  show IntKind.u64.wrap ((BitVec.ofInt 64 (a : Int) ^^^ BitVec.ofInt 64 (b : Int)).toNat : Int) = _
  rw [BitVec.toNat_xor, h1, h2, IntKind.wrap_u64]
  omega
theorem bits_or_u64 (a b : Nat) (ha : a < 18446744073709551616) (hb : b < 18446744073709551616) : bits .or .u64 (a : Int) (b : Int) = ((a ||| b : Nat) : Int) := by
  have hx : a ||| b < 2 ^ 64 := Nat.or_lt_two_pow (n := 64) ha hb
  have h1 : (BitVec.ofInt 64 (a : Int)).toNat = a := by
    rw [BitVec.ofInt_natCast, BitVec.toNat_ofNat]; exact Nat.mod_eq_of_lt ha
  have h2 : (BitVec.ofInt 64 (b : Int)).toNat = b := by
    rw [BitVec.ofInt_natCast, BitVec.toNat_ofNat]; exact Nat.mod_eq_of_lt hb
  show IntKind.u64.wrap ((BitVec.ofInt 64 (a : Int) ||| BitVec.ofInt 64 (b : Int)).toNat : Int) = _
  rw [BitVec.toNat_or, h1, h2, IntKind.wrap_u64]
  omega

/-- All bits turned. -/
def comp (v : Nat) : Nat := 18446744073709551615 ^^^ v
theorem comp_lt {v : Nat} (h : v < 18446744073709551616) : comp v < 18446744073709551616 := Nat.xor_lt_two_pow (n := 64) (by decide) h
theorem comp_bit (v i : Nat) (hi : i < 64) : (comp v).testBit i = !v.testBit i := by
  rw [comp, Nat.testBit_xor, show (18446744073709551615 : Nat) = 2 ^ 64 - 1 by decide, Nat.testBit_two_pow_sub_one]
  simp [hi]
theorem ctz_spec {y : Nat} (h0 : y ≠ 0) (hy : y < 18446744073709551616) : y.testBit (Lib.ctz 64 y) = true ∧ ∀ j, j < Lib.ctz 64 y → y.testBit j = false := by
  have e : Lib.ctz 64 y = Lib.ctzFrom 64 y := by rw [Lib.ctz, if_neg h0]
  obtain ⟨m, hm, _⟩ := Lib.ctzFrom_spec 64 y (by omega) hy
  rw [e]
  generalize Lib.ctzFrom 64 y = c at *
  have hb : ∀ i, y.testBit i = (decide (c ≤ i) && (2 * m + 1).testBit (i - c)) := fun i => by rw [hm, Nat.mul_comm, Nat.testBit_mul_two_pow]
  refine ⟨?_, fun j hj => ?_⟩
  · rw [hb]; simp
  · rw [hb]; simp [show ¬ c ≤ j by omega]

/-- How many bits are set from the place a on without a gap. -/
def runLen (x a : Nat) : Nat := Lib.ctz 64 (comp (x / 2 ^ a))
theorem run_spec {x a : Nat} (hx : x < 18446744073709551616) (ha : a < 64) : (∀ j, j < runLen x a → x.testBit (a + j) = true) ∧ x.testBit (a + runLen x a) = false ∧ a + runLen x a ≤ 64 := by
  have hl : x / 2 ^ a < 18446744073709551616 := Nat.lt_of_le_of_lt (Nat.div_le_self _ _) hx
  have hd : ∀ j, (x / 2 ^ a).testBit j = x.testBit (a + j) := fun j => by rw [Nat.testBit_div_two_pow, Nat.add_comm]
  have h1 : ∀ j, j < runLen x a → x.testBit (a + j) = true := by
    intro j hj
    by_cases h0 : comp (x / 2 ^ a) = 0
    · have hj' : j < 64 := by rw [runLen, h0] at hj; exact hj
      have := comp_bit (x / 2 ^ a) j hj'
      rw [h0, hd] at this
      simpa using this
    · have hlt := ctz_lt h0 (comp_lt hl)
      have := (ctz_spec h0 (comp_lt hl)).2 j hj
      rw [comp_bit _ j (by unfold runLen at hj; omega), hd] at this
      simpa using this
  have h3 : a + runLen x a ≤ 64 := by
    apply Nat.le_of_not_lt
    intro hc
    have := h1 (64 - a) (by omega)
    rw [bit_hi hx (by omega)] at this
    cases this
  refine ⟨h1, ?_, h3⟩
  by_cases h0 : comp (x / 2 ^ a) = 0
  · have e : runLen x a = 64 := by rw [runLen, h0]; rfl
    rw [e]; exact bit_hi hx (by omega)
  · have hlt := ctz_lt h0 (comp_lt hl)
    have := (ctz_spec h0 (comp_lt hl)).1
    rw [comp_bit _ _ hlt, hd] at this
    simpa [runLen] using this
/-- The length is the one number that says so. -/
theorem run_unique {x a r : Nat} (hx : x < 18446744073709551616) (ha : a < 64) (h1 : ∀ j, j < r → x.testBit (a + j) = true) (h2 : x.testBit (a + r) = false) : runLen x a = r := by
  obtain ⟨k1, k2, _⟩ := run_spec hx ha
  rcases Nat.lt_trichotomy (runLen x a) r with h | h | h
  · rw [h1 _ h] at k2; cases k2
  · exact h
  · rw [k1 _ h] at h2; cases h2

/-- Does a row of set bits begin here? -/
def isFirst (x i : Nat) : Bool := x.testBit i && !(decide (0 < i) && x.testBit (i - 1))
def firstsW (x : Nat) : Nat := andn x (x * 2 % 18446744073709551616)
theorem firstsW_lt {x : Nat} (hx : x < 18446744073709551616) : firstsW x < 18446744073709551616 := andn_lt hx
theorem first_bit {x : Nat} (hx : x < 18446744073709551616) {i : Nat} (hi : i < 64) : (firstsW x).testBit i = isFirst x i := by
  rw [firstsW, andn_bit hx (Nat.mod_lt _ (by decide)), isFirst]
  have e : (x * 2 % 18446744073709551616).testBit i = (decide (0 < i) && x.testBit (i - 1)) := by
    have := Nat.testBit_mod_two_pow (x * 2 ^ 1) 64 i
    rw [show x * 2 % 18446744073709551616 = x * 2 ^ 1 % 2 ^ 64 by simp, this, Nat.testBit_mul_two_pow]
    simp [hi]
    rfl
  rw [e]
def starts (x : Nat) : List Nat := places (firstsW x)
theorem starts_mem {x a : Nat} (hx : x < 18446744073709551616) : a ∈ starts x ↔ a < 64 ∧ isFirst x a = true := by
  have : a ∈ starts x ↔ a < 64 ∧ (firstsW x).testBit a = true := by simp [starts, places, below]
  rw [this]
  constructor
  · rintro ⟨h1, h2⟩; exact ⟨h1, by rwa [first_bit hx h1] at h2⟩
  · rintro ⟨h1, h2⟩; exact ⟨h1, by rwa [first_bit hx h1]⟩
end Go.Proofs.YthhgojdnpkcaaaaDoor

/-
  Of no program: which bits are escaped, bit by bit, and row by row.
-/
namespace Go.Proofs.YthhgojdnpkcaaaaDoor

/-- Is the bit n escaped (n = 64: the carry)? -/
def escC (x : Nat) (c : Bool) : Nat → Bool
  | 0 => c
  | n + 1 => x.testBit n && !escC x c n
theorem escC_succ (x : Nat) (c : Bool) (n : Nat) : escC x c (n + 1) = (x.testBit n && !escC x c n) := rfl
def escW (x : Nat) (c : Bool) : Nat := sumBits (escC x c) 64
theorem escW_lt (x : Nat) (c : Bool) : escW x c < 18446744073709551616 := sumBits_lt _ 64
theorem escW_bit (x : Nat) (c : Bool) {i : Nat} (hi : i < 64) : (escW x c).testBit i = escC x c i := by rw [escW, sumBits_bit]; simp [hi]

/-- Each second bit. -/
theorem other_bit : ∀ j : Fin 64, (12297829382473034410 : Nat).testBit j.val = decide (j.val % 2 = 1) := by decide +kernel
/-- What a row marks. -/
def rowW (y p : Nat) : Nat := (12297829382473034410 &&& (2 ^ min (runLen y (p % 64) + 1) 64 - 1)) * 2 ^ (p % 64) % 18446744073709551616
theorem rowW_lt (y p : Nat) : rowW y p < 18446744073709551616 := Nat.mod_lt _ (by decide)
theorem rowW_bit (y a : Nat) (ha : a < 64) {i : Nat} (hi : i < 64) : (rowW y a).testBit i = (decide (a ≤ i) && decide ((i - a) % 2 = 1) && decide (i - a ≤ runLen y a)) := by
  rw [rowW, Nat.mod_eq_of_lt ha]
  have := Nat.testBit_mod_two_pow ((12297829382473034410 &&& (2 ^ min (runLen y a + 1) 64 - 1)) * 2 ^ a) 64 i
  rw [show (18446744073709551616 : Nat) = 2 ^ 64 by decide, this, Nat.testBit_mul_two_pow, Nat.testBit_and, other_bit ⟨i - a, by omega⟩, Nat.testBit_two_pow_sub_one]
  by_cases h1 : a ≤ i
  · by_cases h2 : i - a ≤ runLen y a
    · have h3 : i - a < min (runLen y a + 1) 64 := by omega
      simp [hi, h1, h2, h3]
    · have h3 : ¬ i - a < min (runLen y a + 1) 64 := by omega
      simp [hi, h1, h2, h3]
  · simp [h1]
/-- What some rows mark. -/
def rowsW (y e0 : Nat) (pre : List Nat) : Nat := pre.foldl (fun e p => e ||| rowW y p) e0
theorem rowsW_snoc (y e0 : Nat) (pre : List Nat) (p : Nat) : rowsW y e0 (pre ++ [p]) = rowsW y e0 pre ||| rowW y p := by simp [rowsW]
theorem rowsW_lt (y e0 : Nat) (h0 : e0 < 18446744073709551616) (pre : List Nat) : rowsW y e0 pre < 18446744073709551616 := by
  unfold rowsW
  induction pre generalizing e0 with
  | nil => exact h0
  | cons p pre ih => exact ih _ (Nat.or_lt_two_pow (n := 64) h0 (rowW_lt y p))
theorem rowsW_bit (y e0 : Nat) (pre : List Nat) (i : Nat) : (rowsW y e0 pre).testBit i = (e0.testBit i || pre.any (fun p => (rowW y p).testBit i)) := by
  unfold rowsW
  induction pre generalizing e0 with
  | nil => simp
  | cons p pre ih => rw [List.foldl_cons, ih, Nat.testBit_or, List.any_cons, Bool.or_assoc]

/-- Behind a row of odd length, by the rows of y. -/
def byRows (y i : Nat) : Prop := ∃ a, a < i ∧ a < 64 ∧ isFirst y a = true ∧ (i - a) % 2 = 1 ∧ i - a ≤ runLen y a
theorem isFirst_iff (y a : Nat) : isFirst y a = true ↔ y.testBit a = true ∧ (a = 0 ∨ y.testBit (a - 1) = false) := by
  unfold isFirst
  cases a with
  | zero => simp
  | succ a => simp
theorem run_pos {y a : Nat} (hy : y < 18446744073709551616) (ha : a < 64) (h : y.testBit a = true) : 1 ≤ runLen y a := by
  obtain ⟨_, h2, _⟩ := run_spec hy ha
  apply Nat.succ_le_of_lt
  apply Nat.pos_of_ne_zero
  intro h0
  rw [h0, Nat.add_zero, h] at h2
  cases h2
/-- Where the first of two rows reaches the second one's beginning, they are one. -/
theorem rows_apart {y a b i : Nat} (hy : y < 18446744073709551616) (ha : a < 64) (hab : a < b) (hb : isFirst y b = true) (hbi : b ≤ i) (hi : i ≤ a + runLen y a) : False := by
  have h1 := (run_spec hy ha).1 (b - 1 - a) (by omega)
  rw [show a + (b - 1 - a) = b - 1 by omega] at h1
  obtain ⟨_, h2⟩ := (isFirst_iff y b).1 hb
  rcases h2 with h2 | h2
  · omega
  · rw [h1] at h2; cases h2
theorem byRows_succ {y : Nat} (hy : y < 18446744073709551616) : ∀ i, i < 64 → (byRows y (i + 1) ↔ y.testBit i = true ∧ ¬ byRows y i) := by
  intro i hi
  constructor
  · rintro ⟨a, h1, h2, h3, h4, h5⟩
    have hyi : y.testBit i = true := by
      have := (run_spec hy h2).1 (i - a) (by omega)
      rwa [show a + (i - a) = i by omega] at this
    refine ⟨hyi, ?_⟩
    rintro ⟨b, k1, k2, k3, k4, k5⟩
    rcases Nat.lt_trichotomy a b with h | h | h
    · exact rows_apart hy h2 h k3 (show b ≤ i by omega) (by omega)
    · subst h; omega
    · exact rows_apart hy k2 h h3 (show a ≤ i by omega) (by omega)
  · rintro ⟨hyi, hn⟩
    -- where the row that holds i begins
    have : ∀ d a, a + d = i → (∀ j, a ≤ j → j ≤ i → y.testBit j = true) → ∃ b, b ≤ i ∧ isFirst y b = true ∧ ∀ j, b ≤ j → j ≤ i → y.testBit j = true := by
      intro d a
      induction a generalizing d with
      | zero => exact fun _ h => ⟨0, by omega, (isFirst_iff y 0).2 ⟨h 0 (by omega) (by omega), .inl rfl⟩, h⟩
      | succ a ih =>
        intro hd h
        cases hb : y.testBit a with
        | false => exact ⟨a + 1, by omega, (isFirst_iff y (a + 1)).2 ⟨h (a + 1) (by omega) (by omega), .inr hb⟩, h⟩
        | true => exact ih (d + 1) (by omega) (fun j h1 h2 => by
            by_cases hj : j = a
            · rw [hj]; exact hb
            · exact h j (by omega) h2)
    obtain ⟨b, hb, hf, hall⟩ := this 0 i (by omega) (fun j h1 h2 => by rw [show j = i by omega]; exact hyi)
    have hlen : i - b < runLen y b := by
      apply Nat.lt_of_not_le
      intro hc
      have h2 := (run_spec hy (show b < 64 by omega)).2.1
      rw [hall (b + runLen y b) (by omega) (by omega)] at h2
      cases h2
    by_cases hp : (i - b) % 2 = 1
    · exact absurd ⟨b, by omega, by omega, hf, hp, by omega⟩ hn
    · exact ⟨b, by omega, by omega, hf, by omega, by omega⟩

/-- The bits that are escaped are those that the rows mark. -/
theorem esc_rows (x : Nat) (c : Bool) (hx : x < 18446744073709551616) : rowsW (andn x c.toNat) c.toNat (starts (andn x c.toNat)) = escW x c := by
  have hc : c.toNat < 18446744073709551616 := by cases c <;> decide
  have hy := andn_lt (b := c.toNat) hx
  have hc0 : ∀ i, c.toNat.testBit i = (decide (i = 0) && c) := by
    intro i
    cases c
    · simp
    · cases i with
      | zero => rfl
      | succ i => simp [Nat.testBit_succ]
  have hyb : ∀ i, (andn x c.toNat).testBit i = (x.testBit i && !(decide (i = 0) && c)) := fun i => by rw [andn_bit hx hc, hc0]
  refine (sumBits_eq (rowsW_lt _ _ hc _) fun i hi => ?_).symm
  have hany : (starts (andn x c.toNat)).any (fun p => (rowW (andn x c.toNat) p).testBit i) = true ↔ byRows (andn x c.toNat) i := by
    rw [List.any_eq_true]
    constructor
    · rintro ⟨a, ha, hb⟩
      obtain ⟨h1, h2⟩ := (starts_mem hy).1 ha
      rw [rowW_bit _ _ h1 hi] at hb
      simp at hb
      exact ⟨a, by omega, h1, h2, hb.1.2, by omega⟩
    · rintro ⟨a, h1, h2, h3, h4, h5⟩
      refine ⟨a, (starts_mem hy).2 ⟨h2, h3⟩, ?_⟩
      rw [rowW_bit _ _ h2 hi]
      simp [h4, h5]; omega
  have h00 : ¬ byRows (andn x c.toNat) 0 := by rintro ⟨a, h, _⟩; omega
  have key : ∀ k, k + 1 < 64 → (byRows (andn x c.toNat) (k + 1) ↔ escC x c (k + 1) = true) := by
    intro k
    induction k with
    | zero =>
      intro _
      rw [byRows_succ hy 0 (by decide), hyb]
      simp [h00, escC]
    | succ k ih =>
      intro hk
      rw [byRows_succ hy (k + 1) (by omega), hyb, ih (by omega), escC_succ x c (k + 1)]
      simp
  rw [rowsW_bit, hc0]
  cases i with
  | zero =>
    have : (starts (andn x c.toNat)).any (fun p => (rowW (andn x c.toNat) p).testBit 0) = false := by
      rw [← Bool.not_eq_true]
      exact fun h => h00 (hany.1 h)
    rw [this]
    simp [escC]
  | succ k =>
    have h := hany.trans (key k hi)
    simp only [Nat.add_eq_zero_iff, Nat.succ_ne_self, and_false, decide_false, Bool.false_and, Bool.false_or]
    rw [Bool.eq_iff_iff]
    simpa using h
theorem esc_out (x : Nat) (c : Bool) (hx : x < 18446744073709551616) : andn x (escW x c) / 9223372036854775808 = (escC x c 64).toNat := by
  have h := andn_lt (b := escW x c) hx
  have hb := andn_bit hx (escW_lt x c) 63
  rw [escW_bit x c (by decide)] at hb
  have e : escC x c 64 = (andn x (escW x c)).testBit 63 := by rw [hb]; rfl
  rw [e, Nat.testBit_eq_decide_div_mod_eq, show (2 : Nat) ^ 63 = 9223372036854775808 by decide]
  have h1 : andn x (escW x c) / 9223372036854775808 < 2 := by omega
  rcases (show andn x (escW x c) / 9223372036854775808 = 0 ∨ andn x (escW x c) / 9223372036854775808 = 1 by omega) with h2 | h2 <;> simp [h2]
end Go.Proofs.YthhgojdnpkcaaaaDoor
