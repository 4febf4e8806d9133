/-
  Texts of mine that others lean on, one behind the other.
-/
import Derived.Below
import Derived.Test.YtjlcliicdclooaaDoorRows
import Derived.WalkKit
import Derived.ProofKit
import Derived.OpenShut
import Derived.ShutString
import Derived.ChangeOld
import Derived.Laws.StructEq
import Derived.WalkSpells
import Derived.WalkLawsBesides
import Derived.BigQuiet
import Derived.Deep.QuietTactic
import Derived.Outline
import Derived.Deep.RegionHeld3
import Derived.Deep.RegionWith
import Derived.Deep.MidRow
import Derived.Deep.Quiet
import Derived.BigFrame
import Derived.RangeFuncNested
import Derived.RangeFuncBound
import Derived.RangeFuncCalls
import Derived.RangeFuncLeaves
import Derived.Shelf.Abstract
import Derived.Shelf.RegionOpen
import Derived.OwnWalkIn
import Derived.TacticsInMore
import Derived.LoopNIn
import Derived.LoopIn
import Derived.RangeFuncBox
import Derived.Maps.AppendAt
import Derived.Lib.TrimByte
/-
 Pointers as lists of bytes: what a name means, how it is written; one behind the other.
-/
namespace Go.Proofs.YtjlcliicdclooaaDoor
/-- What a raw name means. -/
def mnL : List UInt8 → Option (List UInt8)
 | [] => some []
 | c :: t =>
  if c = 126 then
   match t with
   | [] => none
   | d :: t' => if d = 48 then (mnL t').map (126 :: ·) else if d = 49 then (mnL t').map (47 :: ·) else none
  else (mnL t).map (c :: ·)
/-- A text, cut at its /s. -/
def cuL : List UInt8 → List (List UInt8)
 | [] => [[]]
 | c :: t => if c = 47 then [] :: cuL t else
  match cuL t with
  | a :: r => (c :: a) :: r
  | [] => [[c]]
theorem cuL_ne : ∀ l : List UInt8, ∃ a r, cuL l = a :: r
 | [] => ⟨_, _, rfl⟩
 | c :: t => by
  obtain ⟨a, r, h⟩ := cuL_ne t
  unfold cuL
  by_cases hc : c = 47
  ·exact ⟨_, _, if_pos hc⟩
  ·rw [if_neg hc, h]; exact ⟨_, _, rfl⟩
theorem cuL_sl (t : List UInt8) : cuL (47 :: t) = [] :: cuL t := by rw [cuL, if_pos rfl]
theorem cuL_on {c : UInt8} (hc : c ≠ 47) {t a : List UInt8} {r : List (List UInt8)} (h : cuL t = a :: r) : cuL (c :: t) = (c :: a) :: r := by rw [cuL, if_neg hc, h]
/-- The meanings of raw names, if all have one. -/
def mnAll : List (List UInt8) → Option (List (List UInt8))
 | [] => some []
 | a :: r => match mnL a, mnAll r with
  | some x, some y => some (x :: y)
  | _, _ => none
/-- The names of a pointer. -/
def ptrL : List UInt8 → Option (List (List UInt8))
 | [] => some []
 | c :: t => if c = 47 then mnAll (cuL t) else none
theorem mnL_plain {c : UInt8} (hc : c ≠ 126) (t : List UInt8) : mnL (c :: t) = (mnL t).map (c :: ·) := by rw [mnL.eq_def]; simp only [hc, if_false]
theorem mnL_none : mnL [126] = none := by rw [mnL.eq_def]; rfl
theorem mnL_til (d : UInt8) (t : List UInt8) : mnL (126 :: d :: t) = if d = 48 then (mnL t).map (126 :: ·) else if d = 49 then (mnL t).map (47 :: ·) else none := by rw [mnL.eq_def]; rfl
/-- The last name goes on. -/
def addN (out : List (List UInt8)) (c : UInt8) : List (List UInt8) := out.dropLast ++ [out.getLastD [] ++ [c]]
theorem addN_on (out : List (List UInt8)) (a : List UInt8) (c : UInt8) : addN (out ++ [a]) c = out ++ [a ++ [c]] := by simp [addN]
/-- From the left to the right. -/
def rfL : List (List UInt8) → List UInt8 → Option (List (List UInt8))
 | out, [] => some out
 | out, c :: t =>
  if c = 47 then rfL (out ++ [[]]) t
  else if c = 126 then
   match t with
   | [] => none
   | d :: t' => if d = 48 then rfL (addN out 126) t' else if d = 49 then rfL (addN out 47) t' else none
  else rfL (addN out c) t
theorem rfL_sl (out : List (List UInt8)) (t : List UInt8) : rfL out (47 :: t) = rfL (out ++ [[]]) t := by rw [rfL.eq_def]; rfl
theorem rfL_plain {c : UInt8} (h1 : c ≠ 47) (h2 : c ≠ 126) (out : List (List UInt8)) (t : List UInt8) : rfL out (c :: t) = rfL (addN out c) t := by rw [rfL.eq_def]; simp only [h1, h2, if_false]
theorem rfL_none (out : List (List UInt8)) : rfL out [126] = none := by rw [rfL.eq_def]; rfl
theorem rfL_til (out : List (List UInt8)) (d : UInt8) (t : List UInt8) : rfL out (126 :: d :: t) = if d = 48 then rfL (addN out 126) t else if d = 49 then rfL (addN out 47) t else none := by rw [rfL.eq_def]; rfl
def joinN (out : List (List UInt8)) (a : List UInt8) : List (List UInt8) → List (List UInt8)
 | [] => out ++ [a]
 | x :: r => out ++ (a ++ x) :: r
theorem rfL_on : ∀ (n : Nat) (l : List UInt8), l.length ≤ n → ∀ (out : List (List UInt8)) (a : List UInt8), rfL (out ++ [a]) l = (mnAll (cuL l)).map (joinN out a) := by
 intro n
 induction n with
 | zero =>
  intro l hl out a
  obtain rfl : l = [] := List.length_eq_zero_iff.1 (by omega)
  rw [rfL]
  simp [cuL, mnAll, mnL, joinN]
 | succ n ih =>
  intro l hl out a
  cases l with
  | nil => rw [rfL]; simp [cuL, mnAll, mnL, joinN]
  | cons c t =>
   have ht : t.length ≤ n := by simp at hl; omega
   by_cases hc : c = 47
   ·subst hc
    rw [rfL_sl, ih t ht (out ++ [a]) [], cuL_sl]
    obtain ⟨x, r, hx⟩ := cuL_ne t
    rw [hx, show mnAll ([] :: x :: r) = (mnAll (x :: r)).map ([] :: ·) by
     rw [mnAll]
     rw [show mnL [] = some [] from rfl]
     cases mnAll (x :: r) <;> rfl]
    cases hm : mnAll (x :: r) with
    | none => rfl
    | some q =>
     cases q with
     | nil =>
      exfalso
      rw [mnAll] at hm
      cases h1 : mnL x <;> cases h2 : mnAll r <;> rw [h1, h2] at hm <;> simp at hm
     | cons y z => simp [joinN]
   ·by_cases hc2 : c = 126
    ·subst hc2
     cases t with
     | nil =>
      rw [rfL_none, cuL_on (by decide) (show cuL [] = [] :: [] from rfl), mnAll, mnL_none]
      rfl
     | cons d t =>
      have ht' : t.length ≤ n := by simp at ht; omega
      rw [rfL_til]
      obtain ⟨x, r, hx⟩ := cuL_ne t
      by_cases h1 : d = 48
      ·subst h1
       rw [if_pos rfl, addN_on, ih t ht', cuL_on (by decide) (cuL_on (by decide) hx), hx, mnAll, mnAll, mnL_til, if_pos rfl]
       cases mnL x <;> cases mnAll r <;> simp [joinN]
      ·by_cases h2 : d = 49
       ·subst h2
        rw [if_neg h1, if_pos rfl, addN_on, ih t ht', cuL_on (by decide) (cuL_on (by decide) hx), hx, mnAll, mnAll, mnL_til, if_neg (by decide), if_pos rfl]
        cases mnL x <;> cases mnAll r <;> simp [joinN]
       ·rw [if_neg h1, if_neg h2]
        by_cases h3 : d = 47
        ·subst h3
         rw [cuL_on (by decide) (cuL_sl t), mnAll, mnL_none]
         rfl
        ·rw [cuL_on (by decide) (cuL_on h3 hx), mnAll, mnL_til, if_neg h1, if_neg h2]
         rfl
    ·rw [rfL_plain hc hc2, addN_on, ih t ht]
     obtain ⟨x, r, hx⟩ := cuL_ne t
     rw [cuL_on hc hx, hx, mnAll, mnAll, mnL_plain hc2]
     cases mnL x <;> cases mnAll r <;> simp [joinN]
theorem rfL_ptr (l : List UInt8) : (∀ c ∈ l.head?, c = 47) → rfL [] l = ptrL l := by
 intro h
 cases l with
 | nil => rfl
 | cons c t =>
  obtain rfl : c = 47 := h c rfl
  rw [rfL_sl, rfL_on t.length t (Nat.le_refl _) [] [], ptrL, if_pos rfl]
  cases hm : mnAll (cuL t) with
  | none => rfl
  | some q =>
   cases q with
   | nil =>
    obtain ⟨x, r, hx⟩ := cuL_ne t
    rw [hx, mnAll] at hm
    cases h1 : mnL x <;> cases h2 : mnAll r <;> rw [h1, h2] at hm <;> simp at hm
   | cons y z => simp [joinN]
theorem cuL_pre : ∀ (a : List UInt8), (∀ c ∈ a, c ≠ 47) → ∀ t x r, cuL t = x :: r → cuL (a ++ t) = (a ++ x) :: r
 | [], _, t, x, r, h => h
 | c :: a, hn, t, x, r, h => by
  rw [List.cons_append, cuL_on (hn c (by simp)) (cuL_pre a (fun d hd => hn d (by simp [hd])) t x r h)]
  rfl
theorem cuL_self (a : List UInt8) (h : ∀ c ∈ a, c ≠ 47) : cuL a = [a] := by
 have := cuL_pre a h [] [] [] rfl
 simpa using this
end Go.Proofs.YtjlcliicdclooaaDoor

/-
 Small helpers for the laws' proofs: an array of integers that comes in by value; bounds of integers; what is kept of the world.
-/
namespace Go.Proofs.YtjlcliicdclooaaDoor
open Go.ChangeShapes Go.WideShapes Go.ChangeAt Go.RowKit
theorem own : ownKnob Tryd.prog.godebug = none := by kernel_rfl
theorem laidOut : laidOutB Tryd.prog = true := by kernel_rfl
section
variable {H : Type} {enc : TypeId × Value → H} {P : Program} {w : World} {base : Nat} {spare : Nat → Bool} {held : Bool}
end
section
variable {P : Program} (w : World)
end
theorem wf_i64 {a : Int} (h : (Lit.int .i64 a).wf = true) : -9223372036854775808 ≤ a ∧ a < 9223372036854775808 := by
 have := Go.bounds_i64 h; omega
end Go.Proofs.YtjlcliicdclooaaDoor

/-
 At, HidKit, Range, QuietC, SeqKit, HeldKit, RoundKit.
-/
/-
 A block of cells of a world, and what keeps it.
-/
namespace Go.Proofs.YtjlcliicdclooaaDoor
open Go.RowKit
/-- Block b of the world holds just these cells, none of them frozen. -/
def At (w : World) (b : Nat) (cs : Array Value) (t : TypeId) : Prop := w.heap[b]? = some (.cells cs t)
section
variable {w w' : World} {b : Nat} {cs : Array Value} {t : TypeId}
theorem At.lt (h : At w b cs t) : b < w.heap.size := (Array.getElem?_eq_some_iff.1 h).1
theorem At.new (w : World) (cs : Array Value) (t : TypeId) : At (w.alloc (.cells cs t)) w.heap.size cs t := by
 show (w.heap.push _)[_]? = _
 simp
theorem At.kept {n : Nat} (h : At w b cs t) (hb : Below n w w') (hn : b < n) : At w' b cs t := (hb.block b hn).trans h
theorem At.keptAll (h : At w b cs t) (hb : Below w.heap.size w w') : At w' b cs t := h.kept hb h.lt
theorem At.alloc (h : At w b cs t) (o : Obj) : At (w.alloc o) b cs t := (Below.heap_alloc w o b h.lt).trans h
theorem At.drew (h : At w b cs t) : At w.drew b cs t := h
theorem At.other (h : At w b cs t) {p : Addr} (hp : b ≠ p.block) (v : Value) : At (w.setCell p v) b cs t := (Below.heap_setCell w p v b hp).trans h
theorem At.set (h : At w b cs t) (i : Nat) (v : Value) : At (w.setCell ⟨b, i, none⟩ v) b (cs.setIfInBounds i v) t := by
 unfold At at *
 simp only [World.setCell, Array.getElem?_modify, if_true, h, Option.map_some]
 rfl
theorem At.cell (h : At w b cs t) (i : Nat) : w.cell? ⟨b, i, none⟩ = cs[i]? := by
 unfold At at h
 simp [World.cell?, h]
theorem At.frozen (h : At w b cs t) (i : Nat) : w.frozen? ⟨b, i, none⟩ = false := by
 unfold At at h
 simp [World.frozen?, h]
end
end Go.Proofs.YtjlcliicdclooaaDoor
/-
 A fact is laid aside.
-/
namespace Go.Proofs.YtjlcliicdclooaaDoor
open Go.RowKit
theorem hid {p : Prop} (h : p) : Hid p := h
end Go.Proofs.YtjlcliicdclooaaDoor
/-
 Ranges of cells that a world holds, and what keeps them.
-/
namespace Go.Proofs.YtjlcliicdclooaaDoor
open Go.RowKit
theorem At.range {w : World} {b : Nat} {cs : Array Value} {t : TypeId} (h : At w b cs t) {L : List Value} (hL : L.toArray = cs) : w.rangeAt b 0 L := fun j v hv => by
 rw [Nat.zero_add, h.cell j, ← hL]
 simpa using hv
theorem range_kept {w w1 : World} {b o : Nat} {L : List Value} (h : w.rangeAt b o L) (hb : Below w.heap.size w w1) : w1.rangeAt b o L := fun j v hv => by
 have hc := h j v hv
 rw [hb.cell (p := ⟨b, o + j, none⟩) (block_lt_of_cell hc)]; exact hc
theorem At.there {w : World} {b : Nat} {cs : Array Value} {t : TypeId} (h : At w b cs t) (n : Nat) (hn : cs.size = n) : w.there b 0 n := fun j hj => by
 rw [Nat.zero_add]
 refine ⟨?_, h.frozen j⟩
 rw [h.cell j, Array.getElem?_eq_getElem (by omega)]; rfl
/-- Some cells of a block laid over. -/
theorem At.setCells_at {b : Nat} {t : TypeId} : ∀ (vs : List Value) (o : Nat) {w : World} {cs : Array Value}, At w b cs t → o + vs.length ≤ cs.size → ∃ ds : Array Value, At (w.setCells b o vs) b ds t ∧ ds.size = cs.size ∧ (∀ i, i < o → ds[i]? = cs[i]?) ∧ (∀ i, i < vs.length → ds[o + i]? = vs[i]?) ∧ ∀ i, o + vs.length ≤ i → ds[i]? = cs[i]? := by
 intro vs
 induction vs with
 | nil => exact fun o w cs h _ => ⟨cs, h, rfl, fun _ _ => rfl, fun i hi => by simp at hi, fun _ _ => rfl⟩
 | cons v vs ih =>
  intro o w cs h hle
  simp only [List.length_cons] at hle
  obtain ⟨ds, h1, h2, h3, h4, h5⟩ := ih (o + 1) (h.set o v) (by simp; omega)
  refine ⟨ds, h1, by simpa using h2, ?_, ?_, ?_⟩
  ·intro i hi
   rw [h3 i (by omega), Array.getElem?_setIfInBounds_ne (by omega)]
  ·intro i hi
   cases i with
   | zero =>
    rw [Nat.add_zero, h3 o (by omega), Array.getElem?_setIfInBounds_self_of_lt (by omega)]
    rfl
   | succ i =>
    have := h4 i (by simpa using hi)
    rw [show o + (i + 1) = o + 1 + i by omega, this]
    simp
  ·intro i hi
   simp only [List.length_cons] at hi
   rw [h5 i (by omega), Array.getElem?_setIfInBounds_ne (by omega)]
/-- A whole block laid over. -/
theorem At.setCells {w : World} {b : Nat} {cs : Array Value} {t : TypeId} (h : At w b cs t) (vs : List Value) (hn : cs.size = vs.length) : At (w.setCells b 0 vs) b vs.toArray t := by
 obtain ⟨ds, h1, h2, _, h4, _⟩ := At.setCells_at vs 0 h (by omega)
 have e : ds = vs.toArray := by
  apply Array.ext_getElem?
  intro i
  by_cases hi : i < vs.length
  ·have := h4 i hi
   rw [Nat.zero_add] at this
   rw [this]; simp
  ·rw [Array.getElem?_eq_none (by omega), Array.getElem?_eq_none (by simp; omega)]
 rwa [e] at h1
theorem At.setCells_other {w : World} {b : Nat} {cs : Array Value} {t : TypeId} (h : At w b cs t) {b' : Nat} (hb : b ≠ b') : ∀ (vs : List Value) (o : Nat), At (w.setCells b' o vs) b cs t := by
 intro vs
 induction vs generalizing w with
 | nil => exact fun _ => h
 | cons v vs ih => exact fun o => ih (h.other (p := ⟨b', o, none⟩) hb v) (o + 1)
theorem below_setCells {n b : Nat} {a w : World} (h : Below n a w) (hb : n ≤ b) : ∀ (vs : List Value) (o : Nat), Below n a (w.setCells b o vs) := by
 intro vs
 induction vs generalizing w with
 | nil => exact fun _ => h
 | cons v vs ih => exact fun o => ih (h.setCell (p := ⟨b, o, none⟩) hb v) (o + 1)
end Go.Proofs.YtjlcliicdclooaaDoor
/-
 A region that draws its order, walked once in the text's order, in a class of worlds of one's own.
-/
namespace Go.Proofs.YtjlcliicdclooaaDoor
open Go.RowKit
section
variable {P : Program} {ops : Array Oper} {C : World → Prop} {Q : Act → Prop}
theorem wpQuiet_take {a : Act} {o : Oper} {rest : List Oper} {v : Value} (hw : Region.wanted o (yielded ops a.tmps) = true) (hy : ∀ w, C w → o.quietAt P a C w v) (h : wpQuiet P ops C Q rest (a.put o.dst v)) : wpQuiet P ops C Q (o :: rest) a := by
 unfold wpQuiet
 rw [if_pos hw]
 exact ⟨v, hy, h⟩
theorem wpQuiet_skip {a : Act} {o : Oper} {rest : List Oper} (hw : Region.wanted o (yielded ops a.tmps) = false) (h : wpQuiet P ops C Q rest (a.put o.dst undef)) : wpQuiet P ops C Q (o :: rest) a := by
 unfold wpQuiet
 rw [if_neg (by rw [hw]; decide)]
 exact h
/-- The load of a long array. -/
theorem wpQuiet_load {a : Act} {o : Oper} {rest : List Oper} (ty : TypeId) (x : Operand) (b off : Nat) (cs : List Value) (d : TypeDesc) (hS : ∀ w, C w → w.rangeAt b off cs) (hu : P.underlying ty = some d) (hi : (P.info? ty).map (·.size) = some cs.length) (hd : d.isRow = true)
  (ho : o.op = .load ty x) (hx : a.eval x = .pointer (some ⟨b, off, none⟩)) (hw : Region.wanted o (yielded ops a.tmps) = true) (h : wpQuiet P ops C Q rest (a.put o.dst (.agg cs.toArray))) : wpQuiet P ops C Q (o :: rest) a := by
 refine wpQuiet_take hw (fun w hw' => ?_) h
 unfold Oper.quietAt execOp
 simp only [ho, hx, Instr.loadAt, Instr.sureAddr, Sem.run_bind, Sem.run_pure, Result.andThen_ok, run_loadVar_mid w b off ty cs d (hS w hw') hu hd hi]
 exact ⟨rfl, rfl⟩
end
section
variable {P : Program} {ops : Array Oper} {rest : List Oper} {op : Oper} {a : Act} {w : World} {Q : Exit → Act → World → Prop}
/-- A long array is loaded, in a plain region, guarded or not. -/
theorem wpList_load_want (ty : TypeId) (x : Operand) (b o : Nat) (cs : List Value) (d : TypeDesc) (hc : w.rangeAt b o cs) (hu : P.underlying ty = some d) (hi : (P.info? ty).map (·.size) = some cs.length) (hd : d.isRow = true)
  (ho : op.op = .load ty x) (hx : a.eval x = .pointer (some ⟨b, o, none⟩)) (hw : Region.wanted op (yielded ops a.tmps) = true) (h : wpList P ops Q rest (a.put op.dst (.agg cs.toArray)) w) : wpList P ops Q (op :: rest) a w :=
 BigFrame.wpList_want hw fun _ hK => wp_load_mid ty x ho b o hx cs d hc hu hd hi (hK _ _ h)
/-- A long array is stored. -/
theorem wpList_store_want (ty : TypeId) (x y : Operand) (b o : Nat) (cells : Array Value) (ht : w.there b o cells.size) (hi : (P.info? ty).map (·.size) = some cells.size) (h1 : cells.all (·.oneCell') = true)
  (ho : op.op = .store ty x y) (hx : a.eval x = .pointer (some ⟨b, o, none⟩)) (hy : a.eval y = .agg cells) (hw : Region.wanted op (yielded ops a.tmps) = true) (h : wpList P ops Q rest (a.put op.dst undef) (w.setCells b o cells.toList)) : wpList P ops Q (op :: rest) a w :=
 BigFrame.wpList_want hw fun _ hK => wp_store_mid ty x y ho b o cells hx hy ht hi h1 (hK _ _ h)
end
end Go.Proofs.YtjlcliicdclooaaDoor
/-
 Long arrays inside a fence, and what an iterator's caller keeps.
-/
namespace Go.Proofs.YtjlcliicdclooaaDoor
open Go.RowKit Go.Shelf
section
variable {F : Fence} {n : Nat} {P : Program} {ops : Array Oper} {rest : List Oper} {op : Oper} {a : Act} {w : World} {Q : Exit → Act → World → Prop}
end
/-- What was there is as it was, all of it. -/
theorem grown_of_below {w w' : World} (h : Below w.heap.size w w') : w.grownBy w' none := ⟨h.os, h.tape, h.output, h.size, fun k hk _ => h.block k hk⟩
theorem At.own {w w' : World} {b : Nat} {cs : Array Value} {t : TypeId} (h : At w b cs t) {row : Option Nat} (hg : w.grownBy w' row) (hr : ∀ r, row = some r → ∃ o : Obj, w.heap[r]? = some o ∧ o.isCells = false) : At w' b cs t := by
 refine (hg.block b h.lt (fun e => ?_)).trans h
 obtain ⟨o, ho, hc⟩ := hr b e.symm
 have hh : w.heap[b]? = some (.cells cs t) := h
 rw [hh] at ho
 cases ho
 cases hc
end Go.Proofs.YtjlcliicdclooaaDoor
/-
 A range over an iterator that itself ranges over another one and calls its yield in those rounds: the rounds of the outer loop must leave alone what the iterator has laid since it was called, its own loop's record too. The library's laws ask of the relation that a round keeps (Kp) that it abide a turn of ANY record from the loop's on; here it is asked to abide a turn of the loop's own record alone.
-/
namespace Go.Proofs.YtjlcliicdclooaaDoor
open Go.RowKit Go.Shelf
section
variable {P : Program}
/-- The two blocks that a loop lays: where deferred calls are gathered, and its record. -/
def Book (D : Nat) (r : Loop) (W : World) : Prop := W.heap[D + 1]? = some (.loop r) ∧ W.heap[D]? = some (.deferred (some []))
theorem Book.keeps {D : Nat} {r : Loop} {W W' : World} (h : Book D r W) (hk : KeepsFrom D W W') : Book D r W' := ⟨hk.same _ _ (by omega) h.1 rfl, hk.same _ _ (Nat.le_refl _) h.2 rfl⟩
theorem Book.lt {D : Nat} {r : Loop} {W : World} (h : Book D r W) : D + 1 < W.heap.size := (Array.getElem?_eq_some_iff.1 h.1).1
theorem Book.new (w : World) (r : Loop) : Book w.heap.size r ((w.alloc (.deferred (some []))).alloc (.loop r)) := by
 refine ⟨?_, (Below.heap_alloc _ _ _ (by simp)).trans (World.alloc_heap_new w _)⟩
 have h := World.alloc_heap_new (w.alloc (.deferred (some []))) (.loop r)
 rwa [World.size_alloc] at h
theorem Book.grown {D : Nat} {r : Loop} {X Y : World} {row : Option Nat} (h : Book D r X) (hg : X.grownBy Y row) (hr : ∀ k, row = some k → D + 1 < k) : Book D r Y := by
 have h1 := h.lt
 exact ⟨(hg.block _ h1 (fun e => by have := hr _ e.symm; omega)).trans h.1, (hg.block _ (by omega) (fun e => by have := hr _ e.symm; omega)).trans h.2⟩
section
variable {md : Region.Mode} {ops : Array Oper} {Q : Exit → Act → World → Prop} {l n : Nat}
end
/-- What a round must leave alone: all below n0; the block Bx; all that lies from B on. -/
def Held (n0 B Bx : Nat) (W W' : World) : Prop := Below n0 W W' ∧ W.heap.size ≤ W'.heap.size ∧ ∀ k o, B ≤ k ∨ k = Bx → W.heap[k]? = some o → W'.heap[k]? = some o
theorem Held.refl (n0 B Bx : Nat) (W : World) : Held n0 B Bx W W := ⟨Below.refl _ _, Nat.le_refl _, fun _ _ _ h => h⟩
theorem Held.trans {n0 B Bx : Nat} {X Y Z : World} (h : Held n0 B Bx X Y) (k : Held n0 B Bx Y Z) : Held n0 B Bx X Z :=
 ⟨h.1.trans k.1, Nat.le_trans h.2.1 k.2.1, fun i o hi ho => k.2.2 i o hi (h.2.2 i o hi ho)⟩
theorem Held.below {n0 B Bx : Nat} {W W' : World} (hn : n0 ≤ W.heap.size) (hb : Below W.heap.size W W') : Held n0 B Bx W W' :=
 ⟨hb.mono hn, hb.size, fun k _ _ ho => (hb.block k (Array.getElem?_eq_some_iff.1 ho).1).trans ho⟩
theorem Held.setCell {n0 B Bx b : Nat} (W : World) (v : Value) (h1 : n0 ≤ b) (h2 : b < B) (h3 : b ≠ Bx) : Held n0 B Bx W (W.setCell ⟨b, 0, none⟩ v) :=
 ⟨(Below.refl _ _).setCell (p := ⟨b, 0, none⟩) h1 v, by simp, fun k _ hk ho => (Below.heap_setCell W ⟨b, 0, none⟩ v k (by show k ≠ b; omega)).trans ho⟩
theorem Held.drew {n0 B Bx : Nat} (W : World) : Held n0 B Bx W W.drew := ⟨(Below.refl _ _).drew, Nat.le_refl _, fun _ _ _ h => h⟩
theorem Held.at {n0 B Bx : Nat} {W W' : World} (h : Held n0 B Bx W W') {b : Nat} {cs : Array Value} {t : TypeId} (ha : At W b cs t) (hb : B ≤ b ∨ b = Bx) : At W' b cs t := h.2.2 b _ hb ha
theorem Held.from {n0 B Bx : Nat} {W W' : World} (h : Held n0 B Bx W W') {D : Nat} (hD : B ≤ D) : KeepsFrom D W W' := ⟨h.2.1, fun k o hk ho _ => h.2.2 k o (.inl (by omega)) ho⟩
end
end Go.Proofs.YtjlcliicdclooaaDoor
/-
 A region that draws its order, inside a round of a range over a function.
-/
namespace Go.Proofs.YtjlcliicdclooaaDoor
open Go.RowKit Go.Shelf
section
variable {P : Program} {md : Region.Mode} {ops : Array Oper} {Q : Exit → Act → World → Prop} {l n : Nat}
end
end Go.Proofs.YtjlcliicdclooaaDoor

/-
 What a number's text is, and what decimal it is of (mathematics alone).
-/
namespace Go.Proofs.YtjlcliicdclooaaDoor
open Go.RowKit
/-- The byte at a place; 0 beyond the end. -/
def lk (s : ByteArray) (i : Nat) : Nat := if h : i < s.size then (s[i]'h).toNat else 0
theorem lk_at (s : ByteArray) (i : Nat) (h : i < s.size) : lk s i = (s[i]'h).toNat := dif_pos h
theorem lk_out (s : ByteArray) (i : Nat) (h : s.size ≤ i) : lk s i = 0 := dif_neg (by omega)
theorem lk_in {s : ByteArray} {i : Nat} (h : 0 < lk s i) : i < s.size := by
 rcases Nat.lt_or_ge i s.size with h1 | h1
 ·exact h1
 ·rw [lk_out s i h1] at h; omega
/-- Is it a digit? -/
def dgB (x : Nat) : Bool := decide (48 ≤ x ∧ x ≤ 57)
theorem dgB_iff (x : Nat) : dgB x = true ↔ 48 ≤ x ∧ x ≤ 57 := by simp [dgB]
def rnF (s : ByteArray) : Nat → Nat → Nat
 | 0, a => a
 | n + 1, a => if dgB (lk s a) then rnF s n (a + 1) else a
/-- The place behind all digits from a place on. -/
def rn (s : ByteArray) (a : Nat) : Nat := rnF s (s.size - a) a
theorem rnF_ge (s : ByteArray) : ∀ n a, a ≤ rnF s n a
 | 0, a => Nat.le_refl a
 | n + 1, a => by
  unfold rnF
  split
  ·have := rnF_ge s n (a + 1); omega
  ·exact Nat.le_refl a
theorem rnF_le (s : ByteArray) : ∀ n a, rnF s n a ≤ a + n
 | 0, a => Nat.le_refl a
 | n + 1, a => by
  unfold rnF
  split
  ·have := rnF_le s n (a + 1); omega
  ·omega
theorem rnF_dig (s : ByteArray) : ∀ n a i, a ≤ i → i < rnF s n a → dgB (lk s i) = true
 | 0, a, i, h1, h2 => by unfold rnF at h2; omega
 | n + 1, a, i, h1, h2 => by
  unfold rnF at h2
  split at h2
  ·rename_i h
   rcases Nat.eq_or_lt_of_le h1 with rfl | h3
   ·exact h
   ·exact rnF_dig s n (a + 1) i h3 h2
  ·omega
theorem rnF_end (s : ByteArray) : ∀ n a, s.size ≤ a + n → dgB (lk s (rnF s n a)) = false
 | 0, a, h => by
  unfold rnF
  rw [lk_out s a (by omega)]
  rfl
 | n + 1, a, h => by
  unfold rnF
  split
  ·exact rnF_end s n (a + 1) (by omega)
  ·rename_i h1
   simpa using h1
theorem rn_ge (s : ByteArray) (a : Nat) : a ≤ rn s a := rnF_ge s _ a
theorem rn_le (s : ByteArray) (a : Nat) (h : a ≤ s.size) : rn s a ≤ s.size := by have := rnF_le s (s.size - a) a; unfold rn; omega
theorem rn_dig (s : ByteArray) (a i : Nat) (h1 : a ≤ i) (h2 : i < rn s a) : dgB (lk s i) = true := rnF_dig s _ a i h1 h2
theorem rn_end (s : ByteArray) (a : Nat) : dgB (lk s (rn s a)) = false := rnF_end s _ a (by omega)
theorem rn_uniq (s : ByteArray) (a e : Nat) (h : a ≤ e) (hd : ∀ i, a ≤ i → i < e → dgB (lk s i) = true) (he : dgB (lk s e) = false) : rn s a = e := by
 have h1 := rn_ge s a
 rcases Nat.lt_trichotomy (rn s a) e with h2 | h2 | h2
 ·have h3 := hd _ h1 h2
  rw [rn_end] at h3
  cases h3
 ·exact h2
 ·have h3 := rn_dig s a e h h2
  rw [he] at h3
  cases h3
theorem rn_lt (s : ByteArray) (a : Nat) (h : dgB (lk s a) = true) : a < rn s a := by
 rcases Nat.eq_or_lt_of_le (rn_ge s a) with h1 | h1
 ·have := rn_end s a
  rw [← h1, h] at this
  cases this
 ·exact h1
/-- The parts of a number's text. -/
structure Num where
 neg : Bool
 wh : ByteArray
 be : ByteArray
 dn : Bool
 pw : ByteArray
/-- Where the whole part begins and ends; where the part behind the point ends; where the exponent's digits begin. -/
def scA (s : ByteArray) (p : Nat) : Nat := if lk s p = 45 then p + 1 else p
def scB (s : ByteArray) (p : Nat) : Nat := if lk s (scA s p) = 48 then scA s p + 1 else rn s (scA s p)
def scC (s : ByteArray) (p : Nat) : Nat := if lk s (scB s p) = 46 then rn s (scB s p + 1) else scB s p
def scF (s : ByteArray) (p : Nat) : Nat := if lk s (scC s p + 1) = 43 ∨ lk s (scC s p + 1) = 45 then scC s p + 2 else scC s p + 1
/-- Is there an exponent? -/
def scX (s : ByteArray) (p : Nat) : Bool := decide (lk s (scC s p) = 101 ∨ lk s (scC s p) = 69)
def scH (s : ByteArray) (p : Nat) : Nat := if scX s p then rn s (scF s p) else scC s p
def scNeg (s : ByteArray) (p : Nat) : Bool := decide (lk s p = 45)
def scDn (s : ByteArray) (p : Nat) : Bool := scX s p && decide (lk s (scC s p + 1) = 45)
def scBe (s : ByteArray) (p : Nat) : ByteArray := if lk s (scB s p) = 46 then s.extract (scB s p + 1) (scC s p) else ⟨#[]⟩
def scPw (s : ByteArray) (p : Nat) : ByteArray := if scX s p then s.extract (scF s p) (scH s p) else ⟨#[]⟩
/-- The parts (none: something is wanting), and the place behind them (the place of the byte that can't stand there). -/
def scanS (s : ByteArray) (p : Nat) : Option Num × Nat :=
 if dgB (lk s (scA s p)) = false then (none, scA s p)
 else if lk s (scB s p) = 46 ∧ dgB (lk s (scB s p + 1)) = false then (none, scB s p + 1)
 else if scX s p = true ∧ dgB (lk s (scF s p)) = false then (none, scF s p)
 else (some ⟨scNeg s p, s.extract (scA s p) (scB s p), scBe s p, scDn s p, scPw s p⟩, scH s p)
/-- The number that some digits are. -/
def pwN (l : List UInt8) : Nat := l.foldl (fun n b => 10 * n + (b.toNat - 48)) 0
/-- A decimal: its sign, digits, exponent. -/
structure Dec where
 neg : Bool
 ds : List UInt8
 ex : Int
/-- Its digits, without the noughts ahead. -/
def allS (n : Num) : List UInt8 := Lib.trimLeftB (n.wh.data.toList ++ n.be.data.toList) 48
def digS (n : Num) : List UInt8 := Lib.trimRightB (allS n) 48
def powS (n : Num) : Int := if n.dn then -(pwN n.pw.data.toList : Int) else pwN n.pw.data.toList
def expS (n : Num) : Int := powS n - (n.be.size : Int) + (((allS n).length - (digS n).length : Nat) : Int)
def inB (x : Int) : Bool := decide (-1073741824 ≤ x ∧ x ≤ 1073741824)
/-- The decimal of a number's parts; none: too big. -/
def worthS (n : Num) : Option Dec :=
 if allS n = [] then some ⟨n.neg, [], 0⟩
 else if inB (expS n) then some ⟨n.neg, digS n, expS n⟩ else none
def zeroD : Dec := ⟨false, [], 0⟩
/-- What Read answers: the decimal, the end, the number of the refusal. -/
def readS (s : ByteArray) (p : Nat) : Dec × Nat × Nat :=
 match (scanS s p).1 with
 | none => (zeroD, (scanS s p).2, 110)
 | some n => match worthS n with
  | none => (zeroD, (scanS s p).2, 111)
  | some d => (d, (scanS s p).2, 0)
def ofS (s : ByteArray) : Dec × Nat := if (readS s 0).2.1 = s.size then ((readS s 0).1, (readS s 0).2.2) else (zeroD, 110)
def decV (d : Dec) : Value := .agg #[.bool d.neg, .string ⟨d.ds.toArray⟩, .int .i64 d.ex]
theorem trimL_length (l : List UInt8) (c : UInt8) : (Lib.trimLeftB l c).length ≤ l.length := by
 unfold Lib.trimLeftB
 exact (List.dropWhile_sublist _).length_le
theorem trimR_length (l : List UInt8) (c : UInt8) : (Lib.trimRightB l c).length ≤ l.length := by
 unfold Lib.trimRightB
 rw [List.length_reverse]
 have := (List.dropWhile_sublist (fun x => x == c) (l := l.reverse)).length_le
 rwa [List.length_reverse] at this
/-- Noughts cut off twice are noughts cut off. -/
theorem trimL_twice (a b : List UInt8) (c : UInt8) : Lib.trimLeftB (Lib.trimLeftB a c ++ b) c = Lib.trimLeftB (a ++ b) c := by
 unfold Lib.trimLeftB
 induction a with
 | nil => rfl
 | cons x r ih =>
  by_cases h : (x == c) = true
  ·simp only [List.dropWhile_cons, h, if_true, List.cons_append]
   exact ih
  ·simp only [List.dropWhile_cons, h, List.cons_append]
   simp [h]
end Go.Proofs.YtjlcliicdclooaaDoor
