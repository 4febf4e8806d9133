/-
  Texts of mine that others lean on, one behind the other.
-/
import Derived.Below
import Derived.Test.YtlmjiocdhobopaaGreatDoorRows
import Derived.WalkKit
import Derived.ProofKit
import Derived.OpenShut
import Derived.ShutString
import Derived.ChangeOld
import Derived.Laws.StructEq
import Derived.WalkSpells
import Derived.WalkLawsBesides
import Derived.BigQuiet
import Derived.Deep.QuietTactic
import Derived.Outline
import Derived.Deep.RegionHeld3
import Derived.Deep.RegionWith
import Derived.Deep.MidRow
import Derived.Deep.Quiet
import Derived.BigFrame
import Derived.RangeFuncNested
import Derived.RangeFuncBound
import Derived.RangeFuncCalls
import Derived.RangeFuncLeaves
import Derived.Shelf.Abstract
import Derived.Shelf.RegionOpen
import Derived.OwnWalkIn
import Derived.TacticsInMore
import Derived.LoopNIn
import Derived.LoopIn
import Derived.RangeFuncBox
import Derived.Maps.AppendAt
import Derived.ChangeSlices
import Derived.SizedLaws
import Derived.Lib.Strings
/-
 Pointers as lists of bytes: what a name means, how it is written; one behind the other.
-/
namespace Go.Proofs.YtlmjiocdhobopaaGreatDoor
/-- What a raw name means. -/
def mnL : List UInt8 → Option (List UInt8)
 | [] => some []
 | c :: t =>
  if c = 126 then
   match t with
   | [] => none
   | d :: t' => if d = 48 then (mnL t').map (126 :: ·) else if d = 49 then (mnL t').map (47 :: ·) else none
  else (mnL t).map (c :: ·)
/-- A text, cut at its /s. -/
def cuL : List UInt8 → List (List UInt8)
 | [] => [[]]
 | c :: t => if c = 47 then [] :: cuL t else
  match cuL t with
  | a :: r => (c :: a) :: r
  | [] => [[c]]
theorem cuL_ne : ∀ l : List UInt8, ∃ a r, cuL l = a :: r
 | [] => ⟨_, _, rfl⟩
 | c :: t => by
  obtain ⟨a, r, h⟩ := cuL_ne t
  unfold cuL
  by_cases hc : c = 47
  ·exact ⟨_, _, if_pos hc⟩
  ·rw [if_neg hc, h]; exact ⟨_, _, rfl⟩
theorem cuL_sl (t : List UInt8) : cuL (47 :: t) = [] :: cuL t := by rw [cuL, if_pos rfl]
theorem cuL_on {c : UInt8} (hc : c ≠ 47) {t a : List UInt8} {r : List (List UInt8)} (h : cuL t = a :: r) : cuL (c :: t) = (c :: a) :: r := by rw [cuL, if_neg hc, h]
/-- The meanings of raw names, if all have one. -/
def mnAll : List (List UInt8) → Option (List (List UInt8))
 | [] => some []
 | a :: r => match mnL a, mnAll r with
  | some x, some y => some (x :: y)
  | _, _ => none
/-- The names of a pointer. -/
def ptrL : List UInt8 → Option (List (List UInt8))
 | [] => some []
 | c :: t => if c = 47 then mnAll (cuL t) else none
theorem mnL_plain {c : UInt8} (hc : c ≠ 126) (t : List UInt8) : mnL (c :: t) = (mnL t).map (c :: ·) := by rw [mnL.eq_def]; simp only [hc, if_false]
theorem mnL_none : mnL [126] = none := by rw [mnL.eq_def]; rfl
theorem mnL_til (d : UInt8) (t : List UInt8) : mnL (126 :: d :: t) = if d = 48 then (mnL t).map (126 :: ·) else if d = 49 then (mnL t).map (47 :: ·) else none := by rw [mnL.eq_def]; rfl
/-- The last name goes on. -/
def addN (out : List (List UInt8)) (c : UInt8) : List (List UInt8) := out.dropLast ++ [out.getLastD [] ++ [c]]
theorem addN_on (out : List (List UInt8)) (a : List UInt8) (c : UInt8) : addN (out ++ [a]) c = out ++ [a ++ [c]] := by simp [addN]
/-- From the left to the right. -/
def rfL : List (List UInt8) → List UInt8 → Option (List (List UInt8))
 | out, [] => some out
 | out, c :: t =>
  if c = 47 then rfL (out ++ [[]]) t
  else if c = 126 then
   match t with
   | [] => none
   | d :: t' => if d = 48 then rfL (addN out 126) t' else if d = 49 then rfL (addN out 47) t' else none
  else rfL (addN out c) t
theorem rfL_sl (out : List (List UInt8)) (t : List UInt8) : rfL out (47 :: t) = rfL (out ++ [[]]) t := by rw [rfL.eq_def]; rfl
theorem rfL_plain {c : UInt8} (h1 : c ≠ 47) (h2 : c ≠ 126) (out : List (List UInt8)) (t : List UInt8) : rfL out (c :: t) = rfL (addN out c) t := by rw [rfL.eq_def]; simp only [h1, h2, if_false]
theorem rfL_none (out : List (List UInt8)) : rfL out [126] = none := by rw [rfL.eq_def]; rfl
theorem rfL_til (out : List (List UInt8)) (d : UInt8) (t : List UInt8) : rfL out (126 :: d :: t) = if d = 48 then rfL (addN out 126) t else if d = 49 then rfL (addN out 47) t else none := by rw [rfL.eq_def]; rfl
def joinN (out : List (List UInt8)) (a : List UInt8) : List (List UInt8) → List (List UInt8)
 | [] => out ++ [a]
 | x :: r => out ++ (a ++ x) :: r
theorem rfL_on : ∀ (n : Nat) (l : List UInt8), l.length ≤ n → ∀ (out : List (List UInt8)) (a : List UInt8), rfL (out ++ [a]) l = (mnAll (cuL l)).map (joinN out a) := by
 intro n
 induction n with
 | zero =>
  intro l hl out a
  obtain rfl : l = [] := List.length_eq_zero_iff.1 (by omega)
  rw [rfL]
  simp [cuL, mnAll, mnL, joinN]
 | succ n ih =>
  intro l hl out a
  cases l with
  | nil => rw [rfL]; simp [cuL, mnAll, mnL, joinN]
  | cons c t =>
   have ht : t.length ≤ n := by simp at hl; omega
   by_cases hc : c = 47
   ·subst hc
    rw [rfL_sl, ih t ht (out ++ [a]) [], cuL_sl]
    obtain ⟨x, r, hx⟩ := cuL_ne t
    rw [hx, show mnAll ([] :: x :: r) = (mnAll (x :: r)).map ([] :: ·) by
     rw [mnAll]
     rw [show mnL [] = some [] from rfl]
     cases mnAll (x :: r) <;> rfl]
    cases hm : mnAll (x :: r) with
    | none => rfl
    | some q =>
     cases q with
     | nil =>
      exfalso
      rw [mnAll] at hm
      cases h1 : mnL x <;> cases h2 : mnAll r <;> rw [h1, h2] at hm <;> simp at hm
     | cons y z => simp [joinN]
   ·by_cases hc2 : c = 126
    ·subst hc2
     cases t with
     | nil =>
      rw [rfL_none, cuL_on (by decide) (show cuL [] = [] :: [] from rfl), mnAll, mnL_none]
      rfl
     | cons d t =>
      have ht' : t.length ≤ n := by simp at ht; omega
      rw [rfL_til]
      obtain ⟨x, r, hx⟩ := cuL_ne t
      by_cases h1 : d = 48
      ·subst h1
       rw [if_pos rfl, addN_on, ih t ht', cuL_on (by decide) (cuL_on (by decide) hx), hx, mnAll, mnAll, mnL_til, if_pos rfl]
       cases mnL x <;> cases mnAll r <;> simp [joinN]
      ·by_cases h2 : d = 49
       ·subst h2
        rw [if_neg h1, if_pos rfl, addN_on, ih t ht', cuL_on (by decide) (cuL_on (by decide) hx), hx, mnAll, mnAll, mnL_til, if_neg (by decide), if_pos rfl]
        cases mnL x <;> cases mnAll r <;> simp [joinN]
       ·rw [if_neg h1, if_neg h2]
        by_cases h3 : d = 47
        ·subst h3
         rw [cuL_on (by decide) (cuL_sl t), mnAll, mnL_none]
         rfl
        ·rw [cuL_on (by decide) (cuL_on h3 hx), mnAll, mnL_til, if_neg h1, if_neg h2]
         rfl
    ·rw [rfL_plain hc hc2, addN_on, ih t ht]
     obtain ⟨x, r, hx⟩ := cuL_ne t
     rw [cuL_on hc hx, hx, mnAll, mnAll, mnL_plain hc2]
     cases mnL x <;> cases mnAll r <;> simp [joinN]
theorem rfL_ptr (l : List UInt8) : (∀ c ∈ l.head?, c = 47) → rfL [] l = ptrL l := by
 intro h
 cases l with
 | nil => rfl
 | cons c t =>
  obtain rfl : c = 47 := h c rfl
  rw [rfL_sl, rfL_on t.length t (Nat.le_refl _) [] [], ptrL, if_pos rfl]
  cases hm : mnAll (cuL t) with
  | none => rfl
  | some q =>
   cases q with
   | nil =>
    obtain ⟨x, r, hx⟩ := cuL_ne t
    rw [hx, mnAll] at hm
    cases h1 : mnL x <;> cases h2 : mnAll r <;> rw [h1, h2] at hm <;> simp at hm
   | cons y z => simp [joinN]
/-- How a name is written. -/
def wrN : List UInt8 → List UInt8
 | [] => []
 | c :: t => if c = 126 then 126 :: 48 :: wrN t else if c = 47 then 126 :: 49 :: wrN t else c :: wrN t
theorem cuL_pre : ∀ (a : List UInt8), (∀ c ∈ a, c ≠ 47) → ∀ t x r, cuL t = x :: r → cuL (a ++ t) = (a ++ x) :: r
 | [], _, t, x, r, h => h
 | c :: a, hn, t, x, r, h => by
  rw [List.cons_append, cuL_on (hn c (by simp)) (cuL_pre a (fun d hd => hn d (by simp [hd])) t x r h)]
  rfl
theorem cuL_self (a : List UInt8) (h : ∀ c ∈ a, c ≠ 47) : cuL a = [a] := by
 have := cuL_pre a h [] [] [] rfl
 simpa using this
end Go.Proofs.YtlmjiocdhobopaaGreatDoor

/-
 Small helpers for the laws' proofs: an array of integers that comes in by value; bounds of integers; what is kept of the world.
-/
namespace Go.Proofs.YtlmjiocdhobopaaGreatDoor
open Go.ChangeShapes Go.WideShapes Go.ChangeAt Go.RowKit
theorem own : ownKnob Tryz.prog.godebug = none := by kernel_rfl
theorem laidOut : laidOutB Tryz.prog = true := by kernel_rfl
section
variable {H : Type} {enc : TypeId × Value → H} {P : Program} {w : World} {base : Nat} {spare : Nat → Bool} {held : Bool}
end
section
variable {P : Program} (w : World)
end
theorem wf_i64 {a : Int} (h : (Lit.int .i64 a).wf = true) : -9223372036854775808 ≤ a ∧ a < 9223372036854775808 := by
 have := Go.bounds_i64 h; omega
end Go.Proofs.YtlmjiocdhobopaaGreatDoor

/-
 At, HidKit, Range, QuietC, SeqKit, HeldKit, RoundKit.
-/
/-
 A block of cells of a world, and what keeps it.
-/
namespace Go.Proofs.YtlmjiocdhobopaaGreatDoor
open Go.RowKit
/-- Block b of the world holds just these cells, none of them frozen. -/
def At (w : World) (b : Nat) (cs : Array Value) (t : TypeId) : Prop := w.heap[b]? = some (.cells cs t)
section
variable {w w' : World} {b : Nat} {cs : Array Value} {t : TypeId}
theorem At.lt (h : At w b cs t) : b < w.heap.size := (Array.getElem?_eq_some_iff.1 h).1
theorem At.new (w : World) (cs : Array Value) (t : TypeId) : At (w.alloc (.cells cs t)) w.heap.size cs t := by
 show (w.heap.push _)[_]? = _
 simp
theorem At.kept {n : Nat} (h : At w b cs t) (hb : Below n w w') (hn : b < n) : At w' b cs t := (hb.block b hn).trans h
theorem At.keptAll (h : At w b cs t) (hb : Below w.heap.size w w') : At w' b cs t := h.kept hb h.lt
theorem At.alloc (h : At w b cs t) (o : Obj) : At (w.alloc o) b cs t := (Below.heap_alloc w o b h.lt).trans h
theorem At.drew (h : At w b cs t) : At w.drew b cs t := h
theorem At.drewN (h : At w b cs t) (n : Nat) : At (w.drewN n) b cs t := h
theorem At.other (h : At w b cs t) {p : Addr} (hp : b ≠ p.block) (v : Value) : At (w.setCell p v) b cs t := (Below.heap_setCell w p v b hp).trans h
theorem At.set (h : At w b cs t) (i : Nat) (v : Value) : At (w.setCell ⟨b, i, none⟩ v) b (cs.setIfInBounds i v) t := by
 unfold At at *
 simp only [World.setCell, Array.getElem?_modify, if_true, h, Option.map_some]
 rfl
theorem At.cell (h : At w b cs t) (i : Nat) : w.cell? ⟨b, i, none⟩ = cs[i]? := by
 unfold At at h
 simp [World.cell?, h]
theorem At.frozen (h : At w b cs t) (i : Nat) : w.frozen? ⟨b, i, none⟩ = false := by
 unfold At at h
 simp [World.frozen?, h]
end
end Go.Proofs.YtlmjiocdhobopaaGreatDoor
/-
 A fact is laid aside.
-/
namespace Go.Proofs.YtlmjiocdhobopaaGreatDoor
open Go.RowKit
theorem hid {p : Prop} (h : p) : Hid p := h
end Go.Proofs.YtlmjiocdhobopaaGreatDoor
/-
 Ranges of cells that a world holds, and what keeps them.
-/
namespace Go.Proofs.YtlmjiocdhobopaaGreatDoor
open Go.RowKit
theorem At.range {w : World} {b : Nat} {cs : Array Value} {t : TypeId} (h : At w b cs t) {L : List Value} (hL : L.toArray = cs) : w.rangeAt b 0 L := fun j v hv => by
 rw [Nat.zero_add, h.cell j, ← hL]
 simpa using hv
theorem range_kept {w w1 : World} {b o : Nat} {L : List Value} (h : w.rangeAt b o L) (hb : Below w.heap.size w w1) : w1.rangeAt b o L := fun j v hv => by
 have hc := h j v hv
 rw [hb.cell (p := ⟨b, o + j, none⟩) (block_lt_of_cell hc)]; exact hc
theorem At.there {w : World} {b : Nat} {cs : Array Value} {t : TypeId} (h : At w b cs t) (n : Nat) (hn : cs.size = n) : w.there b 0 n := fun j hj => by
 rw [Nat.zero_add]
 refine ⟨?_, h.frozen j⟩
 rw [h.cell j, Array.getElem?_eq_getElem (by omega)]; rfl
/-- Some cells of a block laid over. -/
theorem At.setCells_at {b : Nat} {t : TypeId} : ∀ (vs : List Value) (o : Nat) {w : World} {cs : Array Value}, At w b cs t → o + vs.length ≤ cs.size → ∃ ds : Array Value, At (w.setCells b o vs) b ds t ∧ ds.size = cs.size ∧ (∀ i, i < o → ds[i]? = cs[i]?) ∧ (∀ i, i < vs.length → ds[o + i]? = vs[i]?) ∧ ∀ i, o + vs.length ≤ i → ds[i]? = cs[i]? := by
 intro vs
 induction vs with
 | nil => exact fun o w cs h _ => ⟨cs, h, rfl, fun _ _ => rfl, fun i hi => by simp at hi, fun _ _ => rfl⟩
 | cons v vs ih =>
  intro o w cs h hle
  simp only [List.length_cons] at hle
  obtain ⟨ds, h1, h2, h3, h4, h5⟩ := ih (o + 1) (h.set o v) (by simp; omega)
  refine ⟨ds, h1, by simpa using h2, ?_, ?_, ?_⟩
  ·intro i hi
   rw [h3 i (by omega), Array.getElem?_setIfInBounds_ne (by omega)]
  ·intro i hi
   cases i with
   | zero =>
    rw [Nat.add_zero, h3 o (by omega), Array.getElem?_setIfInBounds_self_of_lt (by omega)]
    rfl
   | succ i =>
    have := h4 i (by simpa using hi)
    rw [show o + (i + 1) = o + 1 + i by omega, this]
    simp
  ·intro i hi
   simp only [List.length_cons] at hi
   rw [h5 i (by omega), Array.getElem?_setIfInBounds_ne (by omega)]
/-- A whole block laid over. -/
theorem At.setCells {w : World} {b : Nat} {cs : Array Value} {t : TypeId} (h : At w b cs t) (vs : List Value) (hn : cs.size = vs.length) : At (w.setCells b 0 vs) b vs.toArray t := by
 obtain ⟨ds, h1, h2, _, h4, _⟩ := At.setCells_at vs 0 h (by omega)
 have e : ds = vs.toArray := by
  apply Array.ext_getElem?
  intro i
  by_cases hi : i < vs.length
  ·have := h4 i hi
   rw [Nat.zero_add] at this
   rw [this]; simp
  ·rw [Array.getElem?_eq_none (by omega), Array.getElem?_eq_none (by simp; omega)]
 rwa [e] at h1
theorem At.setCells_other {w : World} {b : Nat} {cs : Array Value} {t : TypeId} (h : At w b cs t) {b' : Nat} (hb : b ≠ b') : ∀ (vs : List Value) (o : Nat), At (w.setCells b' o vs) b cs t := by
 intro vs
 induction vs generalizing w with
 | nil => exact fun _ => h
 | cons v vs ih => exact fun o => ih (h.other (p := ⟨b', o, none⟩) hb v) (o + 1)
theorem below_setCells {n b : Nat} {a w : World} (h : Below n a w) (hb : n ≤ b) : ∀ (vs : List Value) (o : Nat), Below n a (w.setCells b o vs) := by
 intro vs
 induction vs generalizing w with
 | nil => exact fun _ => h
 | cons v vs ih => exact fun o => ih (h.setCell (p := ⟨b, o, none⟩) hb v) (o + 1)
end Go.Proofs.YtlmjiocdhobopaaGreatDoor
/-
 A region that draws its order, walked once in the text's order, in a class of worlds of one's own.
-/
namespace Go.Proofs.YtlmjiocdhobopaaGreatDoor
open Go.RowKit
section
variable {P : Program} {ops : Array Oper} {C : World → Prop} {Q : Act → Prop}
theorem wpQuiet_take {a : Act} {o : Oper} {rest : List Oper} {v : Value} (hw : Region.wanted o (yielded ops a.tmps) = true) (hy : ∀ w, C w → o.quietAt P a C w v) (h : wpQuiet P ops C Q rest (a.put o.dst v)) : wpQuiet P ops C Q (o :: rest) a := by
 unfold wpQuiet
 rw [if_pos hw]
 exact ⟨v, hy, h⟩
theorem wpQuiet_skip {a : Act} {o : Oper} {rest : List Oper} (hw : Region.wanted o (yielded ops a.tmps) = false) (h : wpQuiet P ops C Q rest (a.put o.dst undef)) : wpQuiet P ops C Q (o :: rest) a := by
 unfold wpQuiet
 rw [if_neg (by rw [hw]; decide)]
 exact h
/-- The load of a long array. -/
theorem wpQuiet_load {a : Act} {o : Oper} {rest : List Oper} (ty : TypeId) (x : Operand) (b off : Nat) (cs : List Value) (d : TypeDesc) (hS : ∀ w, C w → w.rangeAt b off cs) (hu : P.underlying ty = some d) (hi : (P.info? ty).map (·.size) = some cs.length) (hd : d.isRow = true)
  (ho : o.op = .load ty x) (hx : a.eval x = .pointer (some ⟨b, off, none⟩)) (hw : Region.wanted o (yielded ops a.tmps) = true) (h : wpQuiet P ops C Q rest (a.put o.dst (.agg cs.toArray))) : wpQuiet P ops C Q (o :: rest) a := by
 refine wpQuiet_take hw (fun w hw' => ?_) h
 unfold Oper.quietAt execOp
 simp only [ho, hx, Instr.loadAt, Instr.sureAddr, Sem.run_bind, Sem.run_pure, Result.andThen_ok, run_loadVar_mid w b off ty cs d (hS w hw') hu hd hi]
 exact ⟨rfl, rfl⟩
end
section
variable {P : Program} {ops : Array Oper} {rest : List Oper} {op : Oper} {a : Act} {w : World} {Q : Exit → Act → World → Prop}
/-- A long array is loaded, in a plain region, guarded or not. -/
theorem wpList_load_want (ty : TypeId) (x : Operand) (b o : Nat) (cs : List Value) (d : TypeDesc) (hc : w.rangeAt b o cs) (hu : P.underlying ty = some d) (hi : (P.info? ty).map (·.size) = some cs.length) (hd : d.isRow = true)
  (ho : op.op = .load ty x) (hx : a.eval x = .pointer (some ⟨b, o, none⟩)) (hw : Region.wanted op (yielded ops a.tmps) = true) (h : wpList P ops Q rest (a.put op.dst (.agg cs.toArray)) w) : wpList P ops Q (op :: rest) a w :=
 BigFrame.wpList_want hw fun _ hK => wp_load_mid ty x ho b o hx cs d hc hu hd hi (hK _ _ h)
/-- A long array is stored. -/
theorem wpList_store_want (ty : TypeId) (x y : Operand) (b o : Nat) (cells : Array Value) (ht : w.there b o cells.size) (hi : (P.info? ty).map (·.size) = some cells.size) (h1 : cells.all (·.oneCell') = true)
  (ho : op.op = .store ty x y) (hx : a.eval x = .pointer (some ⟨b, o, none⟩)) (hy : a.eval y = .agg cells) (hw : Region.wanted op (yielded ops a.tmps) = true) (h : wpList P ops Q rest (a.put op.dst undef) (w.setCells b o cells.toList)) : wpList P ops Q (op :: rest) a w :=
 BigFrame.wpList_want hw fun _ hK => wp_store_mid ty x y ho b o cells hx hy ht hi h1 (hK _ _ h)
end
end Go.Proofs.YtlmjiocdhobopaaGreatDoor
/-
 Long arrays inside a fence, and what an iterator's caller keeps.
-/
namespace Go.Proofs.YtlmjiocdhobopaaGreatDoor
open Go.RowKit Go.Shelf
section
variable {F : Fence} {n : Nat} {P : Program} {ops : Array Oper} {rest : List Oper} {op : Oper} {a : Act} {w : World} {Q : Exit → Act → World → Prop}
theorem wpListIn_load_want (ty : TypeId) (x : Operand) (b o : Nat) (cs : List Value) (d : TypeDesc) (hc : w.rangeAt b o cs) (hu : P.underlying ty = some d) (hi : (P.info? ty).map (·.size) = some cs.length) (hd : d.isRow = true)
  (ho : op.op = .load ty x) (hx : a.eval x = .pointer (some ⟨b, o, none⟩)) (hw : Region.wanted op (yielded ops a.tmps) = true) (h : wpListIn F n P ops Q rest (a.put op.dst (.agg cs.toArray)) w) : wpListIn F n P ops Q (op :: rest) a w :=
 BigFrame.wpListIn_want hw fun K hK => by
  refine ⟨fun f hf => by simp [Oper.about, ho] at hf, ?_⟩
  rw [Oper.semAt_eq _ _ _ (fun c => by rw [ho]; intro h; cases h)]
  unfold execOp
  simp only [ho, hx, Instr.loadAt, Instr.sureAddr, Sem.run_bind, Sem.run_pure, Result.andThen_ok, run_loadVar_mid w b o ty cs d hc hu hd hi]
  exact hK _ _ h
theorem wpListIn_store_want (ty : TypeId) (x y : Operand) (b o : Nat) (cells : Array Value) (ht : w.there b o cells.size) (hi : (P.info? ty).map (·.size) = some cells.size) (h1 : cells.all (·.oneCell') = true)
  (ho : op.op = .store ty x y) (hx : a.eval x = .pointer (some ⟨b, o, none⟩)) (hy : a.eval y = .agg cells) (hw : Region.wanted op (yielded ops a.tmps) = true) (h : wpListIn F n P ops Q rest (a.put op.dst undef) (w.setCells b o cells.toList)) : wpListIn F n P ops Q (op :: rest) a w :=
 BigFrame.wpListIn_want hw fun K hK => by
  refine ⟨fun f hf => by simp [Oper.about, ho] at hf, ?_⟩
  rw [Oper.semAt_eq _ _ _ (fun c => by rw [ho]; intro h; cases h)]
  unfold execOp
  simp only [ho, hx, hy, Instr.storeAt, Instr.sureAddr, Sem.run_bind, Sem.run_pure, Result.andThen_ok, run_storeVar_mid w b o ty cells ht hi h1]
  exact hK _ _ h
end
/-- What was there is as it was, all of it. -/
theorem grown_of_below {w w' : World} (h : Below w.heap.size w w') : w.grownBy w' none := ⟨h.os, h.tape, h.output, h.size, fun k hk _ => h.block k hk⟩
theorem keeps_below {A A' : World} (hb : Below A.heap.size A A') : KeepsOthers A A' := ⟨hb.size, fun k _ hk _ => (hb.block k (Array.getElem?_eq_some_iff.1 hk).1).trans hk⟩
theorem At.own {w w' : World} {b : Nat} {cs : Array Value} {t : TypeId} (h : At w b cs t) {row : Option Nat} (hg : w.grownBy w' row) (hr : ∀ r, row = some r → ∃ o : Obj, w.heap[r]? = some o ∧ o.isCells = false) : At w' b cs t := by
 refine (hg.block b h.lt (fun e => ?_)).trans h
 obtain ⟨o, ho, hc⟩ := hr b e.symm
 have hh : w.heap[b]? = some (.cells cs t) := h
 rw [hh] at ho
 cases ho
 cases hc
end Go.Proofs.YtlmjiocdhobopaaGreatDoor
/-
 A range over an iterator that itself ranges over another one and calls its yield in those rounds: the rounds of the outer loop must leave alone what the iterator has laid since it was called, its own loop's record too. The library's laws ask of the relation that a round keeps (Kp) that it abide a turn of ANY record from the loop's on; here it is asked to abide a turn of the loop's own record alone.
-/
namespace Go.Proofs.YtlmjiocdhobopaaGreatDoor
open Go.RowKit Go.Shelf
section
variable {P : Program}
/-- The two blocks that a loop lays: where deferred calls are gathered, and its record. -/
def Book (D : Nat) (r : Loop) (W : World) : Prop := W.heap[D + 1]? = some (.loop r) ∧ W.heap[D]? = some (.deferred (some []))
theorem Book.keeps {D : Nat} {r : Loop} {W W' : World} (h : Book D r W) (hk : KeepsFrom D W W') : Book D r W' := ⟨hk.same _ _ (by omega) h.1 rfl, hk.same _ _ (Nat.le_refl _) h.2 rfl⟩
theorem Book.lt {D : Nat} {r : Loop} {W : World} (h : Book D r W) : D + 1 < W.heap.size := (Array.getElem?_eq_some_iff.1 h.1).1
theorem Book.turn {D : Nat} {r : Loop} {W : World} (h : Book D r W) (r' : Loop) : Book D r' (W.putObj (D + 1) (.loop r')) :=
 ⟨World.putObj_heap_same h.lt, (World.putObj_heap_other (by omega)).trans h.2⟩
theorem Book.new (w : World) (r : Loop) : Book w.heap.size r ((w.alloc (.deferred (some []))).alloc (.loop r)) := by
 refine ⟨?_, (Below.heap_alloc _ _ _ (by simp)).trans (World.alloc_heap_new w _)⟩
 have h := World.alloc_heap_new (w.alloc (.deferred (some []))) (.loop r)
 rwa [World.size_alloc] at h
theorem Book.grown {D : Nat} {r : Loop} {X Y : World} {row : Option Nat} (h : Book D r X) (hg : X.grownBy Y row) (hr : ∀ k, row = some k → D + 1 < k) : Book D r Y := by
 have h1 := h.lt
 exact ⟨(hg.block _ h1 (fun e => by have := hr _ e.symm; omega)).trans h.1, (hg.block _ (by omega) (fun e => by have := hr _ e.symm; omega)).trans h.2⟩
section
variable {md : Region.Mode} {ops : Array Oper} {Q : Exit → Act → World → Prop} {l n : Nat}
end
/-- What a round must leave alone: all below n0; the block Bx; all that lies from B on. -/
def Held (n0 B Bx : Nat) (W W' : World) : Prop := Below n0 W W' ∧ W.heap.size ≤ W'.heap.size ∧ ∀ k o, B ≤ k ∨ k = Bx → W.heap[k]? = some o → W'.heap[k]? = some o
theorem Held.refl (n0 B Bx : Nat) (W : World) : Held n0 B Bx W W := ⟨Below.refl _ _, Nat.le_refl _, fun _ _ _ h => h⟩
theorem Held.trans {n0 B Bx : Nat} {X Y Z : World} (h : Held n0 B Bx X Y) (k : Held n0 B Bx Y Z) : Held n0 B Bx X Z :=
 ⟨h.1.trans k.1, Nat.le_trans h.2.1 k.2.1, fun i o hi ho => k.2.2 i o hi (h.2.2 i o hi ho)⟩
theorem Held.below {n0 B Bx : Nat} {W W' : World} (hn : n0 ≤ W.heap.size) (hb : Below W.heap.size W W') : Held n0 B Bx W W' :=
 ⟨hb.mono hn, hb.size, fun k _ _ ho => (hb.block k (Array.getElem?_eq_some_iff.1 ho).1).trans ho⟩
theorem Held.setCell {n0 B Bx b : Nat} (W : World) (v : Value) (h1 : n0 ≤ b) (h2 : b < B) (h3 : b ≠ Bx) : Held n0 B Bx W (W.setCell ⟨b, 0, none⟩ v) :=
 ⟨(Below.refl _ _).setCell (p := ⟨b, 0, none⟩) h1 v, by simp, fun k _ hk ho => (Below.heap_setCell W ⟨b, 0, none⟩ v k (by show k ≠ b; omega)).trans ho⟩
theorem Held.turn {n0 B Bx l : Nat} {W : World} {r r' : Loop} (hl : W.heap[l]? = some (.loop r)) (h1 : n0 ≤ l) (h2 : l < B) (h3 : l ≠ Bx) : Held n0 B Bx W (W.putObj l (.loop r')) := by
 have hg := grownBy_putObj' W l (.loop r')
 have hlt := (Array.getElem?_eq_some_iff.1 hl).1
 exact ⟨(Below.refl n0 W).grown hg (by omega) (fun k e => by cases e; omega), hg.size, fun k _ hk ho => (World.putObj_heap_other (by omega)).trans ho⟩
theorem Held.drew {n0 B Bx : Nat} (W : World) : Held n0 B Bx W W.drew := ⟨(Below.refl _ _).drew, Nat.le_refl _, fun _ _ _ h => h⟩
theorem Held.at {n0 B Bx : Nat} {W W' : World} (h : Held n0 B Bx W W') {b : Nat} {cs : Array Value} {t : TypeId} (ha : At W b cs t) (hb : B ≤ b ∨ b = Bx) : At W' b cs t := h.2.2 b _ hb ha
theorem Held.from {n0 B Bx : Nat} {W W' : World} (h : Held n0 B Bx W W') {D : Nat} (hD : B ≤ D) : KeepsFrom D W W' := ⟨h.2.1, fun k o hk ho _ => h.2.2 k o (.inl (by omega)) ho⟩
end
end Go.Proofs.YtlmjiocdhobopaaGreatDoor
/-
 A region that draws its order, inside a round of a range over a function.
-/
namespace Go.Proofs.YtlmjiocdhobopaaGreatDoor
open Go.RowKit Go.Shelf
section
variable {P : Program} {md : Region.Mode} {ops : Array Oper} {Q : Exit → Act → World → Prop} {l n : Nat}
theorem wpOpIn_round {i : Nat} {K K' : Act → World → Prop} {a : Act} {w : World} (hnd : ∀ (i : Nat) (o : Oper), ops[i]? = some o → ∀ c, o.op ≠ .defer c) (hLO : ¬ LetsOut Q) (hK : ∀ a w, K a w → K' a w)
  (h : wpOp P ops Q i K a w) : wpOpIn (Fence.wide.inRound l) n P ops Q i K' a w := by
 unfold wpOp at h
 unfold wpOpIn
 cases ho : ops[i]? with
 | none => simp only [ho] at h; exact hK _ _ h
 | some o =>
  simp only [ho] at h ⊢
  split
  ·rename_i hw
   simp only [hw, if_true] at h
   rcases h with h | ⟨_, h⟩
   ·refine ⟨fun _ _ => trivial, ?_⟩
    rw [Fence.inRound_round, Oper.semAt_some l _ _ (hnd i o ho)]
    unfold Oper.wp at h
    generalize (execOp a.eval o).run P w = r at *
    cases r with
    | ok x w' =>
     cases x <;> simp only [Oper.upon, Oper.uponIn] at h ⊢
     case value u => exact hK _ _ h
     case skip => exact hK _ _ h
     case defer d => exact hK _ _ h
     case enter f args =>
      refine ⟨fun hd => (by cases hd), CallsIn.inRound l (callsIn_wide.2 (Calls.mono h fun e w'' he => ?_))⟩
      cases e with
      | returned u => exact hK _ _ he
      | panicked c => exact he
      | outgrown => exact he
     case row row args =>
      refine ⟨fun hd => (by cases hd), fun c cs _ => ?_⟩
      obtain ⟨v, w'', hr, hs⟩ := h c cs
      exact ⟨v, w'', hK _ _ hr, stepsIn_wide.2 hs⟩
    | halt x w' =>
     cases x <;> simp only [Oper.upon, Oper.uponIn] at h ⊢
     case panic u => exact h
   ·exact absurd h hLO
  ·rename_i hw
   simp only [hw] at h
   exact ⟨fun _ _ => trivial, hK _ _ h⟩
theorem wpAnyIn_round (hnd : ∀ (i : Nat) (o : Oper), ops[i]? = some o → ∀ c, o.op ≠ .defer c) (hLO : ¬ LetsOut Q) : ∀ (fuel : Nat) (listed : Array Bool) (a : Act) (w : World),
  wpAny P md ops Q fuel listed a w → wpAnyIn (Fence.wide.inRound l) n P md ops Q fuel listed a w
 | 0, _, _, _, h => h
 | fuel + 1, _, _, _, h => ⟨h.1, fun i hi => wpOpIn_round hnd hLO (fun a' w' h' => wpAnyIn_round hnd hLO fuel _ a' w' h') (h.2 i hi)⟩
/-- The region ends as it should, and K holds behind it. -/
def OnlyN (K : Act → World → Prop) : Exit → Act → World → Prop
 | .normal, a, w => K a w
 | _, _, _ => False
/-- A region without defer statements that draws its order, inside a round: by the plain walk that holds S. -/
theorem wpIn_region_round {id : Nat} {a : Act} {w : World} {K : Act → World → Prop} {S : World → Prop} (hm : P.follows .mixedOrders = true) (hnd : ops.all (fun o => match o.op with | .defer _ => false | _ => true) = true)
  (hQ : ∀ a w, K a w → Q .normal a w) (hS : S w.drew)
  (h : S w.drew → wpAnyH P .any ops (OnlyN K) S ops.size (Array.replicate ops.size false) a w.drew) : (Code.region id ops true).wpIn (Fence.wide.inRound l) n P Q a w := by
 refine wpIn_mono (Q := OnlyN K) (wpIn_region_any hm (wpAnyIn_round ?_ ?_ _ _ _ _ (wpAny_of_held _ _ _ _ (h hS)))) ?_
 ·intro i o hi c hc
  have := Array.all_eq_true.1 hnd i (Array.getElem?_eq_some_iff.1 hi).1
  rw [(Array.getElem?_eq_some_iff.1 hi).2, hc] at this
  cases this
 ·rintro ⟨a, w, h⟩
  exact h
 ·intro e a w h
  cases e with
  | normal => exact hQ _ _ h
  | _ => exact False.elim h
end
end Go.Proofs.YtlmjiocdhobopaaGreatDoor

/-
  TrA, TrB, TrC, one behind the other.
-/
/- Values as trees, and how they lie in memory; a value that comes in. -/
namespace Go.Proofs.YtlmjiocdhobopaaGreatDoor
open Go.ChangeShapes Go.WideShapes Go.ChangeAt Go.RowKit
set_option maxRecDepth 100000
/-- A value: its kind, its truth, its number's text, its text, its names, its kids. -/
inductive Vt where
  | mk (kind : Int) (b : Bool) (raw text : ByteArray) (keys : List ByteArray) (kids : List Vt)
def Vt.kind : Vt → Int | .mk k _ _ _ _ _ => k
def Vt.b : Vt → Bool | .mk _ b _ _ _ _ => b
def Vt.raw : Vt → ByteArray | .mk _ _ r _ _ _ => r
def Vt.text : Vt → ByteArray | .mk _ _ _ t _ _ => t
def Vt.keys : Vt → List ByteArray | .mk _ _ _ _ ks _ => ks
def Vt.kids : Vt → List Vt | .mk _ _ _ _ _ vs => vs
/-- No text and no list is longer than that (the form's own reach). -/
def capT : Nat := 140737488351232
/-- A list of texts in memory. -/
def KeysAt (w : World) (ao : Option Addr) (ks : List ByteArray) : Prop := ∀ (i : Nat) (s : ByteArray), ks[i]? = some s → s.size ≤ capT ∧ ∃ b off, ao = some ⟨b, off, none⟩ ∧ b < w.heap.size ∧ w.cell? ⟨b, off + i, none⟩ = some (.string s)
/-- A list of values in memory, six cells each. -/
def RowAt (w : World) (ao : Option Addr) (n : Nat) (X : Nat → Array Value) : Prop := ∀ i, i < n → (X i).size = 6 ∧ ∃ b off, ao = some ⟨b, off, none⟩ ∧ b < w.heap.size ∧ ∀ j, j < 6 → w.cell? ⟨b, off + i * 6 + j, none⟩ = (X i)[j]?
/-- A value in memory. -/
inductive ValAt (w : World) : Vt → Value → Prop
  | mk (k : Int) (b : Bool) (r t : ByteArray) (ks : List ByteArray) (vs : List Vt) (ko : Option Addr) (kc : Nat) (vo : Option Addr) (vc : Nat) (X : Nat → Array Value)
      (hw : (Lit.int .i64 k).wf = true) (hz : r.size ≤ capT ∧ t.size ≤ capT ∧ ks.length ≤ capT ∧ vs.length ≤ capT) (hk : KeysAt w ko ks) (hr : RowAt w vo vs.length X) (hv : ∀ (i : Nat) (u : Vt), vs[i]? = some u → ValAt w u (.agg (X i))) :
      ValAt w (.mk k b r t ks vs) (.agg #[.int .i64 k, .bool b, .string r, .string t, .slice ko ks.length kc, .slice vo vs.length vc])
theorem KeysAt.kept {w w' : World} {ao : Option Addr} {ks : List ByteArray} (h : KeysAt w ao ks) (hb : Below w.heap.size w w') : KeysAt w' ao ks := fun i s hi => by
  obtain ⟨h0, b, off, h1, h2, h3⟩ := h i s hi
  exact ⟨h0, b, off, h1, Nat.lt_of_lt_of_le h2 hb.size, (hb.cell (p := ⟨b, off + i, none⟩) h2).trans h3⟩
theorem RowAt.kept {w w' : World} {ao : Option Addr} {n : Nat} {X : Nat → Array Value} (h : RowAt w ao n X) (hb : Below w.heap.size w w') : RowAt w' ao n X := fun i hi => by
  obtain ⟨h0, b, off, h1, h2, h3⟩ := h i hi
  exact ⟨h0, b, off, h1, Nat.lt_of_lt_of_le h2 hb.size, fun j hj => (hb.cell (p := ⟨b, off + i * 6 + j, none⟩) h2).trans (h3 j hj)⟩
theorem ValAt.kept {w w' : World} {t : Vt} {v : Value} (h : ValAt w t v) (hb : Below w.heap.size w w') : ValAt w' t v := by
  induction h with
  | mk k b r t ks vs ko kc vo vc X hw hz hk hr hv ih => exact .mk k b r t ks vs ko kc vo vc X hw hz (hk.kept hb) (hr.kept hb) ih
section
variable {H : Type} {enc : TypeId × Value → H} {w : World} {base : Nat} {spare : Nat → Bool} {held : Bool}
theorem cellsVl : Tryz.prog.cellsOf 25 = 6 := by kernel_rfl
theorem cellsVs : Tryz.prog.cellsOf 23 = 1 := by kernel_rfl
theorem cellsKs : Tryz.prog.cellsOf 22 = 1 := by kernel_rfl
theorem cellsSt : Tryz.prog.cellsOf 9 = 1 := by kernel_rfl
theorem cell_ltT {w : World} {a : Addr} {v : Value} (h : w.cell? a = some v) : a.block < w.heap.size := by
  unfold World.cell? at h
  cases ho : w.heap[a.block]? with
  | none => simp [ho] at h
  | some o => exact (Array.getElem?_eq_some_iff.1 ho).1
theorem weights_all {H : Type} {P : Program} {e : TypeId} : ∀ {ds : List (DataW H)} {d : DataW H} {m : Nat}, d ∈ ds → m ∈ d.weights P e → m ∈ DataW.weightsAll P e ds
  | d0 :: ds, d, m, hd, hm => by
    simp only [DataW.weightsAll, List.mem_append]
    rcases List.mem_cons.1 hd with rfl | hd
    · exact .inl hm
    · exact .inr (weights_all hd hm)
  | [], _, _, hd, _ => by simp at hd
/-- A list of texts that comes in. -/
theorem open_keys {fuel : Nat} {v : Value} {x : DataW H × List MemPlace} (hf : DataW.trod enc Tryz.prog w base spare held fuel 22 [v] = some x) (hwt : ∀ m ∈ x.1.weights Tryz.prog 22, m ≤ reachBytes) :
    ∃ (ao : Option Addr) (cap : Nat) (ks : List ByteArray), v = .slice ao ks.length cap ∧ ks.length ≤ capT ∧ KeysAt w ao ks := by
  rcases DataW.trod_slice Tryz.underlying22 hf with ⟨hcs, _⟩ | ⟨a, len, cap, elems, rest, n, _, hcs, hx, hb, hl, hm, hlen, hel, -, -⟩
  · simp at hcs
    subst hcs
    exact ⟨none, 0, [], rfl, Nat.zero_le _, fun i o h => by simp at h⟩
  · simp at hcs
    subst hcs
    rw [congrArg Prod.fst hx] at hwt
    simp only [DataW.weights, Tryz.underlying22] at hwt
    have hlc : len ≤ capT := by
      have h := hwt _ (List.mem_cons_self ..)
      rw [show Tryz.prog.bytesOf 9 = 16 by kernel_rfl] at h
      simp only [List.length_map] at h
      unfold reachBytes at h
      unfold capT
      omega
    have each : ∀ i, i < len → ∃ s : ByteArray, w.cells? base (a.add i) 1 = some [.string s] ∧ s.size ≤ capT := by
      intro i hi
      have h := hel i hi
      rw [cellsSt, Nat.mul_one, List.getElem?_eq_getElem (by omega), Option.bind_eq_some_iff] at h
      obtain ⟨cs, h1, h2⟩ := h
      obtain ⟨s, rfl, hy, -⟩ := DataW.trod_string Tryz.underlying9 h2
      refine ⟨s, h1, ?_⟩
      have hmem : (elems[i]'(by omega)).1 ∈ elems.map (·.1) := List.mem_map_of_mem (List.getElem_mem _)
      have h3 := hwt s.size (List.mem_cons_of_mem _ (List.mem_append_left _ (weights_all hmem (by
        rw [hy]
        simp only [DataW.weights, List.mem_singleton, Array.length_toList]
        rfl))))
      exact h3
    have key : ∀ k, k ≤ len → ∃ L : List ByteArray, L.length = k ∧ ∀ (i : Nat) (s : ByteArray), L[i]? = some s → w.cells? base (a.add i) 1 = some [.string s] ∧ s.size ≤ capT := by
      intro k
      induction k with
      | zero => exact fun _ => ⟨[], rfl, fun i o h => by simp at h⟩
      | succ k ih =>
        intro hk
        obtain ⟨L, hL, hall⟩ := ih (by omega)
        obtain ⟨s, hs⟩ := each k (by omega)
        refine ⟨L ++ [s], by simp [hL], fun i o' h => ?_⟩
        by_cases hi : i < k
        · rw [List.getElem?_append_left (by omega)] at h
          exact hall i o' h
        · have hi2 := (List.getElem?_eq_some_iff.1 h).1
          rw [List.length_append, List.length_cons, List.length_nil] at hi2
          obtain rfl : i = k := by omega
          rw [List.getElem?_append_right (by omega), hL] at h
          simp at h
          subst h
          exact hs
    obtain ⟨L, hL, hall⟩ := key len (Nat.le_refl _)
    refine ⟨some a, cap, L, by rw [hL], by rw [hL]; exact hlc, fun i s hi => ?_⟩
    have c0 := (World.cells?_some (hall i s hi).1).2.2 0 (by decide)
    obtain ⟨b, off, spot⟩ := a
    have hspot : spot = none := by
      have hi2 := (List.getElem?_eq_some_iff.1 hi).1
      obtain ⟨o0, ho0⟩ : ∃ o0, L[0]? = some o0 := ⟨_, List.getElem?_eq_getElem (by omega)⟩
      have := World.cell?_spot ((World.cells?_some (hall 0 o0 ho0).1).2.2 0 (by decide))
      simpa [Addr.add] using this
    subst hspot
    have e : ((⟨b, off, none⟩ : Addr).add i).add 0 = ⟨b, off + i, none⟩ := by by_cases h : i = 0 <;> simp [Addr.add, h]
    rw [e] at c0
    exact ⟨(hall i s hi).2, b, off, rfl, cell_ltT c0, c0⟩
/-- A value that comes in, as six cells. -/
theorem open_vt : ∀ (fuel : Nat) {cs : List Value} {x : DataW H × List MemPlace}, DataW.trod enc Tryz.prog w base spare held fuel 25 cs = some x → (∀ m ∈ x.1.weights Tryz.prog 25, m ≤ reachBytes) → cs.length = 6 ∧ ∃ t, ValAt w t (.agg cs.toArray) := by
  intro fuel
  induction fuel using Nat.strongRecOn with
  | ind fuel ih =>
    intro cs x h hwt
    obtain ⟨xs, n, rfl, hx, hl, hxs, hf⟩ := DataW.trod_struct Tryz.underlying25 h
    rw [cellsVl] at hl
    refine ⟨hl, ?_⟩
    obtain ⟨c0, c1, c2, c3, c4, c5, rfl⟩ : ∃ a b c d e f, cs = [a, b, c, d, e, f] := by
      match cs, hl with
      | [a, b, c, d, e, f], _ => exact ⟨a, b, c, d, e, f, rfl⟩
    have hxs2 : xs.length = 6 := hxs
    obtain ⟨y0, y1, y2, y3, y4, y5, rfl⟩ : ∃ a b c d e f, xs = [a, b, c, d, e, f] := by
      match xs, hxs2 with
      | [a, b, c, d, e, f], _ => exact ⟨a, b, c, d, e, f, rfl⟩
    rw [congrArg Prod.fst hx] at hwt
    simp only [DataW.weights, Tryz.underlying25] at hwt
    have hw2 : ∀ m ∈ y2.1.weights Tryz.prog 9, m ≤ reachBytes := fun m hm => hwt m (DataW.weights_mem_each (j := 2) rfl rfl m hm)
    have hw3 : ∀ m ∈ y3.1.weights Tryz.prog 9, m ≤ reachBytes := fun m hm => hwt m (DataW.weights_mem_each (j := 3) rfl rfl m hm)
    have hw4 : ∀ m ∈ y4.1.weights Tryz.prog 22, m ≤ reachBytes := fun m hm => hwt m (DataW.weights_mem_each (j := 4) rfl rfl m hm)
    have hw5 : ∀ m ∈ y5.1.weights Tryz.prog 23, m ≤ reachBytes := fun m hm => hwt m (DataW.weights_mem_each (j := 5) rfl rfl m hm)
    have f0 : DataW.trod enc Tryz.prog w base spare held n 3 ((([c0, c1, c2, c3, c4, c5] : List Value).drop 0).take (Tryz.prog.cellsOf 3)) = some y0 := hf 0 _ rfl
    have f1 : DataW.trod enc Tryz.prog w base spare held n 4 ((([c0, c1, c2, c3, c4, c5] : List Value).drop 1).take (Tryz.prog.cellsOf 4)) = some y1 := hf 1 _ rfl
    have f2 : DataW.trod enc Tryz.prog w base spare held n 9 ((([c0, c1, c2, c3, c4, c5] : List Value).drop 2).take (Tryz.prog.cellsOf 9)) = some y2 := hf 2 _ rfl
    have f3 : DataW.trod enc Tryz.prog w base spare held n 9 ((([c0, c1, c2, c3, c4, c5] : List Value).drop 3).take (Tryz.prog.cellsOf 9)) = some y3 := hf 3 _ rfl
    have f4 : DataW.trod enc Tryz.prog w base spare held n 22 ((([c0, c1, c2, c3, c4, c5] : List Value).drop 4).take (Tryz.prog.cellsOf 22)) = some y4 := hf 4 _ rfl
    have f5 : DataW.trod enc Tryz.prog w base spare held n 23 ((([c0, c1, c2, c3, c4, c5] : List Value).drop 5).take (Tryz.prog.cellsOf 23)) = some y5 := hf 5 _ rfl
    rw [show Tryz.prog.cellsOf 3 = 1 by kernel_rfl] at f0
    rw [show Tryz.prog.cellsOf 4 = 1 by kernel_rfl] at f1
    rw [cellsSt] at f2 f3
    rw [cellsKs] at f4
    rw [cellsVs] at f5
    obtain ⟨k, e0, -, hw⟩ := DataW.trod_int Tryz.underlying3 (show DataW.trod enc Tryz.prog w base spare held n 3 [c0] = some y0 from f0)
    obtain ⟨b, e1, -⟩ := DataW.trod_bool Tryz.underlying4 (show DataW.trod enc Tryz.prog w base spare held n 4 [c1] = some y1 from f1)
    obtain ⟨r, e2, g2, -⟩ := DataW.trod_string Tryz.underlying9 (show DataW.trod enc Tryz.prog w base spare held n 9 [c2] = some y2 from f2)
    obtain ⟨t, e3, g3, -⟩ := DataW.trod_string Tryz.underlying9 (show DataW.trod enc Tryz.prog w base spare held n 9 [c3] = some y3 from f3)
    have hz2 : r.size ≤ capT := hw2 r.size (by rw [g2]; simp only [DataW.weights, List.mem_singleton, Array.length_toList]; rfl)
    have hz3 : t.size ≤ capT := hw3 t.size (by rw [g3]; simp only [DataW.weights, List.mem_singleton, Array.length_toList]; rfl)
    obtain ⟨ko, kc, ks, rfl, hz4, hks⟩ := open_keys (show DataW.trod enc Tryz.prog w base spare held n 22 [c4] = some y4 from f4) hw4
    simp only [List.cons.injEq, and_true] at e0 e1 e2 e3
    subst e0 e1 e2 e3
    rcases DataW.trod_slice Tryz.underlying23 (show DataW.trod enc Tryz.prog w base spare held n 23 [c5] = some y5 from f5) with ⟨hcs, _⟩ | ⟨a, len, cap, elems, rest, m, rfl, hcs, hx5, hb, hlc, hm, hlen, hel, -, -⟩
    · simp only [List.cons.injEq, and_true] at hcs
      subst hcs
      exact ⟨_, .mk k b r t ks [] ko kc none 0 (fun _ => #[]) hw ⟨hz2, hz3, hz4, Nat.zero_le _⟩ hks (fun i hi => by simp at hi) (fun i u hu => by simp at hu)⟩
    · simp only [List.cons.injEq, and_true] at hcs
      subst hcs
      rw [congrArg Prod.fst hx5] at hw5
      simp only [DataW.weights, Tryz.underlying23] at hw5
      have hlc2 : len ≤ capT := by
        have h := hw5 _ (List.mem_cons_self ..)
        have hby : 1 ≤ Tryz.prog.bytesOf 25 := by decide +kernel
        simp only [List.length_map] at h
        have h2 := Nat.le_mul_of_pos_right (elems.length + rest.length) hby
        unfold reachBytes at h
        unfold capT
        omega
      have each : ∀ i, i < len → ∃ (cs : List Value) (u : Vt), w.cells? base (a.add (i * 6)) 6 = some cs ∧ cs.length = 6 ∧ ValAt w u (.agg cs.toArray) := by
        intro i hi
        have h := hel i hi
        rw [cellsVl, List.getElem?_eq_getElem (by omega), Option.bind_eq_some_iff] at h
        obtain ⟨cs, h1, h2⟩ := h
        obtain ⟨h3, u, h4⟩ := ih m (by omega) h2 (fun q hq => hw5 q (List.mem_cons_of_mem _ (List.mem_append_left _ (weights_all (List.mem_map_of_mem (List.getElem_mem _)) hq))))
        exact ⟨cs, u, h1, h3, h4⟩
      have key : ∀ q, q ≤ len → ∃ (L : List Vt) (X : Nat → Array Value), L.length = q ∧ ∀ (i : Nat) (u : Vt), L[i]? = some u → w.cells? base (a.add (i * 6)) 6 = some (X i).toList ∧ (X i).size = 6 ∧ ValAt w u (.agg (X i)) := by
        intro q
        induction q with
        | zero => exact fun _ => ⟨[], fun _ => #[], rfl, fun i o h => by simp at h⟩
        | succ q ihq =>
          intro hq
          obtain ⟨L, X, hL, hall⟩ := ihq (by omega)
          obtain ⟨cs, u, h1, h2, h3⟩ := each q (by omega)
          refine ⟨L ++ [u], fun i => if i = q then cs.toArray else X i, by simp [hL], fun i o' h => ?_⟩
          by_cases hi : i < q
          · rw [List.getElem?_append_left (by omega)] at h
            dsimp only
            rw [if_neg (by omega)]
            exact hall i o' h
          · have hi2 := (List.getElem?_eq_some_iff.1 h).1
            rw [List.length_append, List.length_cons, List.length_nil] at hi2
            obtain rfl : i = q := by omega
            rw [List.getElem?_append_right (by omega), hL] at h
            simp at h
            subst h
            dsimp only
            rw [if_pos rfl]
            exact ⟨by simpa using h1, by simpa using h2, h3⟩
      obtain ⟨L, X, hL, hall⟩ := key len (Nat.le_refl _)
      refine ⟨.mk k b r t ks L, ?_⟩
      rw [← hL]
      refine .mk k b r t ks L ko kc (some a) cap X hw ⟨hz2, hz3, hz4, by rw [hL]; exact hlc2⟩ hks (fun i hi => ?_) (fun i u hu => (hall i u hu).2.2)
      obtain ⟨u, hu⟩ : ∃ u, L[i]? = some u := ⟨_, List.getElem?_eq_getElem hi⟩
      obtain ⟨g1, g2, -⟩ := hall i u hu
      refine ⟨g2, ?_⟩
      have hc := World.cells?_some g1
      obtain ⟨bk, off, spot⟩ := a
      have hspot : spot = none := by
        obtain ⟨o0, ho0⟩ : ∃ o0, L[0]? = some o0 := ⟨_, List.getElem?_eq_getElem (by omega)⟩
        have hq := (World.cells?_some (hall 0 o0 ho0).1).2.2 0 (by decide)
        rw [List.getElem?_eq_getElem (by rw [Array.length_toList, (hall 0 o0 ho0).2.1]; decide)] at hq
        have := World.cell?_spot hq
        simpa [Addr.add] using this
      subst hspot
      have e : ∀ j, ((⟨bk, off, none⟩ : Addr).add (i * 6)).add j = ⟨bk, off + i * 6 + j, none⟩ := by
        intro j
        by_cases h : i * 6 = 0 <;> by_cases h' : j = 0 <;> simp [Addr.add, h, h']
      have hcell : ∀ j, j < 6 → w.cell? ⟨bk, off + i * 6 + j, none⟩ = (X i)[j]? := fun j hj => by
        have h2 := hc.2.2 j hj
        rw [e] at h2
        rw [h2, Array.getElem?_eq_getElem (by omega)]
        simp
      refine ⟨bk, off, rfl, ?_, hcell⟩
      have h0 := hcell 0 (by decide)
      rw [Array.getElem?_eq_getElem (by omega)] at h0
      exact cell_ltT h0
theorem okWide_strctT {P : Program} {r : Reach} {b0 : Nat} {t : TypeId} {v : Value} {fs : Array Field} (ht : P.underlying t = some (.struct fs)) (h : Value.okWide P w r b0 t v) : ∃ cs, v = .agg cs ∧ cs.size = P.cellsOf t := by
  simp only [Value.okWide, ht] at h
  obtain ⟨cs, h1, h2, _⟩ := h
  exact ⟨cs, h1, h2⟩
theorem open_value {r : Reach} {b0 : Nat} {v : Value} {d : DataW H} {ps : List MemPlace} (hval : Value.okWide Tryz.prog w r b0 25 v) (hd : DataW.Trod enc Tryz.prog w base spare held 25 v d ps) (hwt : ∀ m ∈ d.weights Tryz.prog 25, m ≤ reachBytes) : ∃ t, ValAt w t v := by
  obtain ⟨cs, rfl, hs⟩ := okWide_strctT Tryz.underlying25 hval
  obtain ⟨fuel, hf⟩ := hd
  obtain ⟨-, t, ht⟩ := open_vt fuel hf hwt
  exact ⟨t, by simpa [Value.cells] using ht⟩
end
end Go.Proofs.YtlmjiocdhobopaaGreatDoor
/- quarryref00.SameTexts and SameValue: whether two lists of texts, two values, are the same. -/
namespace Go.Proofs.YtlmjiocdhobopaaGreatDoor
open Go.RowKit Go.Shelf
theorem text_beq (a b : ByteArray) : (a.toList != b.toList) = !decide (a = b) := by
  by_cases h : a = b
  · subst h; simp
  · rw [decide_eq_false h]
    have : (a.toList == b.toList) = false := by
      rw [beq_eq_false_iff_ne]
      intro e
      apply h
      apply ByteArray.ext
      have h2 : a.data.toList = b.data.toList := by rw [← Lib.toList_data, ← Lib.toList_data, e]
      exact Array.toList_inj.1 h2
    simp [bne, this]
set_option maxRecDepth 10000 in
set_option maxHeartbeats 1000000 in
theorem sameK_calls (L L' : List ByteArray) (hl : L.length ≤ capT) (hl' : L'.length ≤ capT) (ao bo : Option Addr) (cap cap' : Nat) (w : World) (hA : KeysAt w ao L) (hB : KeysAt w bo L') :
    Calls Tryz.prog 28 #[.slice ao L.length cap, .slice bo L'.length cap'] w fun e w' => ∃ B : Bool, e = .returned (.bool B) ∧ (B = true ↔ L = L') ∧ Below w.heap.size w w' := by
  unfold capT at hl hl'
  have hA' := hid hA
  have hB' := hid hB
  obtain ⟨n, hn⟩ : ∃ n, Hid (L.length = n) := ⟨_, rfl⟩
  obtain ⟨m, hm⟩ : ∃ m, Hid (L'.length = m) := ⟨_, rfl⟩
  rw [hn.out] at hl ⊢
  rw [hm.out] at hl' ⊢
  have hli : (n : Int) ≤ 9223372036854775807 := by omega
  have hmi : (m : Int) ≤ 9223372036854775807 := by omega
  clear hl hl'
  clear hA hB
  by_cases hnm : n = m
  · subst hnm
    have e0 : ((n : Int) != (n : Int)) = false := by simp
    go_enter Tryz.func28, Tryz.ntmps28
    go_wp2
    go_loopw [5] (fun ii wr => ∃ i : Nat, i ≤ n ∧ ii = .int .i64 (i : Int) ∧ Hid (∀ j, j < i → L[j]? = L'[j]?) ∧ Below w.heap.size w wr) (fun ii _ => n - (intOf ii).toNat)
    case atStart => exact ⟨0, Nat.zero_le _, rfl, hid (fun j hj => by omega), Below.refl _ _⟩
    case round =>
      obtain ⟨i, hi, rfl, hsm, hb⟩ := hrel
      by_cases hlt : i < n
      · have hii : (i : Int) < (n : Int) := by omega
        obtain ⟨p, hp⟩ : ∃ p, Hid (L[i]? = some p) := ⟨_, List.getElem?_eq_getElem (by rw [hn.out]; exact hlt)⟩
        obtain ⟨q, hq⟩ : ∃ q, Hid (L'[i]? = some q) := ⟨_, List.getElem?_eq_getElem (by rw [hm.out]; exact hlt)⟩
        obtain ⟨-, g, o, rfl, hg, cg⟩ := hA'.out i p hp.out
        obtain ⟨-, h, o', rfl, hh, ch⟩ := hB'.out i q hq.out
        have s1 := (hb.cell (p := ⟨g, o + i, none⟩) hg).trans cg
        have s2 := (hb.cell (p := ⟨h, o' + i, none⟩) hh).trans ch
        have ad1 : (⟨g, o, none⟩ : Addr).add i = ⟨g, o + i, none⟩ := by by_cases h : i = 0 <;> simp [Addr.add, h]
        have ad2 : (⟨h, o', none⟩ : Addr).add i = ⟨h, o' + i, none⟩ := by by_cases h : i = 0 <;> simp [Addr.add, h]
        have ep := text_beq p q
        clear cg ch
        by_cases hpq : p = q
        · subst hpq
          have ep2 : (p.toList != p.toList) = false := by simp
          clear ep
          go_wp2
          go_quiet (fail)
          go_wp2
          go_roundw
          case rel => exact ⟨i + 1, by omega, by simp, hid (fun j hj => by
            by_cases e : j = i
            · subst e; rw [hp.out, hq.out]
            · exact hsm.out j (by omega)), below_drewN hb _⟩
          case measure => simp [intOf]; omega
        · have ep2 : (p.toList != q.toList) = true := by rw [text_beq, decide_eq_false hpq]; rfl
          have ep3 : (p.toList == q.toList) = false := by rw [bne] at ep2; simpa using ep2
          clear ep
          go_wp2
          go_quiet (fail)
          go_wp2
          go_ret
          refine ⟨false, rfl, ⟨fun h => (by cases h), fun h => ?_⟩, below_drewN hb _⟩
          subst h
          rw [hp.out] at hq
          have := hq.out
          injection this with this
          exact absurd this hpq
      · obtain rfl : i = n := by omega
        go_wp2
        go_ret
        refine ⟨true, rfl, ⟨fun _ => ?_, fun _ => rfl⟩, hb⟩
        apply List.ext_getElem?
        intro j
        by_cases hj : j < i
        · exact hsm.out j hj
        · rw [List.getElem?_eq_none (by rw [hn.out]; omega), List.getElem?_eq_none (by rw [hm.out]; omega)]
  · have e0 : ((n : Int) != (m : Int)) = true := by simp; omega
    go_enter Tryz.func28, Tryz.ntmps28
    go_wp2
    go_ret
    refine ⟨false, rfl, ⟨fun h => (by cases h), fun h => ?_⟩, Below.refl _ _⟩
    subst h
    exact absurd (hn.out.symm.trans hm.out) hnm
theorem kid_size {k : Int} {b : Bool} {r t : ByteArray} {ks : List ByteArray} {vs : List Vt} {i : Nat} {u : Vt} (h : vs[i]? = some u) : SizeOf.sizeOf u < SizeOf.sizeOf (Vt.mk k b r t ks vs) := by
  have h1 := List.sizeOf_lt_of_mem (List.mem_of_getElem? h)
  simp only [Vt.mk.sizeOf_spec]
  omega
/-- A value's own cells. -/
theorem ValAt.cells {w : World} {u : Vt} {x : Array Value} (h : ValAt w u (.agg x)) : ∃ ko kc vo vc, x = #[.int .i64 u.kind, .bool u.b, .string u.raw, .string u.text, .slice ko u.keys.length kc, .slice vo u.kids.length vc] := by
  cases h with
  | mk k b r t ks vs ko kc vo vc X hw hz hk hr hv => exact ⟨ko, kc, vo, vc, rfl⟩
end Go.Proofs.YtlmjiocdhobopaaGreatDoor
/- quarryref00.SameValue: whether two values are the same. -/
namespace Go.Proofs.YtlmjiocdhobopaaGreatDoor
open Go.RowKit Go.Shelf
theorem sizeVl : (Tryz.prog.info? 25).map (·.size) = some 6 := by kernel_rfl
theorem row_range {w : World} {vo : Option Addr} {n : Nat} {X : Nat → Array Value} (h : RowAt w vo n X) {i : Nat} (hi : i < n) : ∃ b off, vo = some ⟨b, off, none⟩ ∧ b < w.heap.size ∧ w.rangeAt b (off + i * 6) (X i).toList ∧ (X i).toList.length = 6 := by
  obtain ⟨h0, b, off, h1, h2, h3⟩ := h i hi
  refine ⟨b, off, h1, h2, fun j v hv => ?_, by rw [Array.length_toList]; exact h0⟩
  have hj : j < 6 := by
    have := (List.getElem?_eq_some_iff.1 hv).1
    rw [Array.length_toList, h0] at this
    exact this
  rw [h3 j hj]
  simpa using hv
theorem no_iff {P : Prop} (h : ¬ P) : (false = true ↔ P) := ⟨fun e => (by cases e), fun p => absurd p h⟩
set_option maxRecDepth 10000 in
set_option maxHeartbeats 8000000 in
theorem sameV_ex : ∀ (n : Nat) (t u : Vt), SizeOf.sizeOf t ≤ n → ∀ (va vb : Value) (w : World), ValAt w t va → ValAt w u vb →
    Calls Tryz.prog 19 #[va, vb] w fun e w' => ∃ B : Bool, e = .returned (.bool B) ∧ (B = true ↔ t = u) ∧ Below w.heap.size w w' := by
  intro n
  induction n with
  | zero =>
    intro t u hs
    cases t
    simp at hs
  | succ n ih =>
    intro t u hs va vb w ha hb
    cases ha with
    | mk k b r t ks vs ko kc vo vc X hw hz hk hr hv =>
    cases hb with
    | mk k' b' r' t' ks' vs' ko' kc' vo' vc' X' hw' hz' hk' hr' hv' =>
    have ih' := hid ih
    have hs' := hid hs
    have hk1 := hid hk
    have hk2 := hid hk'
    have hr1 := hid hr
    have hr2 := hid hr'
    have hv1 := hid hv
    have hv2 := hid hv'
    have hz1 := hid hz
    have hz2 := hid hz'
    obtain ⟨N, hN⟩ : ∃ N, Hid (ks.length = N) := ⟨_, rfl⟩
    obtain ⟨N', hN'⟩ : ∃ N, Hid (ks'.length = N) := ⟨_, rfl⟩
    obtain ⟨M, hM⟩ : ∃ M, Hid (vs.length = M) := ⟨_, rfl⟩
    obtain ⟨M', hM'⟩ : ∃ M, Hid (vs'.length = M) := ⟨_, rfl⟩
    have hsK : Hid (∀ u : World, KeysAt u ko ks → KeysAt u ko' ks' → Calls Tryz.prog 28 #[.slice ko N kc, .slice ko' N' kc'] u fun e w' => ∃ B : Bool, e = .returned (.bool B) ∧ (B = true ↔ ks = ks') ∧ Below u.heap.size u w') := fun u g1 g2 => by
      rw [← hN.out, ← hN'.out]
      exact sameK_calls ks ks' hz1.out.2.2.1 hz2.out.2.2.1 ko ko' kc kc' u g1 g2
    rw [hN.out, hN'.out, hM.out, hM'.out]
    have hMi : (M : Int) ≤ 9223372036854775807 := by have := hz1.out.2.2.2; rw [hM.out] at this; unfold capT at this; omega
    have hMi' : (M' : Int) ≤ 9223372036854775807 := by have := hz2.out.2.2.2; rw [hM'.out] at this; unfold capT at this; omega
    clear ih hs hk hk' hr hr' hv hv' hz hz' hw hw'
    obtain ⟨W1, hW1⟩ : ∃ W, w.alloc (.cells #[.int .i64 k, .bool b, .string r, .string t, .slice ko N kc, .slice vo M vc] 25) = W := ⟨_, rfl⟩
    obtain ⟨W2, hW2⟩ : ∃ W, W1.alloc (.cells #[.int .i64 k', .bool b', .string r', .string t', .slice ko' N' kc', .slice vo' M' vc'] 25) = W := ⟨_, rfl⟩
    have A1 : Hid (At W2 w.heap.size #[.int .i64 k, .bool b, .string r, .string t, .slice ko N kc, .slice vo M vc] 25) := by
      rw [← hW2, ← hW1]
      exact (At.new w _ _).alloc _
    have A2 : Hid (At W2 (w.heap.size + 1) #[.int .i64 k', .bool b', .string r', .string t', .slice ko' N' kc', .slice vo' M' vc'] 25) := by
      have h := At.new W1 #[.int .i64 k', .bool b', .string r', .string t', .slice ko' N' kc', .slice vo' M' vc'] 25
      rw [hW2, ← hW1, World.size_alloc] at h
      exact h
    have hsz1 : W1.heap.size = w.heap.size + 1 := by rw [← hW1, World.size_alloc]
    have B2 : Hid (Below w.heap.size w W2) := by
      rw [← hW2, ← hW1]
      exact ((Below.refl _ w).alloc (Nat.le_refl _) _).alloc (by rw [World.size_alloc]; omega) _
    obtain ⟨a1, ha1⟩ : ∃ a, w.heap.size = a := ⟨_, rfl⟩
    obtain ⟨a2, ha2⟩ : ∃ a, a1 + 1 = a := ⟨_, rfl⟩
    rw [ha1] at A1 hsz1
    rw [ha1, ha2] at A2
    rw [ha2] at hsz1
    have c0 := A1.out.cell 0
    have c1 := A1.out.cell 1
    have c2 := A1.out.cell 2
    have c3 := A1.out.cell 3
    have c4 := A1.out.cell 4
    have c5 := A1.out.cell 5
    have d0 := A2.out.cell 0
    have d1 := A2.out.cell 1
    have d2 := A2.out.cell 2
    have d3 := A2.out.cell 3
    have d4 := A2.out.cell 4
    have d5 := A2.out.cell 5
    simp only [List.getElem?_toArray, List.getElem?_cons_zero, List.getElem?_cons_succ] at c0 c1 c2 c3 c4 c5 d0 d1 d2 d3 d4 d5
    clear ha2
    by_cases e1 : k = k'
    · by_cases e2 : b = b'
      · by_cases e3 : r = r'
        · by_cases e4 : t = t'
          · by_cases e5 : M = M'
            · subst e1 e2 e3 e4 e5
              have f1 : (k != k) = false := by simp
              have f3 : (r.toList != r.toList) = false := by simp
              have f4 : (t.toList != t.toList) = false := by simp
              have f5 : ((M : Int) != (M : Int)) = false := by simp
              have f2 : (b != b) = false := by simp
              go_enter Tryz.func19, Tryz.ntmps19
              go_wp2_with fail
              refine Calls.mono (hsK.out W2 (hk1.out.kept B2.out) (hk2.out.kept B2.out)) ?_
              rintro e w3 ⟨B1, rfl, hB1, hb3⟩
              have A1b := hid (A1.out.keptAll hb3)
              have A2b := hid (A2.out.keptAll hb3)
              have B3 := hid (B2.out.trans (hb3.mono B2.out.size))
              have hB1' := hid hB1
              clear hW1 hW2 hsz1 c0 c1 c2 c3 c4 c5 d0 d1 d2 d3 d4 d5 hb3 hB1 A1 A2 hsK
              cases B1 with
              | false =>
                go_wp2
                go_ret
                refine ⟨false, rfl, no_iff (fun h => ?_), B3.out⟩
                have := hB1'.out.2 (Vt.mk.inj h).2.2.2.2.1
                cases this
              | true =>
                have hks := hid (hB1'.out.1 rfl)
                clear f1 f2 f3 f4 f5
                go_wp2
                go_loopw [5] (fun ii wr => ∃ i : Nat, i ≤ M ∧ ii = .int .i64 (i : Int) ∧ Hid (∀ j, j < i → vs[j]? = vs'[j]?) ∧ Hid (At wr a1 #[.int .i64 k, .bool b, .string r, .string t, .slice ko N kc, .slice vo M vc] 25) ∧ Hid (At wr a2 #[.int .i64 k, .bool b, .string r, .string t, .slice ko' N' kc', .slice vo' M vc'] 25) ∧ Hid (Below w.heap.size w wr)) (fun ii _ => M - (intOf ii).toNat)
                case atStart => exact ⟨0, Nat.zero_le _, rfl, hid (fun j hj => by omega), A1b, A2b, B3⟩
                case round =>
                  obtain ⟨i, hi, rfl, hsm, hA1, hA2, hb⟩ := hrel
                  have c5 := hA1.out.cell 5
                  have d5 := hA2.out.cell 5
                  simp only [List.getElem?_toArray, List.getElem?_cons_zero, List.getElem?_cons_succ] at c5 d5
                  by_cases hlt : i < M
                  · have hli : (i : Int) < (M : Int) := by omega
                    obtain ⟨u1, hu1⟩ : ∃ u, Hid (vs[i]? = some u) := ⟨_, List.getElem?_eq_getElem (by rw [hM.out]; exact hlt)⟩
                    obtain ⟨u2, hu2⟩ : ∃ u, Hid (vs'[i]? = some u) := ⟨_, List.getElem?_eq_getElem (by rw [hM'.out]; exact hlt)⟩
                    obtain ⟨g, o, rfl, hg, hrg, hl1⟩ := row_range (hr1.out.kept hb.out) (i := i) (by rw [hM.out]; exact hlt)
                    obtain ⟨g', o', rfl, hg', hrg', hl2⟩ := row_range (hr2.out.kept hb.out) (i := i) (by rw [hM'.out]; exact hlt)
                    obtain ⟨L1, hL1⟩ : ∃ L, Hid ((X i).toList = L) := ⟨_, rfl⟩
                    obtain ⟨L2, hL2⟩ : ∃ L, Hid ((X' i).toList = L) := ⟨_, rfl⟩
                    rw [hL1.out] at hrg hl1
                    rw [hL2.out] at hrg' hl2
                    have z1 : (Tryz.prog.info? 25).map (·.size) = some L1.length := by rw [hl1]; exact sizeVl
                    have z2 : (Tryz.prog.info? 25).map (·.size) = some L2.length := by rw [hl2]; exact sizeVl
                    have v1 : Hid (ValAt wr u1 (.agg L1.toArray)) := by
                      have := (hv1.out i u1 hu1.out).kept hb.out
                      rw [← hL1.out, Array.toArray_toList]
                      exact this
                    have v2 : Hid (ValAt wr u2 (.agg L2.toArray)) := by
                      have := (hv2.out i u2 hu2.out).kept hb.out
                      rw [← hL2.out, Array.toArray_toList]
                      exact this
                    obtain ⟨S, hS⟩ : ∃ S : Bool, Hid (S = true ↔ u1 = u2) := by
                      by_cases h : u1 = u2
                      · exact ⟨true, hid ⟨fun _ => h, fun _ => rfl⟩⟩
                      · exact ⟨false, hid (no_iff h)⟩
                    have hcall : Hid (∀ wq : World, Below wr.heap.size wr wq → Calls Tryz.prog 19 #[.agg L1.toArray, .agg L2.toArray] wq fun e w' => e = .returned (.bool S) ∧ Below wq.heap.size wq w') := fun wq hq => by
                      have hsz := kid_size (k := k) (b := b) (r := r) (t := t) (ks := ks) hu1.out
                      refine (ih'.out u1 u2 (by have := hs'.out; omega) _ _ wq (v1.out.kept hq) (v2.out.kept hq)).mono ?_
                      rintro e w' ⟨B, rfl, hB, hbb⟩
                      refine ⟨?_, hbb⟩
                      have : B = S := by
                        cases B <;> cases S
                        · rfl
                        · exact absurd (hB.2 (hS.out.1 rfl)) (by simp)
                        · exact absurd (hS.out.2 (hB.1 rfl)) (by simp)
                        · rfl
                      rw [this]
                    have hrgk := hid hrg
                    have hrgk' := hid hrg'
                    clear hrg hrg' hl1 hl2
                    go_wp2
                    refine wp_region_quiet (C := (fun w' => w'.cell? ⟨a1, 5, none⟩ = some (.slice (some ⟨g, o, none⟩) M vc) ∧ w'.cell? ⟨a2, 5, none⟩ = some (.slice (some ⟨g', o', none⟩) M vc') ∧ Below wr.heap.size wr w')) (by kernel_rfl) (by kernel_rfl) (⟨c5, d5, (Below.refl _ _).drew⟩) ?_
                    dsimp only
                    repeat (first
                      | (refine wpQuiet_skip (by rfl) ?_; simp only [Act.put, List.setIfInBounds_toArray, List.set_cons_zero, List.set_cons_succ])
                      | (refine wpQuiet_load 25 _ (g) (o + i * 6) L1 _ (fun wq hq => range_kept hrgk.out hq.2.2) Tryz.underlying25 z1 rfl rfl rfl (by rfl) ?_; simp only [Act.put, List.setIfInBounds_toArray, List.set_cons_zero, List.set_cons_succ])
                      | (refine wpQuiet_load 25 _ (g') (o' + i * 6) L2 _ (fun wq hq => range_kept hrgk'.out hq.2.2) Tryz.underlying25 z2 rfl rfl rfl (by rfl) ?_; simp only [Act.put, List.setIfInBounds_toArray, List.set_cons_zero, List.set_cons_succ])
                      | (refine' wpQuiet_take (by rfl) ?_ ?_
                         rotate_left
                         · (intro wq hq; (try dsimp only at hq); go_simp
                            first
                              | done
                              | with_reducible rfl
                              | (go_at_call 19; have hzz := hcall.out wq hq.2.2; with_reducible refine hzz.mono ?_; clear hzz; rintro e wz ⟨rfl, hb⟩; exact ⟨rfl, (hb.cell (p := ⟨a1, 5, none⟩) (block_lt_of_cell hq.1)).trans hq.1, (hb.cell (p := ⟨a2, 5, none⟩) (block_lt_of_cell hq.2.1)).trans hq.2.1, Below.trans hq.2.2 (Below.mono hb hq.2.2.size)⟩)
                           )
                         simp only [Act.put, List.setIfInBounds_toArray, List.set_cons_zero, List.set_cons_succ]))
                    refine wpQuiet_nil ?_
                    intro w5 hw5
                    have J1 := hid (hA1.out.keptAll hw5.2.2)
                    have J2 := hid (hA2.out.keptAll hw5.2.2)
                    have Jb := hid (hb.out.trans (hw5.2.2.mono hb.out.size))
                    clear hw5 c5 d5 hcall hrgk hrgk'
                    cases S with
                    | true =>
                      have hue := hS.out.1 rfl
                      go_wp2
                      go_roundw
                      case rel => exact ⟨i + 1, by omega, by simp, hid (fun j hj => by
                        by_cases e : j = i
                        · subst e; rw [hu1.out, hu2.out, hue]
                        · exact hsm.out j (by omega)), J1, J2, Jb⟩
                      case measure => simp [intOf]; omega
                    | false =>
                      go_wp2
                      go_ret
                      refine ⟨false, rfl, no_iff (fun h => ?_), Jb.out⟩
                      have h2 := (Vt.mk.inj h).2.2.2.2.2
                      subst h2
                      have h3 := hu1.out
                      rw [hu2.out] at h3
                      injection h3 with h3
                      have := hS.out.2 h3.symm
                      cases this
                  · obtain rfl : i = M := by omega
                    go_wp2
                    go_ret
                    refine ⟨true, rfl, ⟨fun _ => ?_, fun _ => rfl⟩, hb.out⟩
                    have hvs : vs = vs' := by
                      apply List.ext_getElem?
                      intro j
                      by_cases hj : j < i
                      · exact hsm.out j hj
                      · rw [List.getElem?_eq_none (by rw [hM.out]; omega), List.getElem?_eq_none (by rw [hM'.out]; omega)]
                    rw [hvs, hks.out]
            · have f : ((M : Int) != (M' : Int)) = true := by simp; omega
              subst e1 e2 e3 e4
              have f1 : (k != k) = false := by simp
              have f3 : (r.toList != r.toList) = false := by simp
              have f4 : (t.toList != t.toList) = false := by simp
              have f2 : (b != b) = false := by simp
              go_enter Tryz.func19, Tryz.ntmps19
              go_wp2
              go_ret
              refine ⟨false, rfl, no_iff (fun h => e5 ?_), B2.out⟩
              rw [← hM.out, ← hM'.out, (Vt.mk.inj h).2.2.2.2.2]
          · have f : (t.toList != t'.toList) = true := by rw [text_beq, decide_eq_false e4]; rfl
            have f' : (t.toList == t'.toList) = false := by rw [bne] at f; simpa using f
            subst e1 e2 e3
            have f1 : (k != k) = false := by simp
            have f3 : (r.toList != r.toList) = false := by simp
            have f2 : (b != b) = false := by simp
            go_enter Tryz.func19, Tryz.ntmps19
            go_wp2
            go_ret
            exact ⟨false, rfl, no_iff (fun h => e4 (Vt.mk.inj h).2.2.2.1), B2.out⟩
        · have f : (r.toList != r'.toList) = true := by rw [text_beq, decide_eq_false e3]; rfl
          have f' : (r.toList == r'.toList) = false := by rw [bne] at f; simpa using f
          subst e1 e2
          have f1 : (k != k) = false := by simp
          have f2 : (b != b) = false := by simp
          go_enter Tryz.func19, Tryz.ntmps19
          go_wp2
          go_ret
          exact ⟨false, rfl, no_iff (fun h => e3 (Vt.mk.inj h).2.2.1), B2.out⟩
      · have f : (b != b') = true := by cases b <;> cases b' <;> simp_all
        have f' : (b == b') = false := by cases b <;> cases b' <;> simp_all
        subst e1
        have f1 : (k != k) = false := by simp
        go_enter Tryz.func19, Tryz.ntmps19
        go_wp2
        go_ret
        exact ⟨false, rfl, no_iff (fun h => e2 (Vt.mk.inj h).2.1), B2.out⟩
    · have f : (k != k') = true := by simp; exact e1
      have f' : (k == k') = false := by simp; exact e1
      go_enter Tryz.func19, Tryz.ntmps19
      go_wp2
      go_ret
      refine ⟨false, rfl, no_iff (fun h => e1 (Vt.mk.inj h).1), B2.out⟩
/-- Whether two values are the same. -/
theorem sameV_calls (t u : Vt) (va vb : Value) (B : Bool) (hB : Hid (B = true ↔ t = u)) (w : World) (ha : ValAt w t va) (hb : ValAt w u vb) :
    Calls Tryz.prog 19 #[va, vb] w fun e w' => e = .returned (.bool B) ∧ Below w.heap.size w w' := by
  refine (sameV_ex _ t u (Nat.le_refl _) va vb w ha hb).mono ?_
  rintro e w' ⟨C, rfl, hC, hbb⟩
  refine ⟨?_, hbb⟩
  have : C = B := by
    cases C <;> cases B
    · rfl
    · exact absurd (hC.2 (hB.out.1 rfl)) (by simp)
    · exact absurd (hB.out.2 (hC.1 rfl)) (by simp)
    · rfl
  rw [this]
end Go.Proofs.YtlmjiocdhobopaaGreatDoor

/-
 A value that comes in, of a bulk that is bounded.
-/
namespace Go.Proofs.YtlmjiocdhobopaaGreatDoor
open Go.ChangeShapes Go.WideShapes Go.ChangeAt Go.RowKit
set_option maxRecDepth 100000
/-- The bulk of names. -/
def blkK : List ByteArray → Nat
 | [] => 0
 | k :: ks => k.size + 1 + blkK ks
mutual
/-- The bulk of a value. -/
def blkV : Vt → Nat
 | .mk _ _ r t ks vs => r.size + t.size + blkK ks + blkL vs + 1
def blkL : List Vt → Nat
 | [] => 0
 | v :: vs => blkV v + blkL vs
end
theorem blkK_get : ∀ {ks : List ByteArray} {i : Nat} {k : ByteArray}, ks[i]? = some k → k.size < blkK ks
 | [], i, k, h => by simp at h
 | a :: ks, 0, k, h => by simp at h; subst h; simp only [blkK]; omega
 | a :: ks, i + 1, k, h => by
  have := blkK_get (ks := ks) (i := i) (by simpa using h)
  simp only [blkK]; omega
section
variable {H : Type} {enc : TypeId × Value → H} {w : World} {base : Nat} {spare : Nat → Bool} {held : Bool}
end
end Go.Proofs.YtlmjiocdhobopaaGreatDoor

/-
 TrD, TrD2, one behind the other.
-/
/- quarryref17.Count and Depth: how many parts a value has, how deep it is. -/
namespace Go.Proofs.YtlmjiocdhobopaaGreatDoor
open Go.RowKit Go.Shelf
mutual
/-- How many parts a value has. -/
def cntV : Vt → Nat
 | .mk _ _ _ _ _ vs => cntL vs + 1
def cntL : List Vt → Nat
 | [] => 0
 | v :: vs => cntV v + cntL vs
end
mutual
/-- How deep it is. -/
def depV : Vt → Nat
 | .mk k _ _ _ _ vs => if k = 5 ∨ k = 6 then depL vs + 1 else 0
def depL : List Vt → Nat
 | [] => 0
 | v :: vs => max (depV v) (depL vs)
end
theorem cntL_app (a b : List Vt) : cntL (a ++ b) = cntL a + cntL b := by
 induction a with
 | nil => simp [cntL]
 | cons x a ih => simp only [List.cons_append, cntL, ih]; omega
theorem depL_app (a b : List Vt) : depL (a ++ b) = max (depL a) (depL b) := by
 induction a with
 | nil => simp [depL]
 | cons x a ih => simp only [List.cons_append, depL, ih]; omega
theorem cntL_take (vs : List Vt) (i : Nat) : cntL (vs.take i) ≤ cntL vs := by
 have h := cntL_app (vs.take i) (vs.drop i)
 rw [List.take_append_drop] at h
 omega
theorem depL_take (vs : List Vt) (i : Nat) : depL (vs.take i) ≤ depL vs := by
 have h := depL_app (vs.take i) (vs.drop i)
 rw [List.take_append_drop] at h
 omega
theorem cntL_next {vs : List Vt} {i : Nat} {u : Vt} (h : vs[i]? = some u) : cntL (vs.take (i + 1)) = cntL (vs.take i) + cntV u := by
 rw [List.take_add_one, h, cntL_app]
 simp [cntL]
theorem depL_next {vs : List Vt} {i : Nat} {u : Vt} (h : vs[i]? = some u) : depL (vs.take (i + 1)) = max (depL (vs.take i)) (depV u) := by
 rw [List.take_add_one, h, depL_app]
 simp [depL]
set_option maxRecDepth 10000 in
set_option maxHeartbeats 4000000 in
theorem cnt_ex : ∀ (n : Nat) (t : Vt), SizeOf.sizeOf t ≤ n → cntV t ≤ 4611686018427387904 → ∀ (va : Value) (w : World), ValAt w t va →
  Calls Tryz.prog 9 #[va] w fun e w' => e = .returned (.int .i64 ((cntV t : Nat) : Int)) ∧ Below w.heap.size w w' := by
 intro n
 induction n with
 | zero =>
  intro t hs
  cases t
  simp at hs
 | succ n ih =>
  intro t hs hc va w ha
  cases ha with
  | mk k b r t ks vs ko kc vo vc X hw hz hk hr hv =>
  have ih' := hid ih
  have hs' := hid hs
  have hr1 := hid hr
  have hv1 := hid hv
  have hz1 := hid hz
  have hc' := hid hc
  obtain ⟨T, hT⟩ : ∃ T, Hid (cntV (.mk k b r t ks vs) = T) := ⟨_, rfl⟩
  have hTc : Hid (T = cntL vs + 1) := by show _ = _; rw [← hT.out]; simp [cntV]
  rw [hT.out]
  obtain ⟨N, hN⟩ : ∃ N, Hid (ks.length = N) := ⟨_, rfl⟩
  obtain ⟨M, hM⟩ : ∃ M, Hid (vs.length = M) := ⟨_, rfl⟩
  rw [hN.out, hM.out]
  have hMi : (M : Int) ≤ 9223372036854775807 := by have := hz1.out.2.2.2; rw [hM.out] at this; unfold capT at this; omega
  clear ih hs hk hr hv hz hw hc
  have A1 : Hid (At (w.alloc (.cells #[.int .i64 k, .bool b, .string r, .string t, .slice ko N kc, .slice vo M vc] 25)) w.heap.size #[.int .i64 k, .bool b, .string r, .string t, .slice ko N kc, .slice vo M vc] 25) := At.new w _ _
  have B1 : Hid (Below w.heap.size w (w.alloc (.cells #[.int .i64 k, .bool b, .string r, .string t, .slice ko N kc, .slice vo M vc] 25))) := (Below.refl _ w).alloc (Nat.le_refl _) _
  go_enter Tryz.func9, Tryz.ntmps9
  go_wp2
  go_loopw [3, 4] (fun nn ii wr => ∃ (i c : Nat), i ≤ M ∧ ii = .int .i64 (i : Int) ∧ nn = .int .i64 (c : Int) ∧ Hid (c = cntL (vs.take i) + 1) ∧ Hid (At wr w.heap.size #[.int .i64 k, .bool b, .string r, .string t, .slice ko N kc, .slice vo M vc] 25) ∧ Hid (Below w.heap.size w wr)) (fun _ ii _ => M - (intOf ii).toNat)
  case atStart => exact ⟨0, 1, Nat.zero_le _, rfl, rfl, hid (by simp [cntL]), A1, B1⟩
  case round =>
   obtain ⟨i, c, hi, rfl, rfl, hcc, hA, hb⟩ := hrel
   have c5 := hA.out.cell 5
   simp only [List.getElem?_toArray, List.getElem?_cons_zero, List.getElem?_cons_succ] at c5
   by_cases hlt : i < M
   ·have hli : (i : Int) < (M : Int) := by omega
    obtain ⟨u1, hu1⟩ : ∃ u, Hid (vs[i]? = some u) := ⟨_, List.getElem?_eq_getElem (by rw [hM.out]; exact hlt)⟩
    obtain ⟨g, o, rfl, hg, hrg, hl1⟩ := row_range (hr1.out.kept hb.out) (i := i) (by rw [hM.out]; exact hlt)
    obtain ⟨L1, hL1⟩ : ∃ L, Hid ((X i).toList = L) := ⟨_, rfl⟩
    rw [hL1.out] at hrg hl1
    have z1 : (Tryz.prog.info? 25).map (·.size) = some L1.length := by rw [hl1]; exact sizeVl
    have v1 : Hid (ValAt wr u1 (.agg L1.toArray)) := by
     have := (hv1.out i u1 hu1.out).kept hb.out
     rw [← hL1.out, Array.toArray_toList]
     exact this
    obtain ⟨q, hq⟩ : ∃ q, Hid (cntV u1 = q) := ⟨_, rfl⟩
    have hcq : Hid (c + q ≤ 4611686018427387904) := by
     have h1 := cntL_next hu1.out
     have h2 := cntL_take vs (i + 1)
     have h3 := hTc.out
     have h4 := hc'.out
     rw [hT.out] at h4
     rw [hq.out] at h1
     have h5 := hcc.out
     show _ ≤ _
     omega
    have hcqi : (c : Int) + (q : Int) ≤ 4611686018427387904 := by have := hcq.out; omega
    have hcall : Hid (Calls Tryz.prog 9 #[.agg L1.toArray] wr fun e w' => e = .returned (.int .i64 (q : Int)) ∧ Below wr.heap.size wr w') := by
     have hsz := kid_size (k := k) (b := b) (r := r) (t := t) (ks := ks) hu1.out
     have h := ih'.out u1 (by have := hs'.out; omega) (by rw [hq.out]; have := hcq.out; omega) _ wr v1.out
     rw [hq.out] at h
     exact h
    have hrgk := hid hrg
    clear hrg hl1
    go_wp2_with (refine wpList_load_want 25 _ g (o + i * 6) L1 _ hrgk.out Tryz.underlying25 z1 rfl rfl rfl (by rfl) ?_)
    refine Calls.mono hcall.out ?_
    rintro e w5 ⟨rfl, hbb⟩
    have J1 := hid (hA.out.keptAll hbb)
    have Jb := hid (hb.out.trans (hbb.mono hb.out.size))
    clear hbb hcall c5 hrgk
    go_wp2
    go_roundw
    case rel => exact ⟨i + 1, c + q, by omega, by simp, by simp, hid (by have h1 := cntL_next hu1.out; rw [hq.out] at h1; have := hcc.out; omega), J1, Jb⟩
    case measure => simp [intOf]; omega
   ·obtain rfl : i = M := by omega
    have hfin : Hid (c = T) := by
     show _ = _
     rw [hcc.out, hTc.out, List.take_of_length_le (by rw [hM.out]; exact Nat.le_refl _)]
    rw [hfin.out]
    go_wp2
    go_ret
    exact ⟨rfl, hb.out⟩
end Go.Proofs.YtlmjiocdhobopaaGreatDoor
/- quarryref17.Depth: how deep a value is. -/
namespace Go.Proofs.YtlmjiocdhobopaaGreatDoor
open Go.RowKit Go.Shelf
set_option maxRecDepth 10000 in
set_option maxHeartbeats 4000000 in
theorem dep_ex : ∀ (n : Nat) (t : Vt), SizeOf.sizeOf t ≤ n → depV t ≤ 4611686018427387904 → ∀ (va : Value) (w : World), ValAt w t va →
  Calls Tryz.prog 10 #[va] w fun e w' => e = .returned (.int .i64 ((depV t : Nat) : Int)) ∧ Below w.heap.size w w' := by
 intro n
 induction n with
 | zero =>
  intro t hs
  cases t
  simp at hs
 | succ n ih =>
  intro t hs hc va w ha
  cases ha with
  | mk k b r t ks vs ko kc vo vc X hw hz hk hr hv =>
  have ih' := hid ih
  have hs' := hid hs
  have hr1 := hid hr
  have hv1 := hid hv
  have hz1 := hid hz
  have hc' := hid hc
  obtain ⟨T, hT⟩ : ∃ T, Hid (depV (.mk k b r t ks vs) = T) := ⟨_, rfl⟩
  obtain ⟨N, hN⟩ : ∃ N, Hid (ks.length = N) := ⟨_, rfl⟩
  obtain ⟨M, hM⟩ : ∃ M, Hid (vs.length = M) := ⟨_, rfl⟩
  rw [hT.out, hN.out, hM.out]
  have hMi : (M : Int) ≤ 9223372036854775807 := by have := hz1.out.2.2.2; rw [hM.out] at this; unfold capT at this; omega
  clear ih hs hk hr hv hz hw hc
  have A1 : Hid (At (w.alloc (.cells #[.int .i64 k, .bool b, .string r, .string t, .slice ko N kc, .slice vo M vc] 25)) w.heap.size #[.int .i64 k, .bool b, .string r, .string t, .slice ko N kc, .slice vo M vc] 25) := At.new w _ _
  have B1 : Hid (Below w.heap.size w (w.alloc (.cells #[.int .i64 k, .bool b, .string r, .string t, .slice ko N kc, .slice vo M vc] 25))) := (Below.refl _ w).alloc (Nat.le_refl _) _
  have c0 := A1.out.cell 0
  simp only [List.getElem?_toArray, List.getElem?_cons_zero] at c0
  by_cases h5 : k = 5
  ·have n5 : (k != 5) = false := by simp [h5]
   have hTc : Hid (T = depL vs + 1) := by show _ = _; rw [← hT.out]; simp [depV, h5]
   clear h5
   go_enter Tryz.func10, Tryz.ntmps10
   go_wp2
   clear c0
   go_loopw [3, 4, 5] (fun nn ii _ wr => ∃ (i c : Nat), i ≤ M ∧ ii = .int .i64 (i : Int) ∧ nn = .int .i64 (c : Int) ∧ Hid (c = depL (vs.take i)) ∧ Hid (At wr w.heap.size #[.int .i64 k, .bool b, .string r, .string t, .slice ko N kc, .slice vo M vc] 25) ∧ Hid (Below w.heap.size w wr)) (fun _ ii _ _ => M - (intOf ii).toNat)
   case atStart => exact ⟨0, 0, Nat.zero_le _, rfl, rfl, hid (by simp [depL]), A1, B1⟩
   case round =>
    obtain ⟨i, c, hi, rfl, rfl, hcc, hA, hb⟩ := hrel
    have c5 := hA.out.cell 5
    simp only [List.getElem?_toArray, List.getElem?_cons_zero, List.getElem?_cons_succ] at c5
    by_cases hlt : i < M
    ·have hli : (i : Int) < (M : Int) := by omega
     obtain ⟨u1, hu1⟩ : ∃ u, Hid (vs[i]? = some u) := ⟨_, List.getElem?_eq_getElem (by rw [hM.out]; exact hlt)⟩
     obtain ⟨g, o, rfl, hg, hrg, hl1⟩ := row_range (hr1.out.kept hb.out) (i := i) (by rw [hM.out]; exact hlt)
     obtain ⟨L1, hL1⟩ : ∃ L, Hid ((X i).toList = L) := ⟨_, rfl⟩
     rw [hL1.out] at hrg hl1
     have z1 : (Tryz.prog.info? 25).map (·.size) = some L1.length := by rw [hl1]; exact sizeVl
     have v1 : Hid (ValAt wr u1 (.agg L1.toArray)) := by
      have := (hv1.out i u1 hu1.out).kept hb.out
      rw [← hL1.out, Array.toArray_toList]
      exact this
     obtain ⟨q, hq⟩ : ∃ q, Hid (depV u1 = q) := ⟨_, rfl⟩
     have hnx := hid (depL_next hu1.out)
     rw [hq.out, ← hcc.out] at hnx
     have hqm : Hid (q ≤ 4611686018427387904) := by
      have h2 := depL_take vs (i + 1)
      have h3 := hTc.out
      have h4 := hc'.out
      rw [hT.out] at h4
      have h5 := hnx.out
      show _ ≤ _
      omega
     have hqi : (q : Int) ≤ 4611686018427387904 := by have := hqm.out; omega
     have hcall : Hid (Calls Tryz.prog 10 #[.agg L1.toArray] wr fun e w' => e = .returned (.int .i64 (q : Int)) ∧ Below wr.heap.size wr w') := by
      have hsz := kid_size (k := k) (b := b) (r := r) (t := t) (ks := ks) hu1.out
      have h := ih'.out u1 (by have := hs'.out; omega) (by rw [hq.out]; exact hqm.out) _ wr v1.out
      rw [hq.out] at h
      exact h
     have hrgk := hid hrg
     clear hrg hl1
     go_wp2_with (refine wpList_load_want 25 _ g (o + i * 6) L1 _ hrgk.out Tryz.underlying25 z1 rfl rfl rfl (by rfl) ?_)
     refine Calls.mono hcall.out ?_
     rintro e w5 ⟨rfl, hbb⟩
     have J1 := hid (hA.out.keptAll hbb)
     have Jb := hid (hb.out.trans (hbb.mono hb.out.size))
     clear hbb hcall c5 hrgk
     by_cases hcq : c < q
     ·have hcqi : (c : Int) < (q : Int) := by omega
      go_wp2
      go_roundw
      case rel => exact ⟨i + 1, q, by omega, by simp, rfl, hid (by have := hnx.out; omega), J1, Jb⟩
      case measure => simp [intOf]; omega
     ·have hcqi : decide ((c : Int) < (q : Int)) = false := by simp; omega
      have hcqn : decide (c < q) = false := by simp; omega
      go_wp2
      go_roundw
      case rel => exact ⟨i + 1, c, by omega, by simp, rfl, hid (by have := hnx.out; omega), J1, Jb⟩
      case measure => simp [intOf]; omega
    ·obtain rfl : i = M := by omega
     have hfin : Hid (T = c + 1) := by
      show _ = _
      rw [hTc.out, hcc.out, List.take_of_length_le (by rw [hM.out]; exact Nat.le_refl _)]
     have hci : (c : Int) ≤ 4611686018427387904 := by have := hfin.out; have h4 := hc'.out; rw [hT.out] at h4; omega
     go_wp2
     go_ret
     refine ⟨?_, hb.out⟩
     rw [hfin.out]
     simp
  ·have n5 : (k != 5) = true := by simp; exact h5
   by_cases h6 : k = 6
   ·have n6 : (k != 6) = false := by simp [h6]
    have hTc : Hid (T = depL vs + 1) := by show _ = _; rw [← hT.out]; simp [depV, h6]
    clear h5 h6
    go_enter Tryz.func10, Tryz.ntmps10
    go_wp2
    clear c0
    go_loopw [3, 4, 5] (fun nn ii _ wr => ∃ (i c : Nat), i ≤ M ∧ ii = .int .i64 (i : Int) ∧ nn = .int .i64 (c : Int) ∧ Hid (c = depL (vs.take i)) ∧ Hid (At wr w.heap.size #[.int .i64 k, .bool b, .string r, .string t, .slice ko N kc, .slice vo M vc] 25) ∧ Hid (Below w.heap.size w wr)) (fun _ ii _ _ => M - (intOf ii).toNat)
    case atStart => exact ⟨0, 0, Nat.zero_le _, rfl, rfl, hid (by simp [depL]), A1, B1⟩
    case round =>
     obtain ⟨i, c, hi, rfl, rfl, hcc, hA, hb⟩ := hrel
     have c5 := hA.out.cell 5
     simp only [List.getElem?_toArray, List.getElem?_cons_zero, List.getElem?_cons_succ] at c5
     by_cases hlt : i < M
     ·have hli : (i : Int) < (M : Int) := by omega
      obtain ⟨u1, hu1⟩ : ∃ u, Hid (vs[i]? = some u) := ⟨_, List.getElem?_eq_getElem (by rw [hM.out]; exact hlt)⟩
      obtain ⟨g, o, rfl, hg, hrg, hl1⟩ := row_range (hr1.out.kept hb.out) (i := i) (by rw [hM.out]; exact hlt)
      obtain ⟨L1, hL1⟩ : ∃ L, Hid ((X i).toList = L) := ⟨_, rfl⟩
      rw [hL1.out] at hrg hl1
      have z1 : (Tryz.prog.info? 25).map (·.size) = some L1.length := by rw [hl1]; exact sizeVl
      have v1 : Hid (ValAt wr u1 (.agg L1.toArray)) := by
       have := (hv1.out i u1 hu1.out).kept hb.out
       rw [← hL1.out, Array.toArray_toList]
       exact this
      obtain ⟨q, hq⟩ : ∃ q, Hid (depV u1 = q) := ⟨_, rfl⟩
      have hnx := hid (depL_next hu1.out)
      rw [hq.out, ← hcc.out] at hnx
      have hqm : Hid (q ≤ 4611686018427387904) := by
       have h2 := depL_take vs (i + 1)
       have h3 := hTc.out
       have h4 := hc'.out
       rw [hT.out] at h4
       have h5 := hnx.out
       show _ ≤ _
       omega
      have hqi : (q : Int) ≤ 4611686018427387904 := by have := hqm.out; omega
      have hcall : Hid (Calls Tryz.prog 10 #[.agg L1.toArray] wr fun e w' => e = .returned (.int .i64 (q : Int)) ∧ Below wr.heap.size wr w') := by
       have hsz := kid_size (k := k) (b := b) (r := r) (t := t) (ks := ks) hu1.out
       have h := ih'.out u1 (by have := hs'.out; omega) (by rw [hq.out]; exact hqm.out) _ wr v1.out
       rw [hq.out] at h
       exact h
      have hrgk := hid hrg
      clear hrg hl1
      go_wp2_with (refine wpList_load_want 25 _ g (o + i * 6) L1 _ hrgk.out Tryz.underlying25 z1 rfl rfl rfl (by rfl) ?_)
      refine Calls.mono hcall.out ?_
      rintro e w5 ⟨rfl, hbb⟩
      have J1 := hid (hA.out.keptAll hbb)
      have Jb := hid (hb.out.trans (hbb.mono hb.out.size))
      clear hbb hcall c5 hrgk
      by_cases hcq : c < q
      ·have hcqi : (c : Int) < (q : Int) := by omega
       go_wp2
       go_roundw
       case rel => exact ⟨i + 1, q, by omega, by simp, rfl, hid (by have := hnx.out; omega), J1, Jb⟩
       case measure => simp [intOf]; omega
      ·have hcqi : decide ((c : Int) < (q : Int)) = false := by simp; omega
       have hcqn : decide (c < q) = false := by simp; omega
       go_wp2
       go_roundw
       case rel => exact ⟨i + 1, c, by omega, by simp, rfl, hid (by have := hnx.out; omega), J1, Jb⟩
       case measure => simp [intOf]; omega
     ·obtain rfl : i = M := by omega
      have hfin : Hid (T = c + 1) := by
       show _ = _
       rw [hTc.out, hcc.out, List.take_of_length_le (by rw [hM.out]; exact Nat.le_refl _)]
      have hci : (c : Int) ≤ 4611686018427387904 := by have := hfin.out; have h4 := hc'.out; rw [hT.out] at h4; omega
      go_wp2
      go_ret
      refine ⟨?_, hb.out⟩
      rw [hfin.out]
      simp
   ·have n6 : (k != 6) = true := by simp; exact h6
    have hT0 : T = 0 := by rw [← hT.out]; simp [depV, h5, h6]
    subst hT0
    go_enter Tryz.func10, Tryz.ntmps10
    go_wp2
    go_ret
    exact ⟨rfl, B1.out⟩
end Go.Proofs.YtlmjiocdhobopaaGreatDoor
