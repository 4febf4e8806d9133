/-
  Texts of mine that others lean on, one behind the other.
-/
import Derived.Test.YtjlcliicdclooaaDoorPack1
import Derived.Laws.AppendOwn
import Derived.ArgAppend
import Derived.RangeFuncBox
import Derived.Lib.Builder
import Derived.Lib.AppendStr
import Derived.Lib.UnsafeStr
import Derived.Laws.Externs
import Derived.Shelf.RegionOpenPlain
import Derived.Shelf.Strings.Search2
import Derived.Test.YtjlcliicdclooaaDoorProg
import Derived.KernelRfl
import Derived.Lib.IndexBytes
/-
 HeldKit2, LstKit, AppendApart, one behind the other.
-/
/- A range over an iterator whose caller has a row of its own that grows while the rounds go on: which blocks are not that row is told by a word 'Safe'. -/
namespace Go.Proofs.YtjlcliicdclooaaDoor
open Go.RowKit Go.Shelf
/-- What a round must leave alone: all below n0; of what lies from B on, and of block Bx, what is no cells, and the cells that are safe; they stay safe. -/
def HeldS (Safe : Nat → World → Prop) (n0 B Bx : Nat) (W W' : World) : Prop := Below n0 W W' ∧ W.heap.size ≤ W'.heap.size ∧ (∀ k o, B ≤ k → o.isCells = false → W.heap[k]? = some o → W'.heap[k]? = some o) ∧
 ∀ b cs t, (B ≤ b ∨ b = Bx) → Safe b W → At W b cs t → At W' b cs t ∧ Safe b W'
theorem HeldS.trans {Safe : Nat → World → Prop} {n0 B Bx : Nat} {X Y Z : World} (h : HeldS Safe n0 B Bx X Y) (k : HeldS Safe n0 B Bx Y Z) : HeldS Safe n0 B Bx X Z :=
 ⟨h.1.trans k.1, Nat.le_trans h.2.1 k.2.1, fun i o hi hc ho => k.2.2.1 i o hi hc (h.2.2.1 i o hi hc ho), fun b cs t hb hs ha => let ⟨h1, h2⟩ := h.2.2.2 b cs t hb hs ha; k.2.2.2 b cs t hb h2 h1⟩
theorem HeldS.from {Safe : Nat → World → Prop} {n0 B Bx : Nat} {W W' : World} (h : HeldS Safe n0 B Bx W W') {D : Nat} (hD : B ≤ D) : KeepsFrom D W W' := ⟨h.2.1, fun k o hk ho hc => h.2.2.1 k o (by omega) hc ho⟩
theorem Held.safe {n0 B Bx : Nat} {W W' : World} (h : Held n0 B Bx W W') : HeldS (fun _ _ => True) n0 B Bx W W' := ⟨h.1, h.2.1, fun k o hk _ ho => h.2.2 k o (.inl hk) ho, fun b _ _ hb _ ha => ⟨h.2.2 b _ hb ha, trivial⟩⟩
end Go.Proofs.YtjlcliicdclooaaDoor
/- A list of numbers that a call has made: what is read of it, and what keeps it. -/
namespace Go.Proofs.YtjlcliicdclooaaDoor
open Go.RowKit Go.Shelf
/-- The numbers as cells. -/
def ints (L : List Nat) : List Value := L.map fun p => .int .i64 ((p : Nat) : Int)
/-- The slice v is of just these numbers; they lie in a block from B on and below G. -/
def Lst (W : World) (v : Value) (B G : Nat) (L : List Nat) : Prop :=
 ∃ (ao : Option Addr) (cap : Nat), v = .slice ao L.length cap ∧ ∀ j p, L[j]? = some p → ∃ g, ao = some ⟨g, 0, none⟩ ∧ B ≤ g ∧ g < G ∧ W.cell? ⟨g, j, none⟩ = some (.int .i64 ((p : Nat) : Int))
theorem Lst.of {W W' : World} {v : Value} {B G : Nat} {L : List Nat} (h : Lst W v B G L) (hh : ∀ g, B ≤ g → g < G → (∃ o, W.heap[g]? = some o ∧ o.isCells = true) → W'.heap[g]? = W.heap[g]?) : Lst W' v B G L := by
 obtain ⟨ao, cap, hv, hc⟩ := h
 refine ⟨ao, cap, hv, fun j p hj => ?_⟩
 obtain ⟨g, h1, h2, h3, h4⟩ := hc j p hj
 have hcell : ∃ o, W.heap[g]? = some o ∧ o.isCells = true := by
  unfold World.cell? at h4
  cases ho : W.heap[g]? with
  | none => simp [ho] at h4
  | some o => exact ⟨o, rfl, by cases o <;> simp_all [Obj.isCells]⟩
 refine ⟨g, h1, h2, h3, ?_⟩
 rw [← h4]
 simp only [World.cell?, hh g h2 h3 hcell]
theorem Lst.kept {W W' : World} {v : Value} {B G n : Nat} {L : List Nat} (h : Lst W v B G L) (hb : Below n W W') (hn : G ≤ n) : Lst W' v B G L := h.of fun g _ hg _ => hb.block g (by omega)
theorem Lst.other {W : World} {v : Value} {B G : Nat} {L : List Nat} (h : Lst W v B G L) {b : Nat} (hb : b < B ∨ G ≤ b) (u : Value) : Lst (W.setCell ⟨b, 0, none⟩ u) v B G L :=
 h.of fun g h1 h2 _ => Below.heap_setCell W ⟨b, 0, none⟩ u g (by show g ≠ b; omega)
theorem Lst.own {W W' : World} {v : Value} {B G : Nat} {L : List Nat} (h : Lst W v B G L) (hG : G ≤ W.heap.size) {row : Option Nat} (hg : W.grownBy W' row) (hr : ∀ r, row = some r → ∃ o : Obj, W.heap[r]? = some o ∧ o.isCells = false) : Lst W' v B G L :=
 h.of fun g _ h2 ⟨o, ho, hc⟩ => hg.block g (by omega) (fun e => by
  obtain ⟨o', ho', hc'⟩ := hr g e.symm
  rw [ho] at ho'; cases ho'; rw [hc] at hc'; cases hc')
end Go.Proofs.YtjlcliicdclooaaDoor
/- An append to a row of numbers: its row is the same block, or a new one; in a fence; a variable that gathers numbers while rounds go on. -/
namespace Go.Proofs.YtjlcliicdclooaaDoor
open Go.RowKit Go.Shelf
/-- Variable m's row isn't block b. -/
def SafeI (m b : Nat) (W : World) : Prop := ∃ v, At W m #[v] 115 ∧ v.ownBlock ≠ some b
/-- Variable m gathers these numbers; their row lies from B on. -/
def GathI (W : World) (m B : Nat) (L : List Nat) : Prop := ∃ v, At W m #[v] 115 ∧ W.ownsRow B 3 1 v L.length (ints L)
section
variable {W W' : World} {m B : Nat} {L : List Nat}
theorem rowI_block {v : Value} {n : Nat} {xs : List Value} (h : W.ownsRow B 3 1 v n xs) : v.ownBlock = none ∨ ∃ g cur, v.ownBlock = some g ∧ B ≤ g ∧ W.heap[g]? = some (.cells cur 3 (0, 0)) := by
 rcases h.2 with ⟨rfl, _⟩ | ⟨g, cap, cur, rfl, hb, hgb, _⟩
 ·exact .inl rfl
 ·exact .inr ⟨g, cur, rfl, hb, hgb⟩
theorem GathI.kept (h : GathI W m B L) (hb : Below W.heap.size W W') : GathI W' m B L := by
 obtain ⟨v, h1, h2⟩ := h
 refine ⟨v, h1.keptAll hb, h2.kept (grown_of_below hb) ?_⟩
 rcases rowI_block h2 with e | ⟨g, cur, e, _⟩
 ·exact .inl e
 ·exact .inr (by rw [e]; simp)
theorem GathI.own (h : GathI W m B L) {row : Option Nat} (hg : W.grownBy W' row) (hr : ∀ r, row = some r → ∃ o : Obj, W.heap[r]? = some o ∧ o.isCells = false) : GathI W' m B L := by
 obtain ⟨v, h1, h2⟩ := h
 refine ⟨v, h1.own hg hr, h2.kept hg ?_⟩
 rcases rowI_block h2 with e | ⟨g, cur, e, _, hgb⟩
 ·exact .inl e
 ·refine .inr fun e' => ?_
  obtain ⟨o, ho, hc⟩ := hr g (by rw [← e', e])
  rw [hgb] at ho
  cases ho
  cases hc
/-- New blocks are not the row; nor is one ahead of B. -/
theorem GathI.good (h : GathI W m B L) {g : Nat} (hg : g < B) : (∀ o, SafeI m W.heap.size (W.alloc o)) ∧ SafeI m g W := by
 obtain ⟨v, h1, h2⟩ := h
 refine ⟨fun o => ⟨v, h1.alloc o, fun e => ?_⟩, v, h1, fun e => ?_⟩
 ·have := (h2.lt _ e).2; omega
 ·have := (h2.lt _ e).1; omega
end
end Go.Proofs.YtjlcliicdclooaaDoor

/-
 strings.Builder, as package marks takes it: copyCheck, WriteString, String.
-/
namespace Go.Proofs.YtjlcliicdclooaaDoor
open Go.RowKit Go.Shelf
theorem sizeBd : (Tryd.prog.info? 49).map (·.size) = some 2 := by kernel_rfl
theorem liesBd : liesAt Tryd.prog Tryd.prog.depth 49 (2 / Tryd.prog.cellsOf 49) 0 49 1 = true := by kernel_rfl
theorem infoBy : (Tryd.prog.info? 5).map (fun i => (i.zero, i.size, i.bytes)) = some (some (.int .u8 0), 1, 1) := by kernel_rfl
theorem cellsBy : Tryd.prog.cellsOf 5 = 1 := by kernel_rfl
theorem shapeBd {w : World} {m : Nat} {p v : Value} (h : At w m #[p, v] 49) : w.shape? m = some (49, 2) := by
 have h' : w.heap[m]? = some (.cells #[p, v] 49) := h
 simp [World.shape?, h']
set_option maxRecDepth 100000 in
set_option maxHeartbeats 1000000 in
theorem bcheck_used (m : Nat) (v : Value) (w : World) (h : At w m #[.pointer (some ⟨m, 0, none⟩), v] 49) :
  Calls Tryd.prog 35 #[.pointer (some ⟨m, 0, none⟩)] w fun e w' => e = .returned (.tuple #[]) ∧ w' = w := by
 obtain ⟨j, hj, -⟩ := Option.map_eq_some_iff.1 sizeBd
 have c0 := h.cell 0
 simp only [List.getElem?_toArray, List.getElem?_cons_zero] at c0
 go_enter Tryd.func35, Tryd.ntmps35
 go_wp2
 rw [Lib.run_neq_ptr_same w _ Tryd.underlying46 hj]
 go_wp2
 go_end0
 exact ⟨rfl, rfl⟩
set_option maxRecDepth 100000 in
set_option maxHeartbeats 1000000 in
theorem bcheck_fresh (m : Nat) (v : Value) (w : World) (h : At w m #[.pointer none, v] 49) :
  Calls Tryd.prog 35 #[.pointer (some ⟨m, 0, none⟩)] w fun e w' => e = .returned (.tuple #[]) ∧ w' = w.setCell ⟨m, 0, none⟩ (.pointer (some ⟨m, 0, none⟩)) := by
 obtain ⟨j, hj, hjs⟩ := Option.map_eq_some_iff.1 sizeBd
 have hsh := shapeBd h
 have c0 := h.cell 0
 have f0 := h.frozen 0
 simp only [List.getElem?_toArray, List.getElem?_cons_zero] at c0
 go_enter Tryd.func35, Tryd.ntmps35
 go_wp2
 rw [Lib.run_to_unsafe w ⟨m, 0, none⟩ Tryd.underlying46 Tryd.underlying75 hj (by rw [hjs]; decide) hsh (Nat.zero_lt_succ 1)]
 simp only [Result.andThen]
 rw [Oper.upon_value]
 go_wp2
 rw [run_callFunc_extern Tryd.func49 (by kernel_rfl) (by kernel_rfl) (by kernel_rfl) (e := Extern.AbiNoEscape.same) (by kernel_rfl)]
 rw [Lib.run_noEscape]
 simp only [Result.andThen]
 rw [Oper.upon_value]
 go_wp2
 rw [Lib.run_from_unsafe w ⟨m, 0, none⟩ Tryd.underlying75 Tryd.underlying46 hj hsh liesBd]
 simp only [Result.andThen]
 rw [Oper.upon_value]
 go_wp2
 go_end0
 exact ⟨rfl, rfl⟩
/-- The builder in block m holds these bytes; their row lies from B on. -/
def BdI (W : World) (m B : Nat) (l : List UInt8) : Prop := ∃ p v, At W m #[p, v] 49 ∧ (p = .pointer none ∨ p = .pointer (some ⟨m, 0, none⟩)) ∧ W.ownsRow B 5 1 v l.length (Lib.byteCells l)
/-- Its row isn't block b. -/
def SafeB (m b : Nat) (W : World) : Prop := ∃ p v, At W m #[p, v] 49 ∧ v.ownBlock ≠ some b
section
variable {W W' : World} {m B : Nat} {l : List UInt8}
theorem rowY_block {v : Value} {n : Nat} {xs : List Value} (h : W.ownsRow B 5 1 v n xs) : v.ownBlock = none ∨ ∃ g cur, v.ownBlock = some g ∧ B ≤ g ∧ W.heap[g]? = some (.cells cur 5 (0, 0)) := by
 rcases h.2 with ⟨rfl, _⟩ | ⟨g, cap, cur, rfl, hb, hgb, _⟩
 ·exact .inl rfl
 ·exact .inr ⟨g, cur, rfl, hb, hgb⟩
theorem BdI.kept (h : BdI W m B l) (hb : Below W.heap.size W W') : BdI W' m B l := by
 obtain ⟨p, v, h1, hp, h2⟩ := h
 refine ⟨p, v, h1.keptAll hb, hp, h2.kept (grown_of_below hb) ?_⟩
 rcases rowY_block h2 with e | ⟨g, cur, e, _⟩
 ·exact .inl e
 ·exact .inr (by rw [e]; simp)
theorem BdI.own (h : BdI W m B l) {row : Option Nat} (hg : W.grownBy W' row) (hr : ∀ r, row = some r → ∃ o : Obj, W.heap[r]? = some o ∧ o.isCells = false) : BdI W' m B l := by
 obtain ⟨p, v, h1, hp, h2⟩ := h
 refine ⟨p, v, h1.own hg hr, hp, h2.kept hg ?_⟩
 rcases rowY_block h2 with e | ⟨g, cur, e, _, hgb⟩
 ·exact .inl e
 ·refine .inr fun e' => ?_
  obtain ⟨o, ho, hc⟩ := hr g (by rw [← e', e])
  rw [hgb] at ho
  cases ho
  cases hc
theorem BdI.good (h : BdI W m B l) {g : Nat} (hg : g < B) : (∀ o, SafeB m W.heap.size (W.alloc o)) ∧ SafeB m g W := by
 obtain ⟨p, v, h1, -, h2⟩ := h
 refine ⟨fun o => ⟨p, v, h1.alloc o, fun e => ?_⟩, p, v, h1, fun e => ?_⟩
 ·have := (h2.lt _ e).2; omega
 ·have := (h2.lt _ e).1; omega
theorem BdI.other (h : BdI W m B l) {q : Nat} (hq : q ≠ m) (hqB : q < B) (x : Value) : BdI (W.setCell ⟨q, 0, none⟩ x) m B l := by
 obtain ⟨p, v, h1, hp, h2⟩ := h
 exact ⟨p, v, h1.other (p := ⟨q, 0, none⟩) (fun e => hq e.symm) x, hp, ownsRow_setCell_below h2 (a := ⟨q, 0, none⟩) hqB x⟩
end
/-- What a write does to other blocks. -/
theorem bwrite_core {W w2 : World} {m B n0 Bh g : Nat} {v v' : Value} {n k : Nat} {xs ys : List Value} (hv : At W m #[.pointer (some ⟨m, 0, none⟩), v] 49) (hrow : W.ownsRow B 5 1 v n xs) (hm : m < B) (hn0 : n0 ≤ m) (hBh : m < Bh) (hgm : g ≠ m)
  (hown' : w2.ownsRow B 5 1 v' k ys) (hg : W.grownBy w2 v.ownBlock) (hap : v'.ownBlock = v.ownBlock ∨ ∃ g, v'.ownBlock = some g ∧ W.heap.size ≤ g) :
  At w2 m #[.pointer (some ⟨m, 0, none⟩), v] 49 ∧ At (w2.setCell ⟨m, 1, none⟩ v') m #[.pointer (some ⟨m, 0, none⟩), v'] 49 ∧ (w2.setCell ⟨m, 1, none⟩ v').ownsRow B 5 1 v' k ys ∧ HeldS (SafeB m) n0 Bh g W (w2.setCell ⟨m, 1, none⟩ v') := by
 have hmv : v.ownBlock ≠ some m := fun e => by have := (hrow.lt m e).1; omega
 have hmv' : v'.ownBlock ≠ some m := fun e => by have := (hown'.lt m e).1; omega
 have a1 : At w2 m #[.pointer (some ⟨m, 0, none⟩), v] 49 := (hg.block m hv.lt (fun e => hmv e.symm)).trans hv
 have a2 : At (w2.setCell ⟨m, 1, none⟩ v') m #[.pointer (some ⟨m, 0, none⟩), v'] 49 := by have := a1.set 1 v'; simpa using this
 have hgs := grownBy_setCell' w2 m v'
 have blk : ∀ b, b < W.heap.size → b ≠ m → v.ownBlock ≠ some b → (w2.setCell ⟨m, 1, none⟩ v').heap[b]? = W.heap[b]? := fun b hb hbm hbv =>
  (Below.heap_setCell w2 ⟨m, 1, none⟩ v' b hbm).trans (hg.block b hb (fun e => hbv e.symm))
 have hsz : W.heap.size ≤ (w2.setCell ⟨m, 1, none⟩ v').heap.size := Nat.le_trans hg.size (KeepsOthers.setCell w2 ⟨m, 1, none⟩ v').1
 refine ⟨a1, a2, ownsRow_setCell_below hown' (a := ⟨m, 1, none⟩) hm v', ⟨?_, hsz, fun k o _ hc ho => ?_, fun b cs t hb hs ha => ?_⟩⟩
 ·exact ((Below.refl n0 W).grown hg (by have := hv.lt; omega) (fun b e => by have := (hrow.lt b e).1; omega)).setCell (p := ⟨m, 1, none⟩) hn0 _
 ·have hkl := (Array.getElem?_eq_some_iff.1 ho).1
  rw [blk k hkl (fun e => ?_) (fun e => ?_), ho]
  ·subst e
   have hv' : W.heap[k]? = some (.cells #[.pointer (some ⟨k, 0, none⟩), v] 49) := hv
   rw [ho] at hv'
   cases hv'
   cases hc
  ·rcases rowY_block hrow with e' | ⟨g', cur, e', _, hgb⟩
   ·rw [e'] at e; cases e
   ·rw [e'] at e
    cases e
    rw [ho] at hgb
    cases hgb
    cases hc
 ·obtain ⟨p, u, hu1, hu2⟩ := hs
  have huv : u = v := by
   have h1 : W.heap[m]? = some (.cells #[p, u] 49) := hu1
   have h2 : W.heap[m]? = some (.cells #[.pointer (some ⟨m, 0, none⟩), v] 49) := hv
   rw [h1] at h2
   simp at h2
   exact h2.2
  subst huv
  have hbm : b ≠ m := by rcases hb with h | h <;> omega
  refine ⟨(blk b ha.lt hbm hu2).trans ha, _, v', a2, ?_⟩
  rcases hap with e | ⟨g', e, hle⟩
  ·rw [e]; exact hu2
  ·rw [e]
   intro h
   have := ha.lt
   simp at h
   omega
theorem rowY_slice {W : World} {B n : Nat} {v : Value} {xs : List Value} (h : W.ownsRow B 5 1 v n xs) : ∃ so c, v = .slice so n c := by
 rcases h.2 with ⟨rfl, rfl⟩ | ⟨g, cap, cur, rfl, _⟩
 ·exact ⟨_, _, rfl⟩
 ·exact ⟨_, _, rfl⟩
theorem append_str {w : World} {base n : Nat} {ty : TypeId} {v : Value} {xs : List Value} (hown : w.ownsRow base 5 1 v n xs) (s : ByteArray) (hn : n + s.size ≤ 140737488355328) (hbase : base ≤ w.heap.size) :
  ∃ v' w', (Builtin.append_ #[47, 9] ty #[v, .string s]).run Tryd.prog w = .ok v' w' ∧ w'.ownsRow base 5 1 v' (n + s.size) (xs ++ Lib.strCells s) ∧ w.grownBy w' v.ownBlock ∧ (v'.ownBlock = v.ownBlock ∨ ∃ g, v'.ownBlock = some g ∧ w.heap.size ≤ g) := by
 obtain ⟨i0, hi, hz0, hz1, hz2⟩ := info_parts infoBy
 have hm : n + s.size ≤ maxLen := by unfold maxLen; omega
 obtain ⟨v', w', hr, r1, r2, -⟩ := Lib.run_append_own_string (P := Tryd.prog) w base 47 9 ty 5 i0 Tryd.underlying47 Tryd.underlying9 hi hz0 hz1 hz2 v n xs hown s hm (by omega) hbase
 refine ⟨v', w', hr, r1, r2, ?_⟩
 have new : ∀ {v'' : Value} {w'' : World} {k : Nat} {ys : List Value}, w''.ownsRow w.heap.size 5 1 v'' k ys → v' = v'' → v'.ownBlock = none ∨ ∃ g, v'.ownBlock = some g ∧ w.heap.size ≤ g := by
  rintro v'' w'' k ys ⟨-, ⟨rfl, -⟩ | ⟨g, cap, cur, rfl, hg, -⟩⟩ rfl
  ·exact .inl rfl
  ·exact .inr ⟨g, rfl, hg⟩
 rcases hown.2 with ⟨rfl, rfl⟩ | ⟨g, cap, cur, rfl, hb, hg, hnc, hcm, hcs, htk⟩
 ·obtain ⟨v'', w'', hr2, s1, -, -⟩ := Lib.run_append_own_string (P := Tryd.prog) w w.heap.size 47 9 ty 5 i0 Tryd.underlying47 Tryd.underlying9 hi hz0 hz1 hz2 (.slice none 0 0) 0 [] (World.ownsRow_nil w _ _ _) s hm (by omega) (Nat.le_refl _)
  rw [hr] at hr2
  obtain ⟨rfl, rfl⟩ : v' = v'' ∧ w' = w'' := by simpa using hr2
  exact new s1 rfl
 ·by_cases hgr : n + s.size ≤ cap
  ·have hr2 := Lib.run_append_room_string (P := Tryd.prog) w 47 9 ty 5 i0 Tryd.underlying47 Tryd.underlying9 hi hz1 g n cap cur hg s hgr (by omega)
   rw [hr] at hr2
   obtain ⟨rfl, -⟩ : v' = _ ∧ w' = _ := by simpa using hr2
   exact .inl rfl
  ·have hr2 := Lib.run_append_grow_string (P := Tryd.prog) w 47 9 ty 5 i0 (.int .u8 0) Tryd.underlying47 Tryd.underlying9 hi hz0 ⟨g, 0, none⟩ n cap xs (by rw [hz1]; exact hown.1) (hown.cells (g := g) rfl) s (by omega) (by omega) (by rw [hz2]; have := nextslicecap_le (need := n + s.size) (old := cap) (by omega); omega)
   rw [hr] at hr2
   obtain ⟨rfl, -⟩ : v' = _ ∧ w' = _ := by simpa using hr2
   exact .inr ⟨_, rfl, Nat.le_refl _⟩
theorem wpList_append_str {ops : Array Oper} {rest : List Oper} {o : Oper} {a : Act} {w : World} {Q : Exit → Act → World → Prop} (hgd : o.guard = none) (sl x : Operand)
  (ho : o.op = .call { callee := .builtin .append, args := #[sl, x], argTypes := #[47, 9] }) (base : Nat) (v : Value) (n : Nat) (xs : List Value) (hs : a.eval sl = v) (hown : w.ownsRow base 5 1 v n xs) (s : ByteArray) (hx : a.eval x = .string s)
  (hn : n + s.size ≤ 140737488355328) (hbase : base ≤ w.heap.size)
  (h : ∀ v' w', w'.ownsRow base 5 1 v' (n + s.size) (xs ++ Lib.strCells s) → w.grownBy w' v.ownBlock → (v'.ownBlock = v.ownBlock ∨ ∃ g, v'.ownBlock = some g ∧ w.heap.size ≤ g) → wpList Tryd.prog ops Q rest (a.put o.dst v') w') : wpList Tryd.prog ops Q (o :: rest) a w := by
 refine wpList_plain hgd fun K hK => ?_
 obtain ⟨v', w', hr, h2, h3, h4⟩ := append_str (ty := o.type) hown s hn hbase
 unfold Oper.wp execOp
 simp only [ho, resolve, invoke, builtin, Sem.run_bind, Sem.run_pure, Result.andThen_ok, List.map_toArray, List.map_cons, List.map_nil, hs, hx, hr]
 exact hK _ _ (h v' w' h2 h3 h4)
theorem HeldS.refl_set {m n0 Bh g : Nat} {W : World} {q : Value} (hn0 : n0 ≤ m) (hBh : m < Bh) (hgm : g ≠ m) : HeldS (SafeB m) n0 Bh g W (W.setCell ⟨m, 0, none⟩ q) := by
 refine ⟨(Below.refl n0 W).setCell (p := ⟨m, 0, none⟩) hn0 _, (KeepsOthers.setCell W ⟨m, 0, none⟩ q).1, fun k o hk hc ho => (Below.heap_setCell W ⟨m, 0, none⟩ q k (by show k ≠ m; omega)).trans ho, fun b cs t hb hs ha => ?_⟩
 have hbm : b ≠ m := by rcases hb with h | h <;> omega
 obtain ⟨p', u, hu1, hu2⟩ := hs
 refine ⟨ha.other (p := ⟨m, 0, none⟩) hbm q, q, u, ?_, hu2⟩
 have := hu1.set 0 q
 simpa using this
set_option maxRecDepth 100000 in
set_option maxHeartbeats 2000000 in
theorem bwrite_used (m B : Nat) (v : Value) (l : List UInt8) (s : ByteArray) (hm : m < B) (hn : l.length + s.size ≤ 140737488355328) (w : World) (w0 : World) (h : At w m #[.pointer (some ⟨m, 0, none⟩), v] 49) (hrow : w.ownsRow B 5 1 v l.length (Lib.byteCells l)) (hB : B ≤ w.heap.size)
  (hck : Calls Tryd.prog 35 #[.pointer (some ⟨m, 0, none⟩)] w0 fun e w' => e = .returned (.tuple #[]) ∧ w' = w) (hh : ∀ n0 Bh g, n0 ≤ m → m < Bh → g ≠ m → HeldS (SafeB m) n0 Bh g w0 w) :
  Calls Tryd.prog 21 #[.pointer (some ⟨m, 0, none⟩), .string s] w0 fun e w' => e = .returned (.tuple #[.int .i64 (s.size : Int), .nilIface]) ∧ BdI w' m B (l ++ s.data.toList) ∧ ∀ n0 Bh g, n0 ≤ m → m < Bh → g ≠ m → HeldS (SafeB m) n0 Bh g w0 w' := by
 have hck' := hid hck
 have hh' := hid hh
 have c0 := h.cell 0
 have c1 := h.cell 1
 simp only [List.getElem?_toArray, List.getElem?_cons_zero, List.getElem?_cons_succ] at c0 c1
 have h' := hid h
 have hrow' := hid hrow
 clear hck h hrow hh
 go_enter Tryd.func21, Tryd.ntmps21
 go_wp2_with fail
 refine Calls.mono hck'.out ?_
 rintro e w1 ⟨rfl, hw1⟩
 obtain rfl := hw1.symm
 go_wp2_with (at_builtin; refine wpList_append_str rfl _ _ rfl B v _ _ rfl hrow'.out s rfl hn hB ?_; intro v' w2 hown2 hg hap; obtain ⟨a1, a2, a3, -⟩ := bwrite_core (n0 := m) (Bh := m + 1) (g := m + 1) h'.out hrow'.out hm (Nat.le_refl _) (Nat.lt_succ_self _) (Nat.succ_ne_self _) hown2 hg hap; have a4 := fun n0 Bh g (e1 : n0 ≤ m) (e2 : m < Bh) (e3 : g ≠ m) => (bwrite_core (n0 := n0) (Bh := Bh) (g := g) h'.out hrow'.out hm e1 e2 e3 hown2 hg hap).2.2.2; have d1 := a1.cell 1; have g1 := a1.frozen 1; have d0 := a1.cell 0; simp only [List.getElem?_toArray, List.getElem?_cons_zero, List.getElem?_cons_succ] at d1 d0; have b2 := hid a2; have b3 := hid a3; have b4 := hid a4; obtain ⟨so', c', rfl⟩ := rowY_slice hown2; clear a1 a2 a3 a4 hg hap hown2 c0 c1)
 refine bodyPost_ret (v := .tuple #[.int .i64 (s.size : Int), .nilIface]) (by simp [results, Tryd.results21, go_sem]) rfl ?_
 refine ⟨rfl, ⟨_, _, b2.out, .inr rfl, ?_⟩, fun n0 Bh g e1 e2 e3 => (hh'.out n0 Bh g e1 e2 e3).trans (b4.out n0 Bh g e1 e2 e3)⟩
 have h3 := b3.out
 rw [Lib.strCells_eq, ← Lib.byteCells_append] at h3
 rw [show (l ++ s.data.toList).length = l.length + s.size by rw [List.length_append, Array.length_toList]; rfl]
 exact h3
theorem bwrite_calls (m B : Nat) (l : List UInt8) (s : ByteArray) (hm : m < B) (hn : l.length + s.size ≤ 140737488355328) (w : World) (h : BdI w m B l) (hB : B ≤ w.heap.size) :
  Calls Tryd.prog 21 #[.pointer (some ⟨m, 0, none⟩), .string s] w fun e w' => e = .returned (.tuple #[.int .i64 (s.size : Int), .nilIface]) ∧ BdI w' m B (l ++ s.data.toList) ∧ ∀ n0 Bh g, n0 ≤ m → m < Bh → g ≠ m → HeldS (SafeB m) n0 Bh g w w' := by
 obtain ⟨p, v, h1, rfl | rfl, h2⟩ := h
 ·have a1 : At (w.setCell ⟨m, 0, none⟩ (.pointer (some ⟨m, 0, none⟩))) m #[.pointer (some ⟨m, 0, none⟩), v] 49 := by have := h1.set 0 (.pointer (some ⟨m, 0, none⟩)); simpa using this
  exact bwrite_used m B v l s hm hn _ w a1 (ownsRow_setCell_below h2 (a := ⟨m, 0, none⟩) hm _) (Nat.le_trans hB (KeepsOthers.setCell w ⟨m, 0, none⟩ (.pointer (some ⟨m, 0, none⟩))).1) (bcheck_fresh m v w h1) (fun _ _ _ e1 e2 e3 => HeldS.refl_set e1 e2 e3)
 ·exact bwrite_used m B v l s hm hn w w h1 h2 hB (bcheck_used m v w h1) (fun _ _ _ _ _ _ => ⟨Below.refl _ _, Nat.le_refl _, fun _ _ _ _ h => h, fun _ _ _ _ hs ha => ⟨ha, hs⟩⟩)
theorem freeze_other (w : World) (p : Addr) (n D : Nat) (h : D ≠ p.block) : (w.freeze p n).heap[D]? = w.heap[D]? := by
 unfold World.freeze
 split
 ·rfl
 ·simp [Array.getElem?_modify, Ne.symm h]
set_option maxRecDepth 100000 in
set_option maxHeartbeats 2000000 in
theorem bstring_nil (m n0 : Nat) (p : Value) (w : World) (h : At w m #[p, .slice none 0 0] 49) :
  Calls Tryd.prog 23 #[.pointer (some ⟨m, 0, none⟩)] w fun e w' => e = .returned (.string ⟨#[]⟩) ∧ Below n0 w w' ∧ ∀ (D : Nat) (o : Obj), o.isCells = false → w.heap[D]? = some o → w'.heap[D]? = some o := by
 have hUS := fun (W : World) (q : Option Addr) => Lib.run_unsafeString_none (P := Tryd.prog) W 68 3 9 q
 have c1 : w.cell? ⟨m, 1, none⟩ = some (.slice none 0 0) := h.cell 1
 have c1' : w.drew.cell? ⟨m, 1, none⟩ = some (.slice none 0 0) := c1
 have hSD : (Builtin.unsafeSliceData_ #[47] 68 #[.slice none 0 0]).run Tryd.prog w.drew = .ok (.pointer none) w.drew := rfl
 go_enter Tryd.func23, Tryd.ntmps23
 go_wp2
 go_region
 all_goals (go_wp2; go_ret; exact ⟨rfl, Below.drew (Below.refl n0 w), fun _ _ _ h => h⟩)
set_option maxRecDepth 100000 in
set_option maxHeartbeats 2000000 in
theorem bstring_room (m n0 g cap : Nat) (p : Value) (hc0 : cap ≠ 0) (w : World) (h : At w m #[p, .slice (some ⟨g, 0, none⟩) 0 cap] 49) :
  Calls Tryd.prog 23 #[.pointer (some ⟨m, 0, none⟩)] w fun e w' => e = .returned (.string ⟨#[]⟩) ∧ Below n0 w w' ∧ ∀ (D : Nat) (o : Obj), o.isCells = false → w.heap[D]? = some o → w'.heap[D]? = some o := by
 have hUS := fun (W : World) (q : Option Addr) => Lib.run_unsafeString_none (P := Tryd.prog) W 68 3 9 q
 have c1 : w.cell? ⟨m, 1, none⟩ = some (.slice (some ⟨g, 0, none⟩) 0 cap) := h.cell 1
 have c1' : w.drew.cell? ⟨m, 1, none⟩ = some (.slice (some ⟨g, 0, none⟩) 0 cap) := c1
 have hSD : (Builtin.unsafeSliceData_ #[47] 68 #[.slice (some ⟨g, 0, none⟩) 0 cap]).run Tryd.prog w.drew = .ok (.pointer (some ⟨g, 0, none⟩)) w.drew := Lib.run_unsafeSliceData_row _ _ _ _ _ _ hc0
 clear hc0
 go_enter Tryd.func23, Tryd.ntmps23
 go_wp2
 go_region
 all_goals (go_wp2; go_ret; exact ⟨rfl, Below.drew (Below.refl n0 w), fun _ _ _ h => h⟩)
set_option maxRecDepth 100000 in
set_option maxHeartbeats 2000000 in
theorem bstring_noroom (m n0 g : Nat) (p : Value) (cur : Array Value) (w : World) (hB : n0 ≤ w.heap.size) (h : At w m #[p, .slice (some ⟨g, 0, none⟩) 0 0] 49) (hg : w.heap[g]? = some (.cells cur 5 (0, 0))) :
  Calls Tryd.prog 23 #[.pointer (some ⟨m, 0, none⟩)] w fun e w' => e = .returned (.string ⟨#[]⟩) ∧ Below n0 w w' ∧ ∀ (D : Nat) (o : Obj), o.isCells = false → w.heap[D]? = some o → w'.heap[D]? = some o := by
 have hUS := fun (W : World) (q : Option Addr) => Lib.run_unsafeString_none (P := Tryd.prog) W 68 3 9 q
 have hlt := h.lt
 have c1 : w.cell? ⟨m, 1, none⟩ = some (.slice (some ⟨g, 0, none⟩) 0 0) := h.cell 1
 have c1' : w.drew.cell? ⟨m, 1, none⟩ = some (.slice (some ⟨g, 0, none⟩) 0 0) := c1
 have hSD : (Builtin.unsafeSliceData_ #[47] 68 #[.slice (some ⟨g, 0, none⟩) 0 0]).run Tryd.prog w.drew = .ok (.pointer (some ⟨w.drew.heap.size, 0, none⟩)) (w.drew.alloc (.view ⟨g, 0, none⟩ 5)) :=
  Lib.run_unsafeSliceData_zero w.drew _ _ 5 Tryd.underlying68 ⟨g, 0, none⟩ 0 (5, cur.size) (by have hg' : w.drew.heap[g]? = some (.cells cur 5 (0, 0)) := hg; simp [World.shape?, hg'])
 have c2 : (w.drew.alloc (.view ⟨g, 0, none⟩ 5)).cell? ⟨m, 1, none⟩ = some (.slice (some ⟨g, 0, none⟩) 0 0) := (h.drew.alloc (.view ⟨g, 0, none⟩ 5)).cell 1
 have c3 : (w.alloc (.view ⟨g, 0, none⟩ 5)).drew.cell? ⟨m, 1, none⟩ = some (.slice (some ⟨g, 0, none⟩) 0 0) := c2
 clear h hg
 go_enter Tryd.func23, Tryd.ntmps23
 go_wp2
 go_region
 all_goals (go_wp2; go_ret; exact ⟨rfl, (Below.drew (Below.refl n0 w)).alloc hB _, fun D o _ h => (Below.heap_alloc w.drew _ D (Array.getElem?_eq_some_iff.1 h).1).trans h⟩)
set_option maxRecDepth 100000 in
set_option maxHeartbeats 2000000 in
theorem bstring_some (m B n0 : Nat) (p v : Value) (l : List UInt8) (h0 : l ≠ []) (w : World) (h : At w m #[p, v] 49) (hown : w.ownsRow B 5 1 v l.length (Lib.byteCells l)) (hn0 : n0 ≤ B) :
  Calls Tryd.prog 23 #[.pointer (some ⟨m, 0, none⟩)] w fun e w' => e = .returned (.string ⟨l.toArray⟩) ∧ Below n0 w w' ∧ ∀ (D : Nat) (o : Obj), o.isCells = false → w.heap[D]? = some o → w'.heap[D]? = some o := by
 have hl0 : l.length ≠ 0 := by simpa using h0
 obtain ⟨g, cap, cur, rfl, hbg, hg, hnc, hcm, hcs, htake⟩ : ∃ g cap cur, v = .slice (some ⟨g, 0, none⟩) l.length cap ∧ B ≤ g ∧ w.heap[g]? = some (.cells cur 5 (0, 0)) ∧ l.length ≤ cap ∧ cap ≤ maxLen ∧ cur.size = cap * 1 ∧ cur.toList.take (l.length * 1) = Lib.byteCells l := by
  rcases hown.2 with ⟨_, hz⟩ | ⟨g, cap, cur, hv, r⟩
  ·exact absurd hz hl0
  ·exact ⟨g, cap, cur, hv, r⟩
 have c1 : w.cell? ⟨m, 1, none⟩ = some (.slice (some ⟨g, 0, none⟩) l.length cap) := h.cell 1
 have c1' : w.drew.cell? ⟨m, 1, none⟩ = some (.slice (some ⟨g, 0, none⟩) l.length cap) := c1
 have hSD : (Builtin.unsafeSliceData_ #[47] 68 #[.slice (some ⟨g, 0, none⟩) l.length cap]).run Tryd.prog w.drew = .ok (.pointer (some ⟨g, 0, none⟩)) w.drew := Lib.run_unsafeSliceData_row _ _ _ _ _ _ (by omega)
 have hUS : (Builtin.unsafeString_ #[68, 3] 9 #[.pointer (some ⟨g, 0, none⟩), .int .i64 l.length]).run Tryd.prog w.drew = .ok (.string ⟨l.toArray⟩) (w.drew.freeze ⟨g, 0, none⟩ l.length) := by
  refine Lib.run_unsafeString_row w.drew 68 3 9 5 Tryd.underlying68 cellsBy g cur.size (by have hg' : w.drew.heap[g]? = some (.cells cur 5 (0, 0)) := hg; simp [World.shape?, hg']) l h0 (by omega) (by unfold maxLen at hcm; omega) ?_
  intro j x hx
  exact hown.cells (g := g) rfl j (.int .u8 x.toNat) (by simp [Lib.byteCells, hx])
 have hgn : n0 ≤ g := Nat.le_trans hn0 hbg
 have hg' := hg
 clear h hown hg hcs htake h0 hl0
 go_enter Tryd.func23, Tryd.ntmps23
 go_wp2
 go_region
 all_goals (go_wp2; go_ret; exact ⟨rfl, Lib.below_freeze (Below.drew (Below.refl n0 w)) (p := ⟨g, 0, none⟩) hgn _, fun D o hc h => (freeze_other w.drew ⟨g, 0, none⟩ _ D (fun e => by rw [show D = g from e] at h; rw [h] at hg'; cases hg'; cases hc)).trans h⟩)
theorem bstring_calls (m B n0 : Nat) (l : List UInt8) (w : World) (h : BdI w m B l) (hn0 : n0 ≤ B) (hB : B ≤ w.heap.size) :
  Calls Tryd.prog 23 #[.pointer (some ⟨m, 0, none⟩)] w fun e w' => e = .returned (.string ⟨l.toArray⟩) ∧ Below n0 w w' ∧ ∀ (D : Nat) (o : Obj), o.isCells = false → w.heap[D]? = some o → w'.heap[D]? = some o := by
 obtain ⟨p, v, h1, -, hown⟩ := h
 cases l with
 | nil =>
  rcases hown.2 with ⟨rfl, _⟩ | ⟨g, cap, cur, rfl, hbg, hg, _, _, _, _⟩
  ·exact bstring_nil m n0 p w h1
  ·by_cases hc0 : cap = 0
   ·subst hc0
    exact bstring_noroom m n0 g p cur w (by omega) h1 hg
   ·exact bstring_room m n0 g cap p hc0 w h1
 | cons x r => exact bstring_some m B n0 p v (x :: r) (by simp) w h1 hown hn0
end Go.Proofs.YtjlcliicdclooaaDoor

/-
 strings.Builder's WriteByte; what a write keeps.
-/
namespace Go.Proofs.YtjlcliicdclooaaDoor
open Go.RowKit Go.Shelf
theorem wpList_append_byte {ops : Array Oper} {rest : List Oper} {o : Oper} {a : Act} {w : World} {Q : Exit → Act → World → Prop} (hgd : o.guard = none) (sl x : Operand)
  (ho : o.op = .call { callee := .builtin .append, args := #[sl, x], argTypes := #[47, 47] }) (base : Nat) (v : Value) (n : Nat) (xs : List Value) (hs : a.eval sl = v) (hown : w.ownsRow base 5 1 v n xs) (b : Nat) (C : Int) (hx : a.eval x = .slice (some ⟨b, 0, none⟩) 1 1) (hc : w.cell? ⟨b, 0, none⟩ = some (.int .u8 C))
  (hn : n + 1 ≤ 140737488355328) (hbase : base ≤ w.heap.size)
  (h : ∀ v' w', w'.ownsRow base 5 1 v' (n + 1) (xs ++ [.int .u8 C]) → w.grownBy w' v.ownBlock → wpList Tryd.prog ops Q rest (a.put o.dst v') w') : wpList Tryd.prog ops Q (o :: rest) a w := by
 obtain ⟨i0, hi, hz0, hz1, hz2⟩ := info_parts infoBy
 exact wpList_append_own w hgd sl x 47 ho base 5 i0 (.int .u8 0) 1 1 Tryd.underlying47 hi hz0 hz1 hz2 rfl (by decide) v n xs hs hown ⟨b, 0, none⟩ 1 1 [.int .u8 C] hx rfl (fun j u hj => by
  match j, hj with
  | 0, hj => simp at hj; subst hj; simpa [Addr.add] using hc) (fun u hu => by simp at hu; subst hu; rfl) (by unfold maxLen; omega) (by omega) hbase (fun v' w' h1 h2 _ => h v' w' h1 h2)
set_option maxRecDepth 100000 in
set_option maxHeartbeats 2000000 in
theorem bbyte_used (m B : Nat) (v : Value) (l : List UInt8) (k : UInt8) (C : Int) (hC : C = (k.toNat : Int)) (hm : m < B) (hn : l.length + 1 ≤ 140737488355328) (w : World) (w0 : World) (h : At w m #[.pointer (some ⟨m, 0, none⟩), v] 49) (hrow : w.ownsRow B 5 1 v l.length (Lib.byteCells l)) (hB : B ≤ w.heap.size)
  (hck : Calls Tryd.prog 35 #[.pointer (some ⟨m, 0, none⟩)] w0 fun e w' => e = .returned (.tuple #[]) ∧ w' = w) (hh : Below m w0 w) :
  Calls Tryd.prog 20 #[.pointer (some ⟨m, 0, none⟩), .int .u8 C] w0 fun e w' => e = .returned .nilIface ∧ BdI w' m B (l ++ [k]) ∧ Below m w0 w' := by
 have hck' := hid hck
 have hh' := hid hh
 have hC' := hid hC
 clear hC
 have h2 := hid (h.alloc (.cells #[.int .u8 C] 5))
 have hrow2 := hid (World.ownsRow.alloc hrow (.cells #[.int .u8 C] 5))
 have c0 : w.cell? ⟨m, 0, none⟩ = some (.pointer (some ⟨m, 0, none⟩)) := h.cell 0
 have c1 : w.cell? ⟨m, 1, none⟩ = some v := h.cell 1
 have hw2 := hid (show Below m w (w.alloc (.cells #[.int .u8 C] 5)) from (Below.refl _ _).alloc (Nat.le_trans (Nat.le_of_lt hm) hB) _)
 have hcell := hid (show (w.alloc (.cells #[.int .u8 C] 5)).cell? ⟨w.heap.size, 0, none⟩ = some (.int .u8 C) from (At.new w #[.int .u8 C] 5).cell 0)
 clear hck h hrow hh
 go_enter Tryd.func20, Tryd.ntmps20
 go_wp2_with fail
 refine Calls.mono hck'.out ?_
 rintro e w1 ⟨rfl, hw1⟩
 obtain rfl := hw1.symm
 go_wp2_with (at_builtin; refine wpList_append_byte rfl _ _ rfl B v _ _ rfl hrow2.out _ C rfl hcell.out hn (by rw [World.size_alloc]; omega) ?_; intro v' w3 hown3 hg; obtain ⟨so, cc, rfl⟩ := rowY_slice hown3; have a1 : At w3 m #[.pointer (some ⟨m, 0, none⟩), v] 49 := (hg.block m h2.out.lt (fun e => by have := (hrow2.out.lt m e.symm).1; omega)).trans h2.out; have f1 : w3.frozen? ⟨m, 1, none⟩ = false := a1.frozen 1; have d1 : w3.cell? ⟨m, 1, none⟩ = some v := a1.cell 1; have a1' := hid a1; have hown3' := hid hown3; have hg' := hid hg; clear a1 hown3 hg)
 go_ret
 have a2 : At (w3.setCell ⟨m, 1, none⟩ (.slice so (l.length + 1) cc)) m #[.pointer (some ⟨m, 0, none⟩), .slice so (l.length + 1) cc] 49 := by have := a1'.out.set 1 (.slice so (l.length + 1) cc); simpa using this
 refine ⟨rfl, ⟨_, _, a2, .inr rfl, ?_⟩, ?_⟩
 ·have h3 := ownsRow_setCell_below hown3'.out (a := ⟨m, 1, none⟩) hm (.slice so (l.length + 1) cc)
  rw [show (l ++ [k]).length = l.length + 1 by simp, show Lib.byteCells (l ++ [k]) = Lib.byteCells l ++ [.int .u8 C] by rw [hC'.out, Lib.byteCells_append]; rfl]
  exact h3
 ·have h4 : Below m (w.alloc (.cells #[.int .u8 C] 5)) (w3.setCell ⟨m, 1, none⟩ (.slice so (l.length + 1) cc)) := ((Below.refl m _).grown hg'.out (by have := h2.out.lt; omega) (fun b e => by have := (hrow2.out.lt b e).1; omega)).setCell (p := ⟨m, 1, none⟩) (Nat.le_refl _) _
  exact hh'.out.trans (hw2.out.trans h4)
theorem bbyte_calls (m B : Nat) (l : List UInt8) (k : UInt8) (C : Int) (hC : C = (k.toNat : Int)) (hm : m < B) (hn : l.length + 1 ≤ 140737488355328) (w : World) (h : BdI w m B l) (hB : B ≤ w.heap.size) :
  Calls Tryd.prog 20 #[.pointer (some ⟨m, 0, none⟩), .int .u8 C] w fun e w' => e = .returned .nilIface ∧ BdI w' m B (l ++ [k]) ∧ Below m w w' := by
 obtain ⟨p, v, h1, rfl | rfl, h2⟩ := h
 ·have a1 : At (w.setCell ⟨m, 0, none⟩ (.pointer (some ⟨m, 0, none⟩))) m #[.pointer (some ⟨m, 0, none⟩), v] 49 := by have := h1.set 0 (.pointer (some ⟨m, 0, none⟩)); simpa using this
  exact bbyte_used m B v l k C hC hm hn _ w a1 (ownsRow_setCell_below h2 (a := ⟨m, 0, none⟩) hm _) (Nat.le_trans hB (KeepsOthers.setCell w ⟨m, 0, none⟩ (.pointer (some ⟨m, 0, none⟩))).1) (bcheck_fresh m v w h1) ((Below.refl m w).setCell (p := ⟨m, 0, none⟩) (Nat.le_refl _) _)
 ·exact bbyte_used m B v l k C hC hm hn w w h1 h2 hB (bcheck_used m v w h1) (Below.refl _ _)
/-- WriteString, with what it keeps. -/
theorem bstr_calls (m B : Nat) (l : List UInt8) (s : ByteArray) (hm : m < B) (hn : l.length + s.size ≤ 140737488355328) (w : World) (h : BdI w m B l) (hB : B ≤ w.heap.size) :
  Calls Tryd.prog 21 #[.pointer (some ⟨m, 0, none⟩), .string s] w fun e w' => e = .returned (.tuple #[.int .i64 (s.size : Int), .nilIface]) ∧ BdI w' m B (l ++ s.data.toList) ∧ Below m w w' := by
 refine (bwrite_calls m B l s hm hn w h hB).mono ?_
 rintro e w' ⟨rfl, h1, h2⟩
 exact ⟨rfl, h1, (h2 m (m + 1) (m + 1) (Nat.le_refl _) (Nat.lt_succ_self _) (Nat.succ_ne_self _)).1⟩
end Go.Proofs.YtjlcliicdclooaaDoor

/-
  The library's contract of internal/stringslite.Index at one byte is laid at this program.
-/
namespace Go.Proofs
open Go.Shelf
def Tryd.lays219_ren : Go.Shelf.Ren := ⟨fun | 219 => 61 | 217 => 74 | 225 => 75 | 224 => 76 | 267 => 77 | 266 => 92 | 314 => 93 | n => n, fun | 9 => 9 | 3 => 3 | 4 => 4 | 5 => 5 | 46 => 101 | 146 => 125 | 51 => 124 | n => n, fun | 1 => 2 | n => n⟩
theorem Tryd.lays219 : Go.Proofs.Lays.n219 Tryd.prog Tryd.lays219_ren := {
  mixed := by kernel_rfl
  f217 := Tryd.func74.trans (congrArg some (by kernel_rfl))
  f219 := Tryd.func61.trans (congrArg some (by kernel_rfl))
  f224 := Tryd.func76.trans (congrArg some (by kernel_rfl))
  f225 := Tryd.func75.trans (congrArg some (by kernel_rfl))
  f266 := Tryd.func92.trans (congrArg some (by kernel_rfl))
  f267 := Tryd.func77.trans (congrArg some (by kernel_rfl))
  f314 := Tryd.func93.trans (congrArg some (by kernel_rfl))
  t3 := Tryd.underlying3
  a3 := Tryd.isAgg3
  z3 := Tryd.sizeOf3
  v3 := Tryd.zeroValue3
  t4 := Tryd.underlying4
  a4 := Tryd.isAgg4
  z4 := Tryd.sizeOf4
  v4 := Tryd.zeroValue4
  t5 := Tryd.underlying5
  a5 := Tryd.isAgg5
  z5 := Tryd.sizeOf5
  v5 := Tryd.zeroValue5
  t9 := Tryd.underlying9
  a9 := Tryd.isAgg9
  z9 := Tryd.sizeOf9
  v9 := Tryd.zeroValue9
  t46 := Tryd.underlying101
  a46 := Tryd.isAgg101
  z46 := Tryd.sizeOf101
  v46 := Tryd.zeroValue101
  t51 := Tryd.underlying124
  a51 := Tryd.isAgg124
  z51 := Tryd.sizeOf124
  v51 := Tryd.zeroValue124
  t146 := Tryd.underlying125
  a146 := Tryd.isAgg125
  z146 := Tryd.sizeOf125
  v146 := Tryd.zeroValue125
  g1 := by kernel_rfl }
end Go.Proofs

/-
 strings.Cut at a ~; what a raw name means, by the program: tilde, meant.
-/
namespace Go.Proofs.YtjlcliicdclooaaDoor
open Go.RowKit Go.Shelf
/-- The text of these bytes. -/
def mkL (l : List UInt8) : ByteArray := ⟨l.toArray⟩
theorem mkL_data (s : ByteArray) : mkL s.data.toList = s := by unfold mkL; simp
theorem mkL_size (l : List UInt8) : (mkL l).size = l.length := by show l.toArray.size = _; simp
theorem data_mkL (l : List UInt8) : (mkL l).data.toList = l := by unfold mkL; simp
theorem mkL_ext (l : List UInt8) (a b : Nat) : (mkL l).extract a b = mkL ((l.drop a).take (b - a)) := by
 apply ByteArray.ext
 apply Array.toList_inj.1
 rw [ByteArray.data_extract, Array.toList_extract]
 rfl
theorem lk_mkL (l : List UInt8) (i : Nat) (x : UInt8) (h : l[i]? = some x) : lk (mkL l) i = x.toNat := by
 have hi : i < l.length := (List.getElem?_eq_some_iff.1 h).1
 rw [lk_at _ i (by rw [mkL_size]; exact hi)]
 congr 1
 have h2 := (List.getElem?_eq_some_iff.1 h).2
 exact h2
theorem idx_no : ∀ (l : List UInt8) (c : UInt8), (∀ x ∈ l, x ≠ c) → Lib.indexByte l c = -1
 | [], _, _ => rfl
 | b :: l, c, h => by
  have h1 : (b == c) = false := beq_eq_false_iff_ne.2 (h b (by simp))
  have h2 := idx_no l c (fun x hx => h x (by simp [hx]))
  unfold Lib.indexByte
  rw [h1, h2]
  rfl
theorem idx_yes : ∀ (a : List UInt8) (c : UInt8) (r : List UInt8), (∀ x ∈ a, x ≠ c) → Lib.indexByte (a ++ c :: r) c = (a.length : Int)
 | [], c, r, _ => by
  show Lib.indexByte (c :: r) c = 0
  unfold Lib.indexByte
  rw [beq_self_eq_true]
  rfl
 | b :: a, c, r, h => by
  have h1 : (b == c) = false := beq_eq_false_iff_ne.2 (h b (by simp))
  have h2 := idx_yes a c r (fun x hx => h x (by simp [hx]))
  rw [List.cons_append]
  unfold Lib.indexByte
  rw [h1, h2]
  have h3 : ((a.length : Int) == -1) = false := beq_eq_false_iff_ne.2 (by omega)
  rw [h3]
  simp
/-- Every list has no ~, or a first one. -/
theorem first_til : ∀ l : List UInt8, (∀ x ∈ l, x ≠ 126) ∨ ∃ a r, l = a ++ 126 :: r ∧ ∀ x ∈ a, x ≠ 126
 | [] => .inl (fun x h => by simp at h)
 | b :: l => by
  by_cases hb : b = 126
  ·exact .inr ⟨[], l, by simp [hb], fun x h => by simp at h⟩
  ·rcases first_til l with h | ⟨a, r, rfl, h⟩
   ·exact .inl (fun x hx => by
     simp at hx
     rcases hx with rfl | hx
     ·exact hb
     ·exact h x hx)
   ·exact .inr ⟨b :: a, r, rfl, fun x hx => by
     simp at hx
     rcases hx with rfl | hx
     ·exact hb
     ·exact h x hx⟩
theorem mnL_pre : ∀ (a : List UInt8), (∀ x ∈ a, x ≠ 126) → ∀ t, mnL (a ++ t) = (mnL t).map (a ++ ·)
 | [], _, t => by cases h : mnL t <;> simp [h]
 | b :: a, h, t => by
  rw [List.cons_append, mnL_plain (h b (by simp)), mnL_pre a (fun x hx => h x (by simp [hx])) t]
  cases mnL t <;> rfl
set_option maxRecDepth 10000 in
set_option maxHeartbeats 2000000 in
theorem cutS_no (l : List UInt8) (h : ∀ x ∈ l, x ≠ 126) (w : World) : Calls Tryd.prog 48 #[.string (mkL l), .string ⟨#[126]⟩] w fun e w' => e = .returned (.tuple #[.string (mkL l), .string (mkL []), .bool false]) ∧ w' = w := by
 have c1 := hid (fun u : World => Any.stringslite_Index_one Tryd.lays219 (mkL l) 126 u)
 have hi := idx_no l 126 h
 have hi' : Lib.indexByte (mkL l).data.toList 126 = -1 := by rw [data_mkL]; exact hi
 rw [hi'] at c1
 clear hi hi' h
 obtain ⟨s, hs⟩ : ∃ s, mkL l = s := ⟨_, rfl⟩
 rw [hs] at c1 ⊢
 clear hs
 go_enter Tryd.func48, Tryd.ntmps48
 go_wp2_with fail
 refine Calls.mono (c1.out _) ?_
 rintro e w1 ⟨rfl, rfl⟩
 go_wp2
 go_ret3
 exact ⟨rfl, rfl⟩
set_option maxRecDepth 10000 in
set_option maxHeartbeats 2000000 in
theorem cutS_yes (a r : List UInt8) (hl : (a ++ 126 :: r).length ≤ 4294967296) (h : ∀ x ∈ a, x ≠ 126) (w : World) : Calls Tryd.prog 48 #[.string (mkL (a ++ 126 :: r)), .string ⟨#[126]⟩] w fun e w' => e = .returned (.tuple #[.string (mkL a), .string (mkL r), .bool true]) ∧ Below w.heap.size w w' := by
 have c1 := hid (fun u : World => Any.stringslite_Index_one Tryd.lays219 (mkL (a ++ 126 :: r)) 126 u)
 have hi' : Lib.indexByte (mkL (a ++ 126 :: r)).data.toList 126 = (a.length : Int) := by rw [data_mkL]; exact idx_yes a 126 r h
 rw [hi'] at c1
 clear hi' h
 have e1 : (mkL (a ++ 126 :: r)).extract 0 a.length = mkL a := by rw [mkL_ext]; simp
 have e2 : (mkL (a ++ 126 :: r)).extract (a.length + 1) (mkL (a ++ 126 :: r)).size = mkL r := by
  rw [mkL_ext, mkL_size]
  congr 1
  rw [List.take_of_length_le (by simp; omega)]
  simp
 have hz : (mkL (a ++ 126 :: r)).size = a.length + 1 + r.length := by rw [mkL_size]; simp; omega
 obtain ⟨s, hs⟩ : ∃ s, mkL (a ++ 126 :: r) = s := ⟨_, rfl⟩
 rw [hs] at c1 e1 e2 hz ⊢
 obtain ⟨n, hn⟩ : ∃ n, a.length = n := ⟨_, rfl⟩
 rw [hn] at c1 e1 e2 hz
 have e1' := hid e1
 have e2' := hid e2
 have c2 : (n : Int) ≤ (s.size : Int) := by omega
 have c3 : (n : Int) + 1 ≤ (s.size : Int) := by omega
 have c5 : IntKind.i64.wrap ((n : Int) + 1) = (n : Int) + 1 := wrap_small _ (by omega) (by simp at hl; omega)
 have c6 : (0 : Int) ≤ (n : Int) + 1 := by omega
 have c7 : ((n : Int) + 1).toNat = n + 1 := by omega
 have c4 : (s.size : Int) ≤ 4294967296 := by rw [hz]; simp at hl; omega
 clear hs hn e1 e2 hz hl
 go_enter Tryd.func48, Tryd.ntmps48
 go_wp2_with fail
 refine Calls.mono (c1.out _) ?_
 rintro e w1 ⟨rfl, rfl⟩
 go_wp2
 have mixed : Tryd.prog.follows .mixedOrders = true := by kernel_rfl
 go_region_o
 go_wp2
 go_ret3
 exact ⟨by rw [← e1'.out, ← e2'.out]; rfl, (Below.refl _ _).drew⟩
set_option maxRecDepth 10000 in
theorem cutT_no (l : List UInt8) (h : ∀ x ∈ l, x ≠ 126) (w : World) : Calls Tryd.prog 33 #[.string (mkL l), .string ⟨#[126]⟩] w fun e w' => e = .returned (.tuple #[.string (mkL l), .string (mkL []), .bool false]) ∧ Below w.heap.size w w' := by
 have c1 := hid (fun u : World => cutS_no l h u)
 clear h
 go_enter Tryd.func33, Tryd.ntmps33
 go_wp2_with fail
 refine Calls.mono (c1.out _) ?_
 rintro e w1 ⟨rfl, rfl⟩
 go_wp2
 go_ret3
 exact ⟨rfl, Below.refl _ _⟩
set_option maxRecDepth 10000 in
theorem cutT_yes (a r : List UInt8) (hl : (a ++ 126 :: r).length ≤ 4294967296) (h : ∀ x ∈ a, x ≠ 126) (w : World) : Calls Tryd.prog 33 #[.string (mkL (a ++ 126 :: r)), .string ⟨#[126]⟩] w fun e w' => e = .returned (.tuple #[.string (mkL a), .string (mkL r), .bool true]) ∧ Below w.heap.size w w' := by
 have c1 := hid (fun u : World => cutS_yes a r hl h u)
 clear h hl
 obtain ⟨s, hs⟩ : ∃ s, mkL (a ++ 126 :: r) = s := ⟨_, rfl⟩
 rw [hs] at c1 ⊢
 clear hs
 go_enter Tryd.func33, Tryd.ntmps33
 go_wp2_with fail
 refine Calls.mono (c1.out _) ?_
 rintro e w1 ⟨rfl, b1⟩
 have b1' := hid b1
 clear b1
 go_wp2
 go_ret3
 exact ⟨rfl, b1'.out⟩
/-- What a ~ and the byte behind it mean. -/
def tlC : List UInt8 → Nat × Bool
 | [] => (0, false)
 | d :: _ => if d = 49 then (47, true) else if d = 48 then (126, true) else (0, false)
set_option maxRecDepth 10000 in
set_option maxHeartbeats 2000000 in
theorem tilde_calls (l : List UInt8) (w : World) : Calls Tryd.prog 34 #[.string (mkL l)] w fun e w' => e = .returned (.tuple #[.int .u8 ((tlC l).1 : Int), .bool (tlC l).2]) ∧ w' = w := by
 cases l with
 | nil =>
  show Calls Tryd.prog 34 #[.string ByteArray.empty] w _
  go_enter Tryd.func34, Tryd.ntmps34
  go_wp2
  go_ret2
  exact ⟨rfl, rfl⟩
 | cons d t =>
  have hne : ((mkL (d :: t)).toList == []) = false := by
   rw [eq_const, data_mkL]
   exact decide_eq_false (by simp)
  have h0 : 0 < (mkL (d :: t)).size := by rw [mkL_size]; simp
  have hd : ((mkL (d :: t))[0]'h0).toNat = d.toNat := by
   rw [← lk_at _ 0 h0]
   exact lk_mkL (d :: t) 0 d rfl
  have key : (d = 49 ∧ d.toNat = 49) ∨ (d ≠ 49 ∧ d = 48 ∧ d.toNat = 48) ∨ (d ≠ 49 ∧ d ≠ 48 ∧ d.toNat ≠ 49 ∧ d.toNat ≠ 48) := by
   by_cases h1 : d = 49
   ·exact .inl ⟨h1, by rw [h1]; rfl⟩
   ·by_cases h2 : d = 48
    ·exact .inr (.inl ⟨h1, h2, by rw [h2]; rfl⟩)
    ·exact .inr (.inr ⟨h1, h2, fun h => h1 (UInt8.toNat_inj.1 h), fun h => h2 (UInt8.toNat_inj.1 h)⟩)
  generalize mkL (d :: t) = s at hne h0 hd ⊢
  rcases key with ⟨k1, k2⟩ | ⟨k1, k2, k3⟩ | ⟨k1, k2, k3, k4⟩
  ·have ht := hid (show tlC (d :: t) = (47, true) by show (if d = 49 then _ else _) = _; rw [if_pos k1])
   rw [k2] at hd
   clear k1 k2
   go_enter Tryd.func34, Tryd.ntmps34
   go_wp2
   go_ret2
   exact ⟨by rw [ht.out]; rfl, rfl⟩
  ·have ht := hid (show tlC (d :: t) = (126, true) by show (if d = 49 then _ else _) = _; rw [if_neg k1, if_pos k2])
   rw [k3] at hd
   clear k1 k2 k3
   go_enter Tryd.func34, Tryd.ntmps34
   go_wp2
   go_ret2
   exact ⟨by rw [ht.out]; rfl, rfl⟩
  ·have ht := hid (show tlC (d :: t) = (0, false) by show (if d = 49 then _ else _) = _; rw [if_neg k1, if_neg k2])
   have g1 : ((s[0]'h0).toNat : Int) ≠ 49 := by rw [hd]; omega
   have g2 : ((s[0]'h0).toNat : Int) ≠ 48 := by rw [hd]; omega
   clear k1 k2 k3 k4 hd
   go_enter Tryd.func34, Tryd.ntmps34
   go_wp2
   go_ret2
   exact ⟨by rw [ht.out]; rfl, rfl⟩
end Go.Proofs.YtjlcliicdclooaaDoor

/-
 What a raw name means, by the program: meant.
-/
namespace Go.Proofs.YtjlcliicdclooaaDoor
open Go.RowKit Go.Shelf
/-- A builder that is new. -/
theorem BdI.fresh0 (w : World) : BdI (w.alloc (.cells #[.pointer none, .slice none 0 0] 49)) w.heap.size (w.heap.size + 1) [] :=
 ⟨_, _, At.new w _ _, .inl rfl, by simpa [Lib.byteCells] using World.ownsRow_nil (w.alloc (.cells #[.pointer none, .slice none 0 0] 49)) (w.heap.size + 1) 5 1⟩
def szOf : Value → Nat
 | .string s => s.size
 | _ => 0
/-- What is known while a name is read: what stands in the builder, what is left. -/
def MnS (l acc r : List UInt8) (more : Bool) : Prop := (more = true → mnL l = (mnL (126 :: r)).map (acc ++ ·)) ∧ (more = false → mnL l = some acc) ∧ acc.length + r.length ≤ l.length
theorem MnS.start_no {l : List UInt8} (h : ∀ x ∈ l, x ≠ 126) : MnS l l [] false := ⟨fun h => (by cases h), fun _ => by have := mnL_pre l h []; simpa [mnL] using this, by simp⟩
theorem MnS.start_yes {a r : List UInt8} (h : ∀ x ∈ a, x ≠ 126) : MnS (a ++ 126 :: r) a r true := ⟨fun _ => mnL_pre a h _, fun h => (by cases h), by simp⟩
theorem MnS.bad {l acc r : List UInt8} (h : MnS l acc r true) (hr : (tlC r).2 = false) : mnL l = none := by
 rw [h.1 rfl]
 cases r with
 | nil => rw [mnL_none]; rfl
 | cons d t =>
  rw [mnL_til]
  have h1 : d ≠ 49 := fun e => by subst e; simp [tlC] at hr
  have h2 : d ≠ 48 := fun e => by subst e; simp [tlC] at hr
  rw [if_neg h2, if_neg h1]
  rfl
theorem MnS.next {l acc r : List UInt8} (h : MnS l acc r true) (hr : (tlC r).2 = true) : ∃ d t, r = d :: t ∧ (tlC r).1 < 256 ∧ mnL l = (mnL t).map ((acc ++ [UInt8.ofNat (tlC r).1]) ++ ·) := by
 cases r with
 | nil => cases hr
 | cons d t =>
  by_cases h1 : d = 49
  ·subst h1
   refine ⟨49, t, rfl, show (47 : Nat) < 256 by decide, ?_⟩
   rw [h.1 rfl, mnL_til, if_neg (by decide), if_pos rfl]
   show _ = Option.map (fun x => acc ++ [47] ++ x) (mnL t)
   cases mnL t <;> simp
  ·by_cases h2 : d = 48
   ·subst h2
    refine ⟨48, t, rfl, show (126 : Nat) < 256 by decide, ?_⟩
    rw [h.1 rfl, mnL_til, if_pos rfl]
    show _ = Option.map (fun x => acc ++ [126] ++ x) (mnL t)
    cases mnL t <;> simp
   ·exfalso
    simp [tlC, h1, h2] at hr
theorem MnS.go_no {l acc t : List UInt8} (h : mnL l = (mnL t).map (acc ++ ·)) (ht : ∀ x ∈ t, x ≠ 126) (hl : acc.length + t.length ≤ l.length) : MnS l (acc ++ t) [] false :=
 ⟨fun h => (by cases h), fun _ => by rw [h]; have := mnL_pre t ht []; simp [mnL] at this; rw [this]; rfl, by simp; omega⟩
theorem MnS.go_yes {l acc a r : List UInt8} (h : mnL l = (mnL (a ++ 126 :: r)).map (acc ++ ·)) (ht : ∀ x ∈ a, x ≠ 126) (hl : acc.length + (a ++ 126 :: r).length ≤ l.length) : MnS l (acc ++ a) r true :=
 ⟨fun _ => by rw [h, mnL_pre a ht]; cases mnL (126 :: r) <;> simp, fun h => (by cases h), by simp at hl ⊢; omega⟩
/-- Whatever there is to be cut. -/
theorem cutT_any (l : List UInt8) (hl : l.length ≤ 4294967296) : ∃ a r more, Hid (∀ w : World, Calls Tryd.prog 33 #[.string (mkL l), .string ⟨#[126]⟩] w fun e w' => e = .returned (.tuple #[.string (mkL a), .string (mkL r), .bool more]) ∧ Below w.heap.size w w') ∧ Hid (a.length + r.length ≤ l.length) ∧ Hid (MnS l a r more) ∧ Hid (∀ (L acc : List UInt8), mnL L = (mnL l).map (acc ++ ·) → acc.length + l.length ≤ L.length → MnS L (acc ++ a) r more) := by
 rcases first_til l with h | ⟨a, r, rfl, h⟩
 ·exact ⟨l, [], false, hid (fun w => cutT_no l h w), hid (by simp), hid (MnS.start_no h), hid (fun L acc h1 h2 => MnS.go_no h1 h h2)⟩
 ·exact ⟨a, r, true, hid (fun w => cutT_yes a r hl h w), hid (by simp), hid (MnS.start_yes h), hid (fun L acc h1 h2 => MnS.go_yes h1 h h2)⟩
set_option maxRecDepth 10000 in
set_option maxHeartbeats 4000000 in
theorem meant_calls (l : List UInt8) (hl : l.length ≤ 4294967296) (w : World) : Calls Tryd.prog 19 #[.string (mkL l)] w fun e w' => e = .returned (.tuple #[.string (mkL ((mnL l).getD [])), .bool (mnL l).isSome]) ∧ Below w.heap.size w w' := by
 obtain ⟨a, r, more, hc, hz, hm0, -⟩ := cutT_any l hl
 obtain ⟨m, hm⟩ : ∃ m, Hid (w.heap.size = m) := ⟨_, rfl⟩
 have D0 := hid (BdI.fresh0 w)
 have al := hid (show Below w.heap.size w (w.alloc (.cells #[.pointer none, .slice none 0 0] 49)) from (Below.refl _ _).alloc (Nat.le_refl _) _)
 have sz0 := hid (show (w.alloc (.cells #[.pointer none, .slice none 0 0] 49)).heap.size = m + 1 by rw [World.size_alloc, hm.out])
 rw [hm.out] at D0 al
 obtain ⟨s0, hs0⟩ : ∃ s, Hid (mkL l = s) := ⟨_, rfl⟩
 rw [hs0.out] at hc ⊢
 have hl' := hid hl
 clear hl hs0
 go_enter Tryd.func19, Tryd.ntmps19
 go_wp2_with fail
 refine Calls.mono (hc.out _) ?_
 rintro e w1 ⟨rfl, b1⟩
 rw [hm.out]
 have D1 := hid (D0.out.kept b1)
 have B1 := hid (al.out.trans (b1.mono (by rw [sz0.out]; omega)))
 have z1 := hid (Nat.le_trans (Nat.le_of_eq sz0.out.symm) b1.size)
 clear b1 D0 al sz0 hc
 go_wp2_with fail
 refine Calls.mono (bstr_calls m (m + 1) [] (mkL a) (Nat.lt_succ_self _) (by have := hz.out; have := hl'.out; rw [mkL_size]; simp; omega) _ D1.out z1.out) ?_
 rintro e w2 ⟨rfl, d2, b2⟩
 have D2 := hid (show BdI w2 m (m + 1) a by simpa [data_mkL] using d2)
 have B2 := hid (B1.out.trans b2)
 have z2 := hid (Nat.le_trans z1.out b2.size)
 clear d2 b2 D1 B1 z1
 go_wp2
 go_loopw [6, 7] (fun rr mm wr => ∃ (acc r : List UInt8) (more : Bool), rr = .string (mkL r) ∧ mm = .bool more ∧ Hid (MnS l acc r more) ∧ Hid (BdI wr m (m + 1) acc) ∧ Hid (Below m w wr) ∧ Hid (m + 1 ≤ wr.heap.size)) (fun rr _ _ => szOf rr)
 case atStart => exact ⟨a, r, more, rfl, rfl, hm0, D2, B2, z2⟩
 case round =>
  clear D2 B2 z2 hm0 hz
  obtain ⟨acc, r, more, rfl, rfl, hM, hD, hB, hz⟩ := hrel
  cases more with
  | false =>
   have hv := hid (hM.out.2.1 rfl)
   go_wp2_with fail
   refine Calls.mono (bstring_calls m (m + 1) m acc _ hD.out (Nat.le_succ _) hz.out) ?_
   rintro e w3 ⟨rfl, b3, -⟩
   have B3 := hid (hB.out.trans b3)
   clear b3
   go_wp2
   go_ret2
   exact ⟨by rw [hv.out]; rfl, by rw [hm.out]; exact B3.out⟩
  | true =>
   have ct := hid (fun u : World => tilde_calls r u)
   cases hok : (tlC r).2 with
   | false =>
    have hv := hid (hM.out.bad hok)
    rw [hok] at ct
    obtain ⟨c, hc⟩ : ∃ c, (tlC r).1 = c := ⟨_, rfl⟩
    rw [hc] at ct
    clear hok hc
    go_wp2_with fail
    refine Calls.mono (ct.out _) ?_
    rintro e w3 ⟨rfl, rfl⟩
    go_wp2
    go_ret2
    exact ⟨by rw [hv.out]; rfl, by rw [hm.out]; exact hB.out⟩
   | true =>
    obtain ⟨d, t, hr, hc256, hmn⟩ := hM.out.next hok
    have hlen := hM.out.2.2
    rw [hok] at ct
    obtain ⟨c, hc⟩ : ∃ c, (tlC r).1 = c := ⟨_, rfl⟩
    rw [hc] at ct hc256 hmn
    have hll := hl'.out
    have hrl : r.length = t.length + 1 := by rw [hr]; rfl
    obtain ⟨a', r', more', hcc, hz', -, hgo⟩ := cutT_any t (by omega)
    have e1 : (mkL r).extract 1 (mkL r).size = mkL t := by
     rw [mkL_ext, mkL_size, hr]
     congr 1
     simp
    have e1' := hid e1
    have hS := hid (hgo.out l _ hmn (by simp; omega))
    have hs1 : 1 ≤ (mkL r).size := by rw [mkL_size]; omega
    have hsr := hid (show (mkL r').size < (mkL r).size by rw [mkL_size, mkL_size]; have := hz'.out; omega)
    have hla := hid (show acc.length + 1 + (mkL a').size ≤ 140737488355328 by rw [mkL_size]; have := hz'.out; omega)
    rw [← e1] at hcc
    obtain ⟨s, hs⟩ : ∃ s, mkL r = s := ⟨_, rfl⟩
    rw [hs] at ct hcc hs1 hsr ⊢
    clear hok hc e1 e1' hs hr hmn hlen hll hrl hgo hM hz'
    go_wp2_with fail
    refine Calls.mono (ct.out _) ?_
    rintro e w3 ⟨rfl, rfl⟩
    go_wp2_with fail
    refine Calls.mono (bbyte_calls m (m + 1) acc (UInt8.ofNat c) (c : Int) (by simp [UInt8.toNat_ofNat']; omega) (Nat.lt_succ_self _) (by have := hla.out; omega) _ hD.out hz.out) ?_
    rintro e w4 ⟨rfl, d4, b4⟩
    have D4 := hid d4
    have B4 := hid (hB.out.trans b4)
    have z4 := hid (Nat.le_trans hz.out b4.size)
    clear d4 b4 hD hB hz
    go_wp2_with fail
    refine Calls.mono (hcc.out _) ?_
    rintro e w5 ⟨rfl, b5⟩
    have D5 := hid (D4.out.kept b5)
    have B5 := hid (B4.out.trans (b5.mono (by have := z4.out; omega)))
    have z5 := hid (Nat.le_trans z4.out b5.size)
    clear b5 D4 B4 z4
    go_wp2_with fail
    refine Calls.mono (bstr_calls m (m + 1) (acc ++ [UInt8.ofNat c]) (mkL a') (Nat.lt_succ_self _) (by have := hla.out; simp; omega) _ D5.out z5.out) ?_
    rintro e w6 ⟨rfl, d6, b6⟩
    have D6 := hid (show BdI w6 m (m + 1) (acc ++ [UInt8.ofNat c] ++ a') by simpa [data_mkL] using d6)
    have B6 := hid (B5.out.trans b6)
    have z6 := hid (Nat.le_trans z5.out b6.size)
    clear d6 b6 D5 B5 z5
    go_wp2
    go_roundw
    case rel => exact ⟨_, r', more', rfl, rfl, hS, D6, B6, z6⟩
    case measure => exact hsr.out
end Go.Proofs.YtjlcliicdclooaaDoor
