/-
  Texts of mine that others lean on, one behind the other.
-/
import Derived.Test.YtkejlejhnnjdkaaGreatDoorPack3
import Derived.Test.YtkejlejhnnjdkaaGreatDoorPack1
import Derived.Laws.AppendOwn
import Derived.ArgAppend
import Derived.RangeFuncBox
import Derived.Test.YtkejlejhnnjdkaaGreatDoorPack2
/-
 PartA, PartB, PartC, PartD, one behind the other.
-/
/- What marks.kindOf and marks.split answer. -/
namespace Go.Proofs.YtkejlejhnnjdkaaGreatDoor
open Go.RowKit Go.Shelf
/-- What a byte is where it stands outside: 1 structural, 2 a blank, 0 of a word. -/
def kB (x : Nat) : Nat := if x == 123 || x == 125 || x == 91 || x == 93 || x == 58 || x == 44 then 1 else if x == 32 || x == 9 || x == 10 || x == 13 then 2 else 0
def tabM : List Nat := (List.range 128).map kB
/-- The program's table lies in its variable. -/
abbrev TabM (w : World) : Prop := TabAt 1 tabM w
theorem TabM.below {n₀ : Nat} {w w' : World} (h : TabM w) (hb : Below n₀ w w') (h0 : 1 < n₀) : TabM w' := fun j hj => (hb.cell (p := ⟨1, j, none⟩) h0).trans (h j hj)
end Go.Proofs.YtkejlejhnnjdkaaGreatDoor
/- What marks.sides answers. -/
namespace Go.Proofs.YtkejlejhnnjdkaaGreatDoor
open Go.RowKit Go.Shelf
end Go.Proofs.YtkejlejhnnjdkaaGreatDoor
/- What marks.parts answers. -/
namespace Go.Proofs.YtkejlejhnnjdkaaGreatDoor
open Go.RowKit Go.Shelf
attribute [local go_sem] Oper.semAt_some
/-! The words of a part. -/
end Go.Proofs.YtkejlejhnnjdkaaGreatDoor
/- What marks.parts answers. -/
namespace Go.Proofs.YtkejlejhnnjdkaaGreatDoor
open Go.RowKit Go.Shelf
attribute [local go_sem] Oper.semAt_some
section
variable {w : World} {s : ByteArray} {K b B : Nat} {o1 o2 : Option Addr}
end
end Go.Proofs.YtkejlejhnnjdkaaGreatDoor

/-
 Rows of truths that are made.
-/
namespace Go.Proofs.YtkejlejhnnjdkaaGreatDoor
open Go.RowKit
/-- The truths as cells. -/
def boolCells (K : Nat) (G : Nat → Bool) : Array Value := ((List.range K).map fun j => Value.bool (G j)).toArray
theorem boolCells_size (K : Nat) (G : Nat → Bool) : (boolCells K G).size = K := by simp [boolCells]
theorem boolCells_get {K j : Nat} (G : Nat → Bool) (h : j < K) : (boolCells K G)[j]? = some (.bool (G j)) := by simp [boolCells, h]
theorem boolCells_set (K j : Nat) (x : Bool) (G : Nat → Bool) : (boolCells K G).setIfInBounds j (.bool x) = boolCells K (fun i => if i = j then x else G i) := by
 apply Array.ext_getElem?
 intro i
 by_cases hi : i < K
 ·rw [boolCells_get _ hi]
  by_cases hij : i = j
  ·subst hij
   rw [Array.getElem?_setIfInBounds_self_of_lt (by rw [boolCells_size]; exact hi)]
   simp
  ·rw [Array.getElem?_setIfInBounds_ne (by omega), boolCells_get _ hi]
   simp [hij]
 ·rw [Array.getElem?_eq_none (by simp [boolCells_size]; omega), Array.getElem?_eq_none (by rw [boolCells_size]; omega)]
theorem boolCells_congr {K : Nat} {G G' : Nat → Bool} (h : ∀ j, j < K → G j = G' j) : boolCells K G = boolCells K G' := by
 unfold boolCells
 congr 1
 apply List.map_congr_left
 intro j hj
 rw [h j (by simpa using hj)]
theorem boolCells_zero (K : Nat) : madeCells #[.bool false] K = boolCells K (fun _ => false) := by
 apply Array.ext_getElem?
 intro i
 by_cases hi : i < K
 ·rw [boolCells_get _ hi]
  simp [madeCells, hi, Nat.mod_one]
 ·rw [Array.getElem?_eq_none (by simp [madeCells]; omega), Array.getElem?_eq_none (by rw [boolCells_size]; omega)]
theorem infoB : (Tryz.prog.info? 4).map (fun i => (i.zero, i.size, i.bytes)) = some (some (.bool false), 1, 1) := by kernel_rfl
end Go.Proofs.YtkejlejhnnjdkaaGreatDoor

/-
 What quarryref07.Marks, Inside, Open and Control answer.
-/
namespace Go.Proofs.YtkejlejhnnjdkaaGreatDoor
open Go.RowKit
theorem make_bools47 (K : Nat) (hK : K ≤ 140737488351232) (u : World) : (Instr.makeSlice 80 (.int .i64 (K : Int)) (.int .i64 (K : Int))).run Tryz.prog u =
  .ok (.slice (some ⟨u.heap.size, 0, none⟩) K K) (u.alloc (.cells (boolCells K (fun _ => false)) 4)) := by
 obtain ⟨i0, hi, hz0, hz1, hz2⟩ := info_parts infoB
 have h := run_make (P := Tryz.prog) u 80 4 i0 (.bool false) Tryz.underlying80 hi hz0 .i64 .i64 (K : Int) (K : Int) (by omega) (Int.le_refl _) (by rw [hz2]; omega) (by omega)
 rw [Int.toNat_natCast] at h
 rw [h, ← boolCells_zero]
 simp [hz1, Value.cells]
set_option maxRecDepth 10000 in
set_option maxHeartbeats 2000000 in
theorem marks7_calls (s : ByteArray) (hs : s.size ≤ 140737488351232) (w : World) :
  Calls Tryz.prog 117 #[.string s] w fun e w' => ∃ g, w.heap.size ≤ g ∧ e = .returned (.slice (some ⟨g, 0, none⟩) s.size s.size) ∧ At w' g (boolCells s.size (markS s)) 4 ∧ Below w.heap.size w w' := by
 have hmk := fun u => make_bools47 s.size hs u
 go_enter Tryz.func117, Tryz.ntmps117
 go_wp2
 go_loopw [4, 5] (fun ee ii wr => ∃ i : Nat, i ≤ s.size ∧ ii = .int .i64 (i : Int) ∧ ee = .bool (escS s i) ∧ At wr w.heap.size (boolCells s.size (fun j => if j < i then markS s j else false)) 4 ∧ Below w.heap.size w wr) (fun _ ii _ => s.size - (intOf ii).toNat)
 case atStart =>
  refine ⟨0, Nat.zero_le _, rfl, rfl, ?_, by repeat (first | with_reducible exact Below.refl _ _ | with_reducible refine Below.setCell ?_ (by first | (simp; done) | (simp; omega)) _ | with_reducible refine below_drewN ?_ _ | with_reducible refine Below.alloc ?_ (by first | (simp; done) | (simp; omega)) _ | with_reducible refine Below.drew ?_)⟩
  rw [show boolCells s.size (fun j => if j < 0 then markS s j else false) = boolCells s.size (fun _ => false) from boolCells_congr (fun j _ => by rw [if_neg (by omega)])]
  exact At.new w _ _
 case round =>
  obtain ⟨i, hi, rfl, rfl, hA, hb⟩ := hrel
  by_cases hlt : i < s.size
  ·have hli : (i : Int) < (s.size : Int) := by omega
   obtain ⟨x, hxe⟩ : ∃ x, s[i].toNat = x := ⟨_, rfl⟩
   have h34 := quoB_at s i hlt
   have h92 := slash_at s i hlt
   rw [hxe] at h34 h92
   obtain ⟨c, hc⟩ : ∃ c, Hid (escS s i = c) := ⟨_, rfl⟩
   have hnx : Hid (escS s (i + 1) = (decide (x = 92) && !c)) := by show _ = _; rw [escS, escG_succ, h92]; rw [← hc.out]; rfl
   have hmk' : Hid (markS s i = (decide (x = 34) && !c)) := by show _ = _; rw [markS, h34, hc.out]
   rw [hc.out]
   have hcell := hA.cell i
   rw [boolCells_get _ hlt] at hcell
   have hfr := hA.frozen i
   have hA' := hid hA
   clear hmk h34 h92 hA
   have fin : Hid (∀ m, markS s i = m → At (wr.setCell ⟨w.heap.size, i, none⟩ (.bool m)) w.heap.size (boolCells s.size (fun j => if j < i + 1 then markS s j else false)) 4) := fun m hm => by
    have h := hA'.out.set i (.bool m)
    rw [boolCells_set] at h
    rw [show boolCells s.size (fun j => if j < i + 1 then markS s j else false) = boolCells s.size (fun j => if j = i then m else if j < i then markS s j else false) from boolCells_congr (fun j _ => by
     by_cases hj : j = i
     ·rw [if_pos (by omega), if_pos hj, hj, hm]
     ·rw [if_neg hj]
      by_cases hl : j < i
      ·rw [if_pos (by omega), if_pos hl]
      ·rw [if_neg (by omega), if_neg hl])]
    exact h
   clear hA'
   by_cases x34 : x = 34
   ·subst x34
    go_wp2
    go_roundw
    case rel => exact ⟨i + 1, by omega, by simp, by rw [hnx.out]; simp, fin.out _ (by rw [hmk'.out]; simp), hb.setCell (p := ⟨w.heap.size, i, none⟩) (Nat.le_refl _) _⟩
    case measure => simp [intOf]; omega
   ·have hx34 : ((x : Int) == 34) = false := by simp; omega
    by_cases x92 : x = 92
    ·subst x92
     go_wp2
     go_roundw
     case rel => exact ⟨i + 1, by omega, by simp, by rw [hnx.out]; simp, fin.out _ (by rw [hmk'.out]; simp), hb.setCell (p := ⟨w.heap.size, i, none⟩) (Nat.le_refl _) _⟩
     case measure => simp [intOf]; omega
    ·have hx92 : ((x : Int) == 92) = false := by simp; omega
     go_wp2
     go_roundw
     case rel => exact ⟨i + 1, by omega, by simp, by rw [hnx.out]; simp [x92], fin.out _ (by rw [hmk'.out]; simp [x34]), hb.setCell (p := ⟨w.heap.size, i, none⟩) (Nat.le_refl _) _⟩
     case measure => simp [intOf]; omega
  ·obtain rfl : i = s.size := by omega
   have hA' := hid hA
   clear hmk hA
   go_wp2
   go_ret
   refine ⟨_, Nat.le_refl _, rfl, ?_, hb⟩
   rw [show boolCells s.size (markS s) = boolCells s.size (fun j => if j < s.size then markS s j else false) from boolCells_congr (fun j hj => by rw [if_pos hj])]
   exact hA'.out
set_option maxRecDepth 10000 in
set_option maxHeartbeats 2000000 in
theorem inside7_calls (s : ByteArray) (hs : s.size ≤ 140737488351232) (w : World) :
  Calls Tryz.prog 118 #[.string s] w fun e w' => ∃ g, w.heap.size ≤ g ∧ e = .returned (.slice (some ⟨g, 0, none⟩) s.size s.size) ∧ At w' g (boolCells s.size (inS s)) 4 ∧ Below w.heap.size w w' := by
 go_enter Tryz.func118, Tryz.ntmps118
 go_wp2_with fail
 refine Calls.mono (marks7_calls s hs w) ?_
 rintro e w1 ⟨g, hg, rfl, hA, hb⟩
 go_wp2
 go_loopw [4, 5] (fun ee ii wr => ∃ i : Nat, i ≤ s.size ∧ ii = .int .i64 (i : Int) ∧ ee = .bool (oddG (markS s) i) ∧ At wr g (boolCells s.size (fun j => if j < i then inS s j else markS s j)) 4 ∧ Below w.heap.size w wr) (fun _ ii _ => s.size - (intOf ii).toNat)
 case atStart =>
  refine ⟨0, Nat.zero_le _, rfl, rfl, ?_, hb⟩
  rw [show boolCells s.size (fun j => if j < 0 then inS s j else markS s j) = boolCells s.size (markS s) from boolCells_congr (fun j _ => by rw [if_neg (by omega)])]
  exact hA
 case round =>
  obtain ⟨i, hi, rfl, rfl, hAi, hbi⟩ := hrel
  clear hA hb
  by_cases hlt : i < s.size
  ·have hli : (i : Int) < (s.size : Int) := by omega
   obtain ⟨c, hc⟩ : ∃ c, Hid (oddG (markS s) i = c) := ⟨_, rfl⟩
   obtain ⟨m, hm⟩ : ∃ m, Hid (markS s i = m) := ⟨_, rfl⟩
   have hnx : Hid (oddG (markS s) (i + 1) = (c ^^ m)) := by show _ = _; rw [oddG_succ, hc.out, hm.out]
   rw [hc.out]
   have hcell := hAi.cell i
   rw [boolCells_get _ hlt, if_neg (Nat.lt_irrefl _), hm.out] at hcell
   have hfr := hAi.frozen i
   have fin : Hid (∀ b, oddG (markS s) (i + 1) = b → At (wr.setCell ⟨g, i, none⟩ (.bool b)) g (boolCells s.size (fun j => if j < i + 1 then inS s j else markS s j)) 4) := fun b hb => by
    have h := hAi.set i (.bool b)
    rw [boolCells_set] at h
    rw [show boolCells s.size (fun j => if j < i + 1 then inS s j else markS s j) = boolCells s.size (fun j => if j = i then b else if j < i then inS s j else markS s j) from boolCells_congr (fun j _ => by
     by_cases hj : j = i
     ·rw [if_pos (by omega), if_pos hj, hj]; exact hb
     ·rw [if_neg hj]
      by_cases hl : j < i
      ·rw [if_pos (by omega), if_pos hl]
      ·rw [if_neg (by omega), if_neg hl])]
    exact h
   clear hAi
   cases m with
   | false =>
    go_wp2
    go_roundw
    case rel => exact ⟨i + 1, by omega, by simp, by rw [hnx.out]; simp, fin.out _ (by rw [hnx.out]; simp), hbi.setCell (p := ⟨g, i, none⟩) hg _⟩
    case measure => simp [intOf]; omega
   | true =>
    go_wp2
    go_roundw
    case rel => exact ⟨i + 1, by omega, by simp, by rw [hnx.out]; simp, fin.out _ (by rw [hnx.out]; simp), hbi.setCell (p := ⟨g, i, none⟩) hg _⟩
    case measure => simp [intOf]; omega
  ·obtain rfl : i = s.size := by omega
   have hA' := hid hAi
   clear hAi
   go_wp2
   go_ret
   refine ⟨g, hg, rfl, ?_, hbi⟩
   rw [show boolCells s.size (inS s) = boolCells s.size (fun j => if j < s.size then inS s j else markS s j) from boolCells_congr (fun j hj => by rw [if_pos hj])]
   exact hA'.out
end Go.Proofs.YtkejlejhnnjdkaaGreatDoor

/-
 HeldKit2, LstKit, AppendApart, one behind the other.
-/
/- A range over an iterator whose caller has a row of its own that grows while the rounds go on: which blocks are not that row is told by a word 'Safe'. -/
namespace Go.Proofs.YtkejlejhnnjdkaaGreatDoor
open Go.RowKit Go.Shelf
/-- What a round must leave alone: all below n0; of what lies from B on, and of block Bx, what is no cells, and the cells that are safe; they stay safe. -/
def HeldS (Safe : Nat → World → Prop) (n0 B Bx : Nat) (W W' : World) : Prop := Below n0 W W' ∧ W.heap.size ≤ W'.heap.size ∧ (∀ k o, B ≤ k → o.isCells = false → W.heap[k]? = some o → W'.heap[k]? = some o) ∧
 ∀ b cs t, (B ≤ b ∨ b = Bx) → Safe b W → At W b cs t → At W' b cs t ∧ Safe b W'
theorem HeldS.trans {Safe : Nat → World → Prop} {n0 B Bx : Nat} {X Y Z : World} (h : HeldS Safe n0 B Bx X Y) (k : HeldS Safe n0 B Bx Y Z) : HeldS Safe n0 B Bx X Z :=
 ⟨h.1.trans k.1, Nat.le_trans h.2.1 k.2.1, fun i o hi hc ho => k.2.2.1 i o hi hc (h.2.2.1 i o hi hc ho), fun b cs t hb hs ha => let ⟨h1, h2⟩ := h.2.2.2 b cs t hb hs ha; k.2.2.2 b cs t hb h2 h1⟩
theorem HeldS.from {Safe : Nat → World → Prop} {n0 B Bx : Nat} {W W' : World} (h : HeldS Safe n0 B Bx W W') {D : Nat} (hD : B ≤ D) : KeepsFrom D W W' := ⟨h.2.1, fun k o hk ho hc => h.2.2.1 k o (by omega) hc ho⟩
theorem Held.safe {n0 B Bx : Nat} {W W' : World} (h : Held n0 B Bx W W') : HeldS (fun _ _ => True) n0 B Bx W W' := ⟨h.1, h.2.1, fun k o hk _ ho => h.2.2 k o (.inl hk) ho, fun b _ _ hb _ ha => ⟨h.2.2 b _ hb ha, trivial⟩⟩
end Go.Proofs.YtkejlejhnnjdkaaGreatDoor
/- A list of numbers that a call has made: what is read of it, and what keeps it. -/
namespace Go.Proofs.YtkejlejhnnjdkaaGreatDoor
open Go.RowKit Go.Shelf
/-- The numbers as cells. -/
def ints (L : List Nat) : List Value := L.map fun p => .int .i64 ((p : Nat) : Int)
theorem ints_snoc (L : List Nat) (p : Nat) : ints (L ++ [p]) = ints L ++ [.int .i64 ((p : Nat) : Int)] := by simp [ints]
/-- The slice v is of just these numbers; they lie in a block from B on and below G. -/
def Lst (W : World) (v : Value) (B G : Nat) (L : List Nat) : Prop :=
 ∃ (ao : Option Addr) (cap : Nat), v = .slice ao L.length cap ∧ ∀ j p, L[j]? = some p → ∃ g, ao = some ⟨g, 0, none⟩ ∧ B ≤ g ∧ g < G ∧ W.cell? ⟨g, j, none⟩ = some (.int .i64 ((p : Nat) : Int))
theorem Lst.of {W W' : World} {v : Value} {B G : Nat} {L : List Nat} (h : Lst W v B G L) (hh : ∀ g, B ≤ g → g < G → (∃ o, W.heap[g]? = some o ∧ o.isCells = true) → W'.heap[g]? = W.heap[g]?) : Lst W' v B G L := by
 obtain ⟨ao, cap, hv, hc⟩ := h
 refine ⟨ao, cap, hv, fun j p hj => ?_⟩
 obtain ⟨g, h1, h2, h3, h4⟩ := hc j p hj
 have hcell : ∃ o, W.heap[g]? = some o ∧ o.isCells = true := by
  unfold World.cell? at h4
  cases ho : W.heap[g]? with
  | none => simp [ho] at h4
  | some o => exact ⟨o, rfl, by cases o <;> simp_all [Obj.isCells]⟩
 refine ⟨g, h1, h2, h3, ?_⟩
 rw [← h4]
 simp only [World.cell?, hh g h2 h3 hcell]
theorem Lst.kept {W W' : World} {v : Value} {B G n : Nat} {L : List Nat} (h : Lst W v B G L) (hb : Below n W W') (hn : G ≤ n) : Lst W' v B G L := h.of fun g _ hg _ => hb.block g (by omega)
theorem Lst.other {W : World} {v : Value} {B G : Nat} {L : List Nat} (h : Lst W v B G L) {b : Nat} (hb : b < B ∨ G ≤ b) (u : Value) : Lst (W.setCell ⟨b, 0, none⟩ u) v B G L :=
 h.of fun g h1 h2 _ => Below.heap_setCell W ⟨b, 0, none⟩ u g (by show g ≠ b; omega)
theorem Lst.own {W W' : World} {v : Value} {B G : Nat} {L : List Nat} (h : Lst W v B G L) (hG : G ≤ W.heap.size) {row : Option Nat} (hg : W.grownBy W' row) (hr : ∀ r, row = some r → ∃ o : Obj, W.heap[r]? = some o ∧ o.isCells = false) : Lst W' v B G L :=
 h.of fun g _ h2 ⟨o, ho, hc⟩ => hg.block g (by omega) (fun e => by
  obtain ⟨o', ho', hc'⟩ := hr g e.symm
  rw [ho] at ho'; cases ho'; rw [hc] at hc'; cases hc')
theorem lst_of_row {W : World} {v : Value} {B : Nat} {L : List Nat} (h : W.ownsRow B 3 1 v L.length (ints L)) : Lst W v B W.heap.size L := by
 have hlt := h.lt
 rcases h.2 with ⟨rfl, h0⟩ | ⟨g, cap, cur, rfl, hb, hgb, h3⟩
 ·refine ⟨none, 0, by rw [h0], fun j p hj => ?_⟩
  rw [List.length_eq_zero_iff.1 h0] at hj
  simp at hj
 ·refine ⟨_, cap, rfl, fun j p hj => ⟨g, rfl, hb, (hlt g rfl).2, ?_⟩⟩
  have := h.cells (g := g) rfl j (.int .i64 ((p : Nat) : Int)) (by simp [ints, hj])
  rwa [show (⟨g, 0, none⟩ : Addr).add j = ⟨g, j, none⟩ by by_cases h : j = 0 <;> simp [Addr.add, h]] at this
end Go.Proofs.YtkejlejhnnjdkaaGreatDoor
/- An append to a row of numbers: its row is the same block, or a new one; in a fence; a variable that gathers numbers while rounds go on. -/
namespace Go.Proofs.YtkejlejhnnjdkaaGreatDoor
open Go.RowKit Go.Shelf
/-- Variable m's row isn't block b. -/
def SafeI (m b : Nat) (W : World) : Prop := ∃ v, At W m #[v] 57 ∧ v.ownBlock ≠ some b
/-- Variable m gathers these numbers; their row lies from B on. -/
def GathI (W : World) (m B : Nat) (L : List Nat) : Prop := ∃ v, At W m #[v] 57 ∧ W.ownsRow B 3 1 v L.length (ints L)
section
variable {W W' : World} {m B : Nat} {L : List Nat}
theorem rowI_block {v : Value} {n : Nat} {xs : List Value} (h : W.ownsRow B 3 1 v n xs) : v.ownBlock = none ∨ ∃ g cur, v.ownBlock = some g ∧ B ≤ g ∧ W.heap[g]? = some (.cells cur 3 (0, 0)) := by
 rcases h.2 with ⟨rfl, _⟩ | ⟨g, cap, cur, rfl, hb, hgb, _⟩
 ·exact .inl rfl
 ·exact .inr ⟨g, cur, rfl, hb, hgb⟩
theorem GathI.kept (h : GathI W m B L) (hb : Below W.heap.size W W') : GathI W' m B L := by
 obtain ⟨v, h1, h2⟩ := h
 refine ⟨v, h1.keptAll hb, h2.kept (grown_of_below hb) ?_⟩
 rcases rowI_block h2 with e | ⟨g, cur, e, _⟩
 ·exact .inl e
 ·exact .inr (by rw [e]; simp)
theorem GathI.own (h : GathI W m B L) {row : Option Nat} (hg : W.grownBy W' row) (hr : ∀ r, row = some r → ∃ o : Obj, W.heap[r]? = some o ∧ o.isCells = false) : GathI W' m B L := by
 obtain ⟨v, h1, h2⟩ := h
 refine ⟨v, h1.own hg hr, h2.kept hg ?_⟩
 rcases rowI_block h2 with e | ⟨g, cur, e, _, hgb⟩
 ·exact .inl e
 ·refine .inr fun e' => ?_
  obtain ⟨o, ho, hc⟩ := hr g (by rw [← e', e])
  rw [hgb] at ho
  cases ho
  cases hc
/-- New blocks are not the row; nor is one ahead of B. -/
theorem GathI.good (h : GathI W m B L) {g : Nat} (hg : g < B) : (∀ o, SafeI m W.heap.size (W.alloc o)) ∧ SafeI m g W := by
 obtain ⟨v, h1, h2⟩ := h
 refine ⟨fun o => ⟨v, h1.alloc o, fun e => ?_⟩, v, h1, fun e => ?_⟩
 ·have := (h2.lt _ e).2; omega
 ·have := (h2.lt _ e).1; omega
end
end Go.Proofs.YtkejlejhnnjdkaaGreatDoor

/-
 MkBlanks, RefM, RefM2, MkKind, one behind the other.
-/
/- What marks.Blanks answers. -/
namespace Go.Proofs.YtkejlejhnnjdkaaGreatDoor
open Go.RowKit Go.Shelf
end Go.Proofs.YtkejlejhnnjdkaaGreatDoor
/- What quarryref08.Bytes, begins, Index and Kind answer; what quarryref00.SameInts answers. -/
namespace Go.Proofs.YtkejlejhnnjdkaaGreatDoor
open Go.RowKit Go.Shelf
/-- The list of what the bytes are, as it lies. -/
def KdAt (w : World) (ao : Option Addr) (s : ByteArray) (n : Nat) : Prop := ∀ i, i < n → ∃ g, ao = some ⟨g, 0, none⟩ ∧ g < w.heap.size ∧ w.cell? ⟨g, i, none⟩ = some (.int .i64 ((kdS s i : Nat) : Int))
theorem KdAt.kept {n m : Nat} {w w' : World} {ao : Option Addr} {s : ByteArray} (h : KdAt w ao s n) (hm : w.heap.size ≤ m) (hb : Below m w w') : KdAt w' ao s n := fun i hi => by
 obtain ⟨g, h1, h2, h3⟩ := h i hi
 exact ⟨g, h1, Nat.lt_of_lt_of_le h2 hb.size, (hb.cell (p := ⟨g, i, none⟩) (by show g < m; omega)).trans h3⟩
end Go.Proofs.YtkejlejhnnjdkaaGreatDoor
/- What quarryref08.Index and Kind answer; what quarryref00.SameInts answers. -/
namespace Go.Proofs.YtkejlejhnnjdkaaGreatDoor
open Go.RowKit Go.Shelf
end Go.Proofs.YtkejlejhnnjdkaaGreatDoor
/- What marks.Kind answers. -/
namespace Go.Proofs.YtkejlejhnnjdkaaGreatDoor
open Go.RowKit Go.Shelf
end Go.Proofs.YtkejlejhnnjdkaaGreatDoor

/-
 What words.Each tells, number by number; it asks of a round that the table of math/bits stays.
-/
namespace Go.Proofs.YtkejlejhnnjdkaaGreatDoor
open Go.RowKit Go.Shelf
attribute [local go_sem] Oper.semAt_some
/-- The table stays. -/
def KeepTab (W W' : World) : Prop := Tab W → Tab W'
theorem KeepTab.trans {A B C : World} (h1 : KeepTab A B) (h2 : KeepTab B C) : KeepTab A C := fun h => h2 (h1 h)
theorem KeepTab.of_below {n : Nat} {W W' : World} (hb : Below n W W') (h0 : 0 < n) : KeepTab W W' := fun h => h.below hb h0
end Go.Proofs.YtkejlejhnnjdkaaGreatDoor
