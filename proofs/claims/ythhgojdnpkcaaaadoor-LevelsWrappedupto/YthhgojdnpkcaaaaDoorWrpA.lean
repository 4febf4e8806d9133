/-
  What lies in memory while LevelsWrapped goes on.
-/
import Derived.Test.YthhgojdnpkcaaaaDoorLvAwake
import Derived.Test.YthhgojdnpkcaaaaDoorSameLv
import Derived.Test.YthhgojdnpkcaaaaDoorWrapMath
import Derived.Test.YthhgojdnpkcaaaaDoorTellG
import Derived.Test.YthhgojdnpkcaaaaDoorLSteps
import Derived.Test.YthhgojdnpkcaaaaDoorMarksKit
import Derived.Test.YthhgojdnpkcaaaaDoorRoundQuiet
namespace Go.Proofs.YthhgojdnpkcaaaaDoor
open Go.RowKit Go.Shelf

def lvV (A m : Nat) : Value := .slice (some ⟨A, 0, none⟩) m m
/-- The result's variable, the two lists of levels of the text and of the one between brackets. -/
structure WrS (w : World) (s : ByteArray) (m A B A' B' lb wb : Nat) (W : World) : Prop where
  res : At W w.heap.size #[.bool false] 4
  lv : At W lb #[.slice (some ⟨A, 0, none⟩) m m, .slice (some ⟨B, 0, none⟩) m m] 47
  wd : At W wb #[.slice (some ⟨A', 0, none⟩) (m + 1) (m + 1), .slice (some ⟨B', 0, none⟩) (m + 1) (m + 1)] 47
  la : LvAt W A m s.size (fun k => rowOf (lvS 58 s (k + 1)) s.size)
  lc : LvAt W B m s.size (fun k => rowOf (lvS 44 s (k + 1)) s.size)
  wa : LvAt W A' (m + 1) (s.size + 2) (fun k => rowOf (lvS 58 (wrpS s) (k + 1)) (s.size + 2))
  wc : LvAt W B' (m + 1) (s.size + 2) (fun k => rowOf (lvS 44 (wrpS s) (k + 1)) (s.size + 2))
  bel : Below w.heap.size w W
section
variable {w : World} {s : ByteArray} {m A B A' B' lb wb : Nat} {W W' : World}
theorem WrS.kept (h : WrS w s m A B A' B' lb wb W) (hb : Below W.heap.size W W') : WrS w s m A B A' B' lb wb W' :=
  ⟨h.res.keptAll hb, h.lv.keptAll hb, h.wd.keptAll hb, h.la.kept hb, h.lc.kept hb, h.wa.kept hb, h.wc.kept hb, h.bel.trans (hb.mono h.bel.size)⟩
theorem LvAt.ownG {n : Nat} {F : Nat → Nat → Nat} (h : LvAt W A m n F) {row : Option Nat} (hg : W.grownBy W' row) (hr : ∀ r, row = some r → ∃ o : Obj, W.heap[r]? = some o ∧ o.isCells = false) : LvAt W' A m n F :=
  ⟨h.1.own hg hr, fun k hk => (h.2 k hk).own hg hr⟩
theorem WrS.own (h : WrS w s m A B A' B' lb wb W) {b : Nat} (hb : w.heap.size ≤ b) {row : Option Nat} (hg : W.grownBy W' row) (hr : ∀ r, row = some r → b ≤ r ∧ ∃ o : Obj, W.heap[r]? = some o ∧ o.isCells = false) : WrS w s m A B A' B' lb wb W' :=
  ⟨h.res.own hg (fun r e => (hr r e).2), h.lv.own hg (fun r e => (hr r e).2), h.wd.own hg (fun r e => (hr r e).2), h.la.ownG hg (fun r e => (hr r e).2), h.lc.ownG hg (fun r e => (hr r e).2), h.wa.ownG hg (fun r e => (hr r e).2), h.wc.ownG hg (fun r e => (hr r e).2), ownFrom_below (β := List Nat) (Nat.le_refl w.heap.size) hb [] W W' row h.bel hg hr⟩
theorem LvAt.otherC {n : Nat} {F : Nat → Nat → Nat} (h : LvAt W A m n F) {q : Nat} (hq : q < A ∨ A + m < q) (v : Value) : LvAt (W.setCell ⟨q, 0, none⟩ v) A m n F :=
  ⟨h.1.other (by show A ≠ q; omega) v, fun k hk => (h.2 k hk).other (by show A + 1 + k ≠ q; omega) v⟩
/-- A variable that lies elsewhere is turned. -/
theorem WrS.put (h : WrS w s m A B A' B' lb wb W) {q : Nat} (h0 : w.heap.size < q) (h1 : q ≠ lb) (h2 : q ≠ wb) (h3 : q < A ∨ A + m < q) (h4 : q < B ∨ B + m < q) (h5 : q < A' ∨ A' + (m + 1) < q) (h6 : q < B' ∨ B' + (m + 1) < q) (v : Value) : WrS w s m A B A' B' lb wb (W.setCell ⟨q, 0, none⟩ v) :=
  ⟨h.res.other (by show w.heap.size ≠ q; omega) v, h.lv.other (by show lb ≠ q; omega) v, h.wd.other (by show wb ≠ q; omega) v, h.la.otherC h3 v, h.lc.otherC h4 v, h.wa.otherC h5 v, h.wc.otherC h6 v, h.bel.setCell (by show w.heap.size ≤ q; omega) v⟩
/-- All of it lies below a bound. -/
theorem WrS.far (h : WrS w s m A B A' B' lb wb W) : w.heap.size < W.heap.size ∧ lb < W.heap.size ∧ wb < W.heap.size ∧ A + m < W.heap.size ∧ B + m < W.heap.size ∧ A' + (m + 1) < W.heap.size ∧ B' + (m + 1) < W.heap.size := by
  refine ⟨h.res.lt, h.lv.lt, h.wd.lt, ?_, ?_, ?_, ?_⟩
  · rcases Nat.eq_zero_or_pos m with e | e
    · have := h.la.lt.1; omega
    · have := h.la.lt.2 (m - 1) (by omega); omega
  · rcases Nat.eq_zero_or_pos m with e | e
    · have := h.lc.lt.1; omega
    · have := h.lc.lt.2 (m - 1) (by omega); omega
  · have := h.wa.lt.2 m (by omega); omega
  · have := h.wc.lt.2 m (by omega); omega
end
/-- While the levels are compared with those of a build anew. -/
def WrQ (w : World) (s : ByteArray) (m A B A' B' lb wb A2 B2 ab : Nat) (W : World) : Prop :=
  (W.cell? ⟨ab, 0, none⟩ = some (.slice (some ⟨A2, 0, none⟩) (m + 1) (m + 1)) ∧ W.cell? ⟨ab, 1, none⟩ = some (.slice (some ⟨B2, 0, none⟩) (m + 1) (m + 1))) ∧
    WrS w s m A B A' B' lb wb W ∧ At W ab #[.slice (some ⟨A2, 0, none⟩) (m + 1) (m + 1), .slice (some ⟨B2, 0, none⟩) (m + 1) (m + 1)] 47 ∧
    LvAt W A2 (m + 1) s.size (fun k => rowOf (lvS 58 s (k + 1)) s.size) ∧ LvAt W B2 (m + 1) s.size (fun k => rowOf (lvS 44 s (k + 1)) s.size)
section
variable {w : World} {s : ByteArray} {m A B A' B' lb wb A2 B2 ab : Nat} {W W' : World}
theorem WrQ.mk' (h1 : WrS w s m A B A' B' lb wb W) (h2 : At W ab #[.slice (some ⟨A2, 0, none⟩) (m + 1) (m + 1), .slice (some ⟨B2, 0, none⟩) (m + 1) (m + 1)] 47) (h3 : LvAt W A2 (m + 1) s.size (fun k => rowOf (lvS 58 s (k + 1)) s.size)) (h4 : LvAt W B2 (m + 1) s.size (fun k => rowOf (lvS 44 s (k + 1)) s.size)) : WrQ w s m A B A' B' lb wb A2 B2 ab W :=
  ⟨⟨h2.factsL.1, h2.factsL.2.1⟩, h1, h2, h3, h4⟩
theorem WrQ.kept (h : WrQ w s m A B A' B' lb wb A2 B2 ab W) (hb : Below W.heap.size W W') : WrQ w s m A B A' B' lb wb A2 B2 ab W' :=
  WrQ.mk' (h.2.1.kept hb) (h.2.2.1.keptAll hb) (h.2.2.2.1.kept hb) (h.2.2.2.2.kept hb)
theorem WrQ.cl (h : WrQ w s m A B A' B' lb wb A2 B2 ab W) : W.cell? ⟨ab, 0, none⟩ = some (.slice (some ⟨A2, 0, none⟩) (m + 1) (m + 1)) ∧ W.cell? ⟨ab, 1, none⟩ = some (.slice (some ⟨B2, 0, none⟩) (m + 1) (m + 1)) ∧ WrQ w s m A B A' B' lb wb A2 B2 ab W := ⟨h.1.1, h.1.2, h⟩
theorem WrQ.rg (h : WrQ w s m A B A' B' lb wb A2 B2 ab W) : W.rangeAt lb 0 [.slice (some ⟨A, 0, none⟩) m m, .slice (some ⟨B, 0, none⟩) m m] := h.2.1.lv.range rfl
theorem WrQ.same (h : WrQ w s m A B A' B' lb wb A2 B2 ab W) (hm : m ≤ 63) (hs : s.size ≤ 1048576) :
    Calls Tryd.prog 28 #[.agg #[.slice (some ⟨A, 0, none⟩) m m, .slice (some ⟨B, 0, none⟩) m m], .agg #[.slice (some ⟨A2, 0, none⟩) m (m + 1), .slice (some ⟨B2, 0, none⟩) m (m + 1)]] W fun e w' => e = .returned (.bool true) ∧ Below W.heap.size W w' :=
  sameLv_calls m s.size (by omega) (by omega) _ _ _ _ m m (m + 1) (m + 1) _ _ W (h.2.1.la.rd (fun k j => rowOf_lt _ _ _)) (h.2.1.lc.rd (fun k j => rowOf_lt _ _ _)) ((h.2.2.2.1.rd (fun k j => rowOf_lt _ _ _)).le (Nat.le_succ m)) ((h.2.2.2.2.rd (fun k j => rowOf_lt _ _ _)).le (Nat.le_succ m))
end
set_option maxRecDepth 10000 in
theorem pickW_calls (i : Int) (M : Nat) (hM : 0 < M) (hM2 : M ≤ 4611686018427387904) (w : World) :
    Calls Tryd.prog 26 #[.int .i64 i, .int .i64 (M : Int)] w fun e w' => (∃ I : Nat, I < M ∧ e = .returned (.int .i64 (I : Int))) ∧ w' = w := by
  obtain ⟨r, hr⟩ : ∃ r, Hid (i.tmod (M : Int) = r) := ⟨_, rfl⟩
  have hne : ((M : Int) == 0) = false := by simp; omega
  have hr2 : -(M : Int) < r ∧ r < (M : Int) := by
    rw [← hr.out]
    refine ⟨?_, Int.tmod_lt_of_pos i (by omega)⟩
    have h1 := Int.tmod_lt_of_pos (-i) (show (0 : Int) < (M : Int) by omega)
    rw [Int.neg_tmod] at h1
    omega
  have hrm : i.tmod (M : Int) = r := hr.out
  go_enter Tryd.func26, Tryd.ntmps26
  by_cases h0 : r < 0
  · go_wp2
    go_ret
    exact ⟨⟨(r + M).toNat, by omega, by rw [show (((r + M).toNat : Nat) : Int) = r + M by omega]; rfl⟩, rfl⟩
  · go_wp2
    go_ret
    exact ⟨⟨r.toNat, by omega, by rw [show ((r.toNat : Nat) : Int) = r by omega]; rfl⟩, rfl⟩
theorem slice_pre (A m : Nat) (u : World) : (Instr.sliceAt 45 (.slice (some ⟨A, 0, none⟩) (m + 1) (m + 1)) none (some (.int .i64 (m : Int))) none).run Tryd.prog u = .ok (.slice (some ⟨A, 0, none⟩) m (m + 1)) u := by
  go_simp
  intro h
  omega
/-- How deep it is ahead of what begins next, as long as nothing was closed that wasn't open. -/
def LowR (s : ByteArray) (n : Nat) (L : Nat) : Prop := L = depS s (ipl s n) ∧ ∀ i, i < ipl s n → brC s i = true → 1 ≤ depS s i
theorem begW_brC {s : ByteArray} {i : Nat} (h : brC s i = true) : begS s i = true := by
  unfold brC at h
  rw [Bool.and_eq_true] at h
  rw [beg_sgn (sgn_cl h.2)]; exact h.1
theorem LowR.zero (s : ByteArray) : LowR s 0 0 := ⟨(ipl_dep0 s).symm, fun i hi hc => by
  have := begW_brC hc
  rw [ipl_zero hi] at this
  cases this⟩
theorem LowR.next {s : ByteArray} {n q L : Nat} (h : LowR s n L) (hq : (idxS s)[n]? = some q) (hc : clB (byteAt s q) = true → 1 ≤ L) : LowR s (n + 1) (stepD (opB (byteAt s q)) (clB (byteAt s q)) L) := by
  obtain ⟨h1, h2⟩ := h
  rw [ipl_at hq] at h1 h2
  refine ⟨by rw [ipl_dep hq, h1], fun i hi hb => ?_⟩
  rcases Nat.lt_trichotomy i q with h3 | h3 | h3
  · exact h2 i h3 hb
  · subst h3
    rw [← h1]
    refine hc ?_
    unfold brC at hb
    rw [Bool.and_eq_true] at hb
    exact hb.2
  · have := begW_brC hb
    rw [ipl_next hq h3 hi] at this
    cases this
theorem LowR.all {s : ByteArray} {n L : Nat} (h : LowR s n L) (hn : (idxS s).length ≤ n) : NoLow s ∧ L = depS s s.size := by
  obtain ⟨h1, h2⟩ := h
  rw [ipl_end hn] at h1 h2
  exact ⟨h2, h1⟩
/-- The number that the variable in slot 15 holds. -/
def kOf (a : Act) (W : World) : Nat := (intOf ((match a.tmps.getD 15 undef with | .pointer (some p) => W.cell? p | _ => none).getD undef)).toNat
/-- Between two rounds over the levels: U is the heap's size when they began. -/
structure WrL (w : World) (s : ByteArray) (m A B A' B' lb wb U kb j : Nat) (ds : List Deferred) (W : World) : Prop where
  base : WrS w s m A B A' B' lb wb W
  far : w.heap.size < U ∧ lb < U ∧ wb < U ∧ A + m < U ∧ B + m < U ∧ A' + (m + 1) < U ∧ B' + (m + 1) < U
  kv : At W kb #[.int .i64 (j : Int)] 3
  ku : U ≤ kb
  mks : Marks U W.heap.size ds W
  wu : U ≤ W.heap.size
theorem WrS.close {w : World} {s : ByteArray} {m A B A' B' lb wb : Nat} {W : World} (_ : WrS w s m A B A' B' lb wb W) (hn : NoLow s) (hb : behindS s false = false) (ho : openS s = false) {c : Int} (hc : IsCls (wrpS s) 0 c) : c = if depS s s.size = 0 then (s.size : Int) + 1 else -1 := by
  have h := hc.uniq (wrp_close hn hb ho)
  rw [h]
  split
  · push_cast; rfl
  · rfl
theorem wrp_depN {s : ByteArray} (hn : NoLow s) : depN (wrpS s) ((s.size : Int) + 1) = depS s s.size + 1 := by
  have h : ((s.size : Int) + 1) = ((s.size + 1 : Nat) : Int) := by omega
  rw [h, depN_at (by rw [wrp_size]; omega), show s.size + 1 = 1 + s.size by omega]
  exact wrp_dep hn s.size (Nat.le_refl _)
theorem marks_low {B B' : Nat} {W : World} : ∀ {ds : List Deferred} {U : Nat}, Marks B U ds W → B' ≤ B → Marks B' U ds W
  | [], _, _, _ => trivial
  | _ :: _, _, ⟨D, h1, h2, h3, h4, h5⟩, h => ⟨D, h1, by omega, h3, h4, marks_low h5 h⟩
/-- What is left when the result is laid. -/
def WrR (w : World) (_ : Unit) (W : World) : Prop := At W w.heap.size #[.bool true] 4 ∧ Below w.heap.size w W
theorem wrR_own {w : World} {b : Nat} (hb : w.heap.size ≤ b) : OwnFrom b (WrR w) := fun _ Y Z row ⟨h1, h2⟩ hg hr => ⟨h1.own hg (fun r e => (hr r e).2), ownFrom_below (β := List Nat) (Nat.le_refl w.heap.size) hb [] Y Z row h2 hg hr⟩
theorem WrS.done {w : World} {s : ByteArray} {m A B A' B' lb wb : Nat} {W : World} (h : WrS w s m A B A' B' lb wb W) : WrR w () (W.setCell ⟨w.heap.size, 0, none⟩ (.bool true)) :=
  ⟨by have := h.res.set 0 (.bool true); simpa using this, h.bel.setCell (Nat.le_refl _) _⟩
theorem WrS.r0 {w : World} {s : ByteArray} {m A B A' B' lb wb : Nat} {W : World} (h : WrS w s m A B A' B' lb wb W) : W.cell? ⟨w.heap.size, 0, none⟩ = some (.bool false) ∧ W.frozen? ⟨w.heap.size, 0, none⟩ = false := ⟨h.res.cell 0, h.res.frozen 0⟩
end Go.Proofs.YthhgojdnpkcaaaaDoor
