/-
  The rounds of LevelsWrapped's ranges: what is kept.
-/
import Derived.Test.YthhgojdnpkcaaaaDoorWrpA
namespace Go.Proofs.YthhgojdnpkcaaaaDoor
open Go.RowKit Go.Shelf

/-- The place that is told at a round. -/
def PlcW (L : List Nat) (r q : Nat) : Prop := q = L.getD r 0
def SafeW (_ : Nat) (_ : World) : Prop := True
theorem safeW_own (m : Nat) : OwnFrom m SafeW := fun _ _ _ _ _ _ _ => trivial
theorem heldW_refl (n0 b g : Nat) (W : World) : HeldS SafeW n0 b g W W := ⟨Below.refl _ _, Nat.le_refl _, fun _ _ _ _ h => h, fun _ _ _ _ _ h => ⟨h, trivial⟩⟩
theorem heldW_below {n0 b g : Nat} {W W' : World} (hb : Below W.heap.size W W') (hn : n0 ≤ W.heap.size) : HeldS SafeW n0 b g W W' :=
  ⟨hb.mono hn, hb.size, fun k _ _ _ h => (hb.block k (Array.getElem?_eq_some_iff.1 h).1).trans h, fun _ _ _ _ _ ha => ⟨ha.keptAll hb, trivial⟩⟩
theorem heldW_set {n0 b g q : Nat} {W : World} (x : Value) (hn : n0 ≤ q) (hq : q < b) (hg : g ≠ q) : HeldS SafeW n0 b g W (W.setCell ⟨q, 0, none⟩ x) := by
  refine ⟨(Below.refl n0 W).setCell (p := ⟨q, 0, none⟩) hn _, (KeepsOthers.setCell W ⟨q, 0, none⟩ x).1, fun k o hk hc ho => (Below.heap_setCell W ⟨q, 0, none⟩ x k (by show k ≠ q; omega)).trans ho, fun c cs t hc hs ha => ?_⟩
  have hcq : c ≠ q := by rcases hc with h | h <;> omega
  exact ⟨ha.other (p := ⟨q, 0, none⟩) hcq x, trivial⟩
theorem heldW_put {n0 b g l : Nat} {W : World} {r r' : Loop} (hn : n0 ≤ l) (hl : l < b) (hg : g ≠ l) (h : W.heap[l]? = some (.loop r)) : HeldS SafeW n0 b g W (W.putObj l (.loop r')) := by
  have oth : ∀ k, k ≠ l → (W.putObj l (.loop r')).heap[k]? = W.heap[k]? := fun k hk => World.putObj_heap_other hk
  have hgr := grownBy_putObj' W l (.loop r')
  refine ⟨(Below.refl n0 W).grown hgr (by have := (Array.getElem?_eq_some_iff.1 h).1; omega) (fun b e => by cases e; exact hn), hgr.size, fun k o hk hc ho => (oth k (by omega)).trans ho, fun c cs t hc hs ha => ?_⟩
  have hcl : c ≠ l := by rcases hc with h | h <;> omega
  exact ⟨(oth c hcl).trans ha, trivial⟩
/-- What is kept beside. -/
structure Beside (vb : Nat) (X : World → Prop) : Prop where
  own : ∀ Y Z row, X Y → Y.grownBy Z row → (∀ r, row = some r → ∃ o : Obj, Y.heap[r]? = some o ∧ o.isCells = false) → X Z
  kept : ∀ Y Z, X Y → Below Y.heap.size Y Z → X Z
  set : ∀ Y v, X Y → X (Y.setCell ⟨vb, 0, none⟩ v)
theorem beside_seq {vb Bl g : Nat} {L : List Nat} (h1 : Bl ≠ vb) (h2 : g ≠ vb) : Beside vb (fun W => SeqB W Bl g L) :=
  ⟨fun _ _ _ h hg hr => h.own hg hr, fun _ _ h hb => h.kept hb, fun _ v h => h.other (p := ⟨vb, 0, none⟩) h1 h2 v⟩
theorem beside_at {vb b : Nat} {cs : Array Value} {t : TypeId} (h1 : b ≠ vb) : Beside vb (fun W => At W b cs t) :=
  ⟨fun _ _ _ h hg hr => h.own hg hr, fun _ _ h hb => h.keptAll hb, fun _ v h => h.other (p := ⟨vb, 0, none⟩) h1 v⟩
/-- Between two rounds of a range: the variable vb holds how many there were. -/
structure WrN (w : World) (s : ByteArray) (m A B A' B' lb wb U kb j Ux : Nat) (ds : List Deferred) (vb Uz : Nat) (X : World → Prop) (r : Nat) (W : World) : Prop where
  base : WrS w s m A B A' B' lb wb W
  kv : At W kb #[.int .i64 (j : Int)] 3
  mks : Marks U Ux ds W
  vv : At W vb #[.int .i64 (r : Int)] 3
  ex : X W
  wu : Uz ≤ W.heap.size
section
variable {w : World} {s : ByteArray} {m A B A' B' lb wb U kb j Ux : Nat} {ds : List Deferred} {vb Uz : Nat} {X : World → Prop} {r : Nat} {W W2 : World}
theorem WrN.own (hX : Beside vb X) {b : Nat} (hb : w.heap.size ≤ b) (hU : Ux ≤ b) : OwnFrom b (WrN w s m A B A' B' lb wb U kb j Ux ds vb Uz X) := fun _ Y Z row h hg hr =>
  ⟨h.base.own hb hg hr, h.kv.own hg (fun r e => (hr r e).2), h.mks.own hg (fun r e => Nat.le_trans hU (hr r e).1), h.vv.own hg (fun r e => (hr r e).2), hX.own Y Z row h.ex hg (fun r e => (hr r e).2), Nat.le_trans h.wu hg.size⟩
theorem WrN.next (h : WrN w s m A B A' B' lb wb U kb j Ux ds vb Uz X r W) (hX : Beside vb X) (hb : Below W.heap.size W W2) (hf : w.heap.size < U ∧ lb < U ∧ wb < U ∧ A + m < U ∧ B + m < U ∧ A' + (m + 1) < U ∧ B' + (m + 1) < U) (hU : U ≤ vb) (hk : vb ≠ kb) (hx : Ux ≤ vb) (hxw : Ux ≤ W.heap.size) :
    WrN w s m A B A' B' lb wb U kb j Ux ds vb Uz X (r + 1) (W2.setCell ⟨vb, 0, none⟩ (.int .i64 ((r : Int) + 1))) := by
  refine ⟨(h.base.kept hb).put (by omega) (by omega) (by omega) (by omega) (by omega) (by omega) (by omega) _, (h.kv.keptAll hb).other (p := ⟨vb, 0, none⟩) (by show kb ≠ vb; omega) _, ?_, ?_, hX.set _ _ (hX.kept _ _ h.ex hb), ?_⟩
  · exact (h.mks.below hb hxw).of (fun D _ h2 _ => Below.heap_setCell W2 ⟨vb, 0, none⟩ _ D (by show D ≠ vb; omega))
  · have := (h.vv.keptAll hb).set 0 (.int .i64 ((r : Int) + 1))
    simpa using this
  · exact Nat.le_trans h.wu (Nat.le_trans hb.size (KeepsOthers.setCell W2 ⟨vb, 0, none⟩ _).1)
theorem WrN.held (_ : WrN w s m A B A' B' lb wb U kb j Ux ds vb Uz X r W) (hb : Below W.heap.size W W2) (hw : w.heap.size ≤ W.heap.size) (hn : w.heap.size ≤ vb) {b g : Nat} (h1 : vb < b) (h2 : g ≠ vb) (v : Value) : HeldS SafeW w.heap.size b g W (W2.setCell ⟨vb, 0, none⟩ v) :=
  (heldW_below hb hw).trans (heldW_set v hn h1 h2)
end
/-- What is at a level of the text is at the next one between the brackets, one place behind. -/
theorem wrp_get {s : ByteArray} (hn : NoLow s) {c j r : Nat} (hr : r < (placesB (rowOf (lvS c s (j + 1)) s.size) s.size).length) {q : Nat} (hq : q = (placesB (rowOf (lvS c s (j + 1)) s.size) s.size).getD r 0) :
    q < s.size ∧ getB (rowOf (lvS c (wrpS s) (j + 1 + 1)) (s.size + 2)) (s.size + 2) ((q : Int) + 1) = true := by
  have hm : q ∈ placesB (rowOf (lvS c s (j + 1)) s.size) s.size := by
    rw [hq, List.getD_eq_getElem?_getD, List.getElem?_eq_getElem hr]
    exact List.getElem_mem hr
  obtain ⟨h1, h2⟩ := placesB_mem hm
  rw [rowOf_bit, decide_eq_true h1, Bool.true_and] at h2
  refine ⟨h1, ?_⟩
  rw [show (q : Int) + 1 = ((q + 1 : Nat) : Int) by omega, getB_nat (by omega), rowOf_bit, decide_eq_true (by omega), Bool.true_and, show q + 1 = 1 + q by omega, wrp_lv hn c (j + 1) q h1]
  exact h2
theorem cntW_all (X : Nat → Nat) (N : Nat) : cntIn X N 0 (N : Int) = cntB X N := by simp [cntIn, cntB]
theorem wrp_cnt {s : ByteArray} (hn : NoLow s) {c j : Nat} (hc : c = 58 ∨ c = 44) : cntIn (rowOf (lvS c (wrpS s) (j + 1 + 1)) (s.size + 2)) (s.size + 2) 0 ((s.size : Int) + 2) = (placesB (rowOf (lvS c s (j + 1)) s.size) s.size).length := by
  have key : ∀ (G : Nat → Bool) (n : Nat), placesB (rowOf G n) n = fl G n := fun G n => by
    unfold placesB fl
    refine List.filter_congr (fun i hi => ?_)
    rw [rowOf_bit, decide_eq_true (List.mem_range.1 hi)]
    rfl
  rw [show (s.size : Int) + 2 = ((s.size + 2 : Nat) : Int) by omega]
  rw [cntW_all, ← placesB_len, key, key]
  exact wrp_fl hn c (j + 1) hc
end Go.Proofs.YthhgojdnpkcaaaaDoor
