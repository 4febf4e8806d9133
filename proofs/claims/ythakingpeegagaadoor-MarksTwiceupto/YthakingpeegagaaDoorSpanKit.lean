/-
  What the walk of quarrylaw07.QuotesSpans leans on: counts within and between the spans; its variables.
-/
import Derived.Test.YthakingpeegagaaDoorQuoC
import Derived.Test.YthakingpeegagaaDoorRowVar
namespace Go.Proofs.YthakingpeegagaaDoor
open Go.RowKit Go.Shelf

theorem cnt_none {G : Nat → Bool} {n f t : Nat} (h : ∀ i, f ≤ i → i < t → i < n → G i = false) : cntIn (rowOf G n) n (f : Int) (t : Int) = 0 := by
  unfold cntIn
  rw [Int.toNat_natCast, Int.toNat_natCast]
  by_cases hft : min f n ≤ min t n
  · rw [cntB_same hft (fun i h1 h2 => by rw [rowOf_bit, h i (by omega) (by omega) (by omega)]; simp), Nat.sub_self]
  · have := cntB_mono (rowOf G n) (show min t n ≤ min f n by omega)
    omega
theorem cnt_all {G : Nat → Bool} {n f t : Nat} (hft : f ≤ t) (htn : t ≤ n) (h : ∀ i, f ≤ i → i < t → G i = true) : cntIn (rowOf G n) n (f : Int) (t : Int) = t - f := by
  unfold cntIn
  rw [Int.toNat_natCast, Int.toNat_natCast, Nat.min_eq_left htn, Nat.min_eq_left (by omega)]
  obtain ⟨d, rfl⟩ : ∃ d, t = f + d := ⟨t - f, by omega⟩
  have key : ∀ e, e ≤ d → cntB (rowOf G n) (f + e) = cntB (rowOf G n) f + e := by
    intro e
    induction e with
    | zero => intro _; rfl
    | succ e ih =>
      intro he
      rw [← Nat.add_assoc, cntB_succ, ih (by omega), rowOf_bit, decide_eq_true (by omega), h (f + e) (by omega) (by omega)]
      simp
      omega
  rw [key d (Nat.le_refl _)]
  omega
/-- Behind the third region: the two rows. -/
def SpB (w : World) (s : ByteArray) (b1 b2 g1 g2 : Nat) (W : World) : Prop := RV W b1 g1 s.size (markS s) ∧ RV W b2 g2 s.size (inS s) ∧ w.heap.size + 2 ≤ b1 ∧ w.heap.size + 2 ≤ b2 ∧ w.heap.size + 2 ≤ g1 ∧ w.heap.size + 2 ≤ g2 ∧ At W w.heap.size #[.string s] 9 ∧ At W (w.heap.size + 1) #[.bool false] 4 ∧ Below w.heap.size w W
section
variable {w W Z : World} {s : ByteArray} {b1 b2 g1 g2 : Nat}
theorem SpB.kept (h : SpB w s b1 b2 g1 g2 W) (hb : Below W.heap.size W Z) : SpB w s b1 b2 g1 g2 Z := by
  obtain ⟨h1, h2, h3, h4, h5, h6, h7, h8, h9⟩ := h
  exact ⟨h1.kept hb, h2.kept hb, h3, h4, h5, h6, h7.keptAll hb, h8.keptAll hb, h9.trans (hb.mono h9.size)⟩
theorem SpB.own (h : SpB w s b1 b2 g1 g2 W) {B : Nat} (hB : w.heap.size ≤ B) {row : Option Nat} (hg : W.grownBy Z row) (hr : ∀ r, row = some r → B ≤ r ∧ ∃ o : Obj, W.heap[r]? = some o ∧ o.isCells = false) : SpB w s b1 b2 g1 g2 Z := by
  obtain ⟨h1, h2, h3, h4, h5, h6, h7, h8, h9⟩ := h
  have hr' := fun r e => (hr r e).2
  exact ⟨h1.own hg hr', h2.own hg hr', h3, h4, h5, h6, h7.own hg hr', h8.own hg hr', ownFrom_below (β := List Nat) (Nat.le_refl _) hB [] W Z row h9 hg hr⟩
theorem SpB.other (h : SpB w s b1 b2 g1 g2 W) {p : Addr} (d1 : b1 ≠ p.block) (d2 : b2 ≠ p.block) (d3 : g1 ≠ p.block) (d4 : g2 ≠ p.block) (d5 : w.heap.size + 2 ≤ p.block) (v : Value) : SpB w s b1 b2 g1 g2 (W.setCell p v) := by
  obtain ⟨h1, h2, h3, h4, h5, h6, h7, h8, h9⟩ := h
  exact ⟨h1.other d1 d3 v, h2.other d2 d4 v, h3, h4, h5, h6, h7.other (by omega) v, h8.other (by omega) v, h9.setCell (by omega) v⟩
theorem SpB.m (h : SpB w s b1 b2 g1 g2 W) : RV W b1 g1 s.size (markS s) := h.1
theorem SpB.i (h : SpB w s b1 b2 g1 g2 W) : RV W b2 g2 s.size (inS s) := h.2.1
theorem SpB.txt (h : SpB w s b1 b2 g1 g2 W) : At W w.heap.size #[.string s] 9 := h.2.2.2.2.2.2.1
theorem SpB.r (h : SpB w s b1 b2 g1 g2 W) : At W (w.heap.size + 1) #[.bool false] 4 := h.2.2.2.2.2.2.2.1
theorem SpB.b (h : SpB w s b1 b2 g1 g2 W) : Below w.heap.size w W := h.2.2.2.2.2.2.2.2
theorem SpB.lt (h : SpB w s b1 b2 g1 g2 W) : b1 < W.heap.size ∧ b2 < W.heap.size ∧ g1 < W.heap.size ∧ g2 < W.heap.size := ⟨h.1.lt.1, h.2.1.lt.1, h.1.lt.2, h.2.1.lt.2⟩
end
/-- Within a round: the rows, the place, the span. -/
def SqC (w : World) (s : ByteArray) (b1 b2 g1 g2 b5 gx f A C : Nat) (W : World) : Prop := SpB w s b1 b2 g1 g2 W ∧ At W b5 #[.int .i64 (f : Int)] 3 ∧ At W gx #[.int .i64 (A : Int), .int .i64 (C : Int)] 34
section
variable {w W Z : World} {s : ByteArray} {b1 b2 g1 g2 b5 gx f A C : Nat}
theorem SqC.kept (h : SqC w s b1 b2 g1 g2 b5 gx f A C W) (hb : Below W.heap.size W Z) : SqC w s b1 b2 g1 g2 b5 gx f A C Z := ⟨h.1.kept hb, h.2.1.keptAll hb, h.2.2.keptAll hb⟩
theorem SqC.cells (h : SqC w s b1 b2 g1 g2 b5 gx f A C W) : (W.cell? ⟨b5, 0, none⟩ = some (.int .i64 (f : Int)) ∧ W.cell? ⟨gx, 0, none⟩ = some (.int .i64 (A : Int)) ∧ W.cell? ⟨gx, 1, none⟩ = some (.int .i64 (C : Int)) ∧ W.cell? ⟨w.heap.size, 0, none⟩ = some (.string s)) ∧ SqC w s b1 b2 g1 g2 b5 gx f A C W :=
  ⟨⟨h.2.1.cell 0, h.2.2.cell 0, h.2.2.cell 1, h.1.txt.cell 0⟩, h⟩
theorem SqC.m (h : SqC w s b1 b2 g1 g2 b5 gx f A C W) : RV W b1 g1 s.size (markS s) := h.1.m
theorem SqC.i (h : SqC w s b1 b2 g1 g2 b5 gx f A C W) : RV W b2 g2 s.size (inS s) := h.1.i
end
theorem sqw_mk {w W X : World} {s : ByteArray} {b1 b2 g1 g2 b5 gx f A C : Nat} (h : SqC w s b1 b2 g1 g2 b5 gx f A C X ∧ Below W.heap.size W X) : (X.drew.cell? ⟨b5, 0, none⟩ = some (.int .i64 (f : Int)) ∧ X.drew.cell? ⟨gx, 0, none⟩ = some (.int .i64 (A : Int)) ∧ X.drew.cell? ⟨gx, 1, none⟩ = some (.int .i64 (C : Int)) ∧ X.drew.cell? ⟨w.heap.size, 0, none⟩ = some (.string s)) ∧ (SqC w s b1 b2 g1 g2 b5 gx f A C X.drew ∧ Below W.heap.size W X.drew) :=
  ⟨(h.1.kept (Below.refl _ _).drew).cells.1, h.1.kept (Below.refl _ _).drew, h.2.drew⟩
theorem sqw_kept {w W X Z : World} {s : ByteArray} {b1 b2 g1 g2 b5 gx f A C : Nat} (h : (X.cell? ⟨b5, 0, none⟩ = some (.int .i64 (f : Int)) ∧ X.cell? ⟨gx, 0, none⟩ = some (.int .i64 (A : Int)) ∧ X.cell? ⟨gx, 1, none⟩ = some (.int .i64 (C : Int)) ∧ X.cell? ⟨w.heap.size, 0, none⟩ = some (.string s)) ∧ (SqC w s b1 b2 g1 g2 b5 gx f A C X ∧ Below W.heap.size W X)) (hb : Below X.heap.size X Z) :
    (Z.cell? ⟨b5, 0, none⟩ = some (.int .i64 (f : Int)) ∧ Z.cell? ⟨gx, 0, none⟩ = some (.int .i64 (A : Int)) ∧ Z.cell? ⟨gx, 1, none⟩ = some (.int .i64 (C : Int)) ∧ Z.cell? ⟨w.heap.size, 0, none⟩ = some (.string s)) ∧ (SqC w s b1 b2 g1 g2 b5 gx f A C Z ∧ Below W.heap.size W Z) :=
  ⟨(h.2.1.kept hb).cells.1, h.2.1.kept hb, h.2.2.trans (hb.mono h.2.2.size)⟩
/-- Between two rounds. -/
def SqI (w : World) (s : ByteArray) (b1 b2 g1 g2 b5 : Nat) (r : Nat) (W : World) : Prop := ∃ f : Nat, Hid (SpAt s r f) ∧ SpB w s b1 b2 g1 g2 W ∧ At W b5 #[.int .i64 (f : Int)] 3
theorem sqI_own {w : World} {s : ByteArray} {b1 b2 g1 g2 b5 B : Nat} (hB : w.heap.size ≤ B) : OwnFrom B (SqI w s b1 b2 g1 g2 b5) := fun t X Z row hs hg hr => by
  obtain ⟨f, h1, h2, h3⟩ := hs
  exact ⟨f, h1, h2.own hB hg hr, h3.own hg (fun r e => (hr r e).2)⟩
theorem sqI_kept {w : World} {s : ByteArray} {b1 b2 g1 g2 b5 r : Nat} {X Z : World} (h : SqI w s b1 b2 g1 g2 b5 r X) (hb : Below X.heap.size X Z) : SqI w s b1 b2 g1 g2 b5 r Z := by
  obtain ⟨f, h1, h2, h3⟩ := h
  exact ⟨f, h1, h2.kept hb, h3.keptAll hb⟩
end Go.Proofs.YthakingpeegagaaDoor
