/-
  The walk of quarrylaw08.MarksJoins.
-/
import Derived.Test.YthakingpeegagaaDoorAwake8
import Derived.Test.YthakingpeegagaaDoorJoinM
import Derived.Test.YthakingpeegagaaDoorMkWords2
import Derived.Test.YthakingpeegagaaDoorPack1
import Derived.Test.YthakingpeegagaaDoorRoundQuiet
namespace Go.Proofs.YthakingpeegagaaDoor
open Go.RowKit Go.Shelf

attribute [local go_sem] Oper.semAt_some

theorem cellJ {w w' : World} {a : Addr} {v : Value} (h : w.cell? a = some v) (hb : Below w.heap.size w w') : w'.cell? a = some v := (hb.cell (by
  rcases Nat.lt_or_ge a.block w.heap.size with h1 | h1
  · exact h1
  · rw [World.cell?, Array.getElem?_eq_none h1] at h
    cases h)).trans h
theorem wp_append_rowI {o : Oper} {a : Act} {w w' : World} {K : Act → World → Prop} {Q : Exit → Act → World → Prop} {x y : Operand} {v v' u : Value} (ho : o.op = .call { callee := .builtin .append, args := #[x, y], argTypes := #[27, 27] }) (hx : a.eval x = v) (hy : a.eval y = u)
    (hr : (Builtin.append_ #[27, 27] o.type #[v, u]).run Tryd.prog w = .ok v' w') (h : K (a.put o.dst v') w') : o.wp Tryd.prog a w K Q := by
  unfold Oper.wp execOp
  simp only [ho, resolve, invoke, builtin, Sem.run_bind, Sem.run_pure, Result.andThen_ok, List.map_toArray, List.map_cons, List.map_nil, hx, hy, hr]
  exact h
theorem wrapJ {i n : Nat} (h : i < n) (hn : n ≤ 1048576) : wrap64 ((i : Int) + 1) = ((i + 1 : Nat) : Int) := by unfold wrap64; omega
theorem measJ {i n : Nat} (h : i < n) : n - (i + 1) < n - i := by omega
/-- Between two rounds of the range. -/
def JnI (wL : World) (s : ByteArray) (r : Nat) (W : World) : Prop := At W wL.heap.size #[.bool (lrS s r)] 4 ∧ Below wL.heap.size wL W ∧ wL.heap.size + 1 ≤ W.heap.size
theorem jnI_free {wL : World} {s : ByteArray} {B : Nat} (hB : wL.heap.size + 1 ≤ B) : FreeFrom B (JnI wL s) := fun t X Z row hs hg hr => by
  obtain ⟨h1, h2, h3⟩ := hs
  exact ⟨h1.free (by omega) hg hr, below_free h2 (by omega) h2.size hg hr, Nat.le_trans h3 hg.size⟩
/-- The frame in which a round's body begins. -/
def JnA (m : Nat) (s : ByteArray) (fr : Nat → Nat → Nat → Act) (x : Nat) (a' : Act) (W : World) : Prop :=
  ∃ gx A C : Nat, Hid (((trT s).getD (2 * x) 0, (trT s).getD (2 * x + 1) 0) = (A, C)) ∧ m + 1 ≤ gx ∧ At W gx #[.int .i64 (A : Int), .int .i64 (C : Int)] 34 ∧ a' = fr gx A C
theorem jnI_kept {wL : World} {s : ByteArray} {r : Nat} {X Z : World} (h : JnI wL s r X) (hb : Below X.heap.size X Z) : JnI wL s r Z := ⟨h.1.keptAll hb, h.2.1.trans (hb.mono h.2.1.size), Nat.le_trans h.2.2 hb.size⟩
end Go.Proofs.YthakingpeegagaaDoor
