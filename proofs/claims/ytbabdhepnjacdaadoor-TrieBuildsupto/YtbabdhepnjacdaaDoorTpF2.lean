/-
 tree.copied: the same value in memory of its own (by gen_tpf2.py).
-/
import Derived.Test.YtbabdhepnjacdaaDoorTpF
import Derived.Test.YtbabdhepnjacdaaDoorPack1
import Derived.Test.YtbabdhepnjacdaaDoorTrO
import Derived.Deep.MidRow
import Derived.Deep.RegionHeld
import Derived.Deep.DeepCutAuto
import Derived.BigQuiet
import Derived.OwnWalk
namespace Go.Proofs.YtbabdhepnjacdaaDoor
open Go.RowKit Go.Shelf
theorem wpList_append_run {ops : Array Oper} {rest : List Oper} {o : Oper} {a : Act} {w : World} {Q : Exit → Act → World → Prop} (hgd : o.guard = none) (s y : Operand) (t : TypeId)
  (ho : o.op = .call { callee := .builtin .append, args := #[s, y], argTypes := #[t, t] }) (v u v' : Value) (w' : World) (hs : a.eval s = v) (hy : a.eval y = u)
  (hr : ∀ ty, (Builtin.append_ #[t, t] ty #[v, u]).run Tryd.prog w = .ok v' w') (h : wpList Tryd.prog ops Q rest (a.put o.dst v') w') : wpList Tryd.prog ops Q (o :: rest) a w := by
 refine wpList_plain hgd fun K hK => ?_
 unfold Oper.wp execOp
 simp only [ho, resolve, invoke, builtin, Sem.run_bind, Sem.run_pure, Result.andThen_ok, List.map_toArray, List.map_cons, List.map_nil, hs, hy, hr]
 exact hK _ _ h
/-- The names' row of its own: none, or a block of just these texts. -/
def KRow (H : Nat) (w : World) (ko : Option Addr) (ks : List ByteArray) : Prop := ks.length = 0 ∨ ∃ (R : Nat) (cs : Array Value), ko = some ⟨R, 0, none⟩ ∧ H ≤ R ∧ At w R cs 9 ∧ ∀ (i : Nat) (s : ByteArray), ks[i]? = some s → cs[i]? = some (.string s)
theorem KRow.keys {H : Nat} {w : World} {ko : Option Addr} {ks : List ByteArray} (h : KRow H w ko ks) (hs : ∀ (i : Nat) (s : ByteArray), ks[i]? = some s → s.size ≤ capT) : KeysOn (fun b => H ≤ b) w ko ks := fun i s hi => by
 rcases h with h | ⟨R, cs, rfl, h1, h2, h3⟩
 ·have := (List.getElem?_eq_some_iff.1 hi).1; omega
 ·exact ⟨hs i s hi, R, 0, rfl, h1, h2.lt, by rw [Nat.zero_add, h2.cell i]; exact h3 i s hi⟩
theorem KRow.kept {H : Nat} {w w' : World} {ko : Option Addr} {ks : List ByteArray} (h : KRow H w ko ks) (hb : Below w.heap.size w w') : KRow H w' ko ks := by
 rcases h with h | ⟨R, cs, h0, h1, h2, h3⟩
 ·exact .inl h
 ·exact .inr ⟨R, cs, h0, h1, h2.keptAll hb, h3⟩
end Go.Proofs.YtbabdhepnjacdaaDoor
