/-
  What the variables of quarrylaw03.WordsRuns hold, and what keeps it.
-/
import Derived.Test.YtkoillfkillohaaDoorRunsWalk
namespace Go.Proofs.YtkoillfkillohaaDoor
open Go.RowKit Go.Shelf

/-- The variables: k, the result, the two lists (v, u, in blocks from w.heap.size + 2 on and below G), the sequence over x, and n. -/
structure RunsSt (w : World) (x : Nat) (k : Int) (v u : Value) (G b8 : Nat) (n : Int) (W : World) : Prop where
  a0 : At W w.heap.size #[.int .i64 k] 3
  a1 : At W (w.heap.size + 1) #[.bool false] 4
  a5 : At W G #[v] 28
  a6 : At W (G + 1) #[u] 28
  ax : At W (G + 1 + 1) #[.int .u64 (x : Int)] 22
  a7 : At W (G + 1 + 1 + 1) #[seqR (G + 1 + 1)] 37
  a8 : At W b8 #[.int .i64 n] 3
  ls : Lst W v (w.heap.size + 1 + 1) G (starts x)
  lm : Lst W u (w.heap.size + 1 + 1) G ((starts x).map (runLen x))
  tb : Tab W
  bl : Below w.heap.size w W

section
variable {w : World} {x : Nat} {k : Int} {v u : Value} {G b8 : Nat} {n : Int} {W W' : World}
theorem RunsSt.kept (h : RunsSt w x k v u G b8 n W) (h0 : 0 < w.heap.size) (hb : Below W.heap.size W W') : RunsSt w x k v u G b8 n W' :=
  ⟨h.a0.keptAll hb, h.a1.keptAll hb, h.a5.keptAll hb, h.a6.keptAll hb, h.ax.keptAll hb, h.a7.keptAll hb, h.a8.keptAll hb, h.ls.kept hb (Nat.le_of_lt h.a5.lt), h.lm.kept hb (Nat.le_of_lt h.a5.lt), h.tb.below hb (Nat.lt_of_lt_of_le h0 h.bl.size), h.bl.trans (hb.mono h.bl.size)⟩
theorem RunsSt.own (h : RunsSt w x k v u G b8 n W) (h0 : 0 < w.heap.size) {D : Nat} (hD : w.heap.size ≤ D) {row : Option Nat} (hg : W.grownBy W' row) (hr : ∀ r, row = some r → D ≤ r ∧ ∃ o : Obj, W.heap[r]? = some o ∧ o.isCells = false) : RunsSt w x k v u G b8 n W' :=
  have hr' := fun r e => (hr r e).2
  ⟨h.a0.own hg hr', h.a1.own hg hr', h.a5.own hg hr', h.a6.own hg hr', h.ax.own hg hr', h.a7.own hg hr', h.a8.own hg hr', h.ls.own (Nat.le_of_lt h.a5.lt) hg hr', h.lm.own (Nat.le_of_lt h.a5.lt) hg hr',
    fun j hj => (World.cell?_of_block (w := W) (hg.block 0 (Nat.lt_of_lt_of_le h0 h.bl.size) (fun e => by have := (hr 0 e.symm).1; omega))).trans (h.tb j hj), ownFrom_below (β := List Nat) (Nat.le_refl _) hD [] W W' row h.bl hg hr⟩
theorem RunsSt.put (h : RunsSt w x k v u G b8 n W) (h0 : 0 < w.heap.size) (hG : w.heap.size + 1 + 1 ≤ G) (h8 : G + 1 + 1 + 1 < b8) (m : Int) : RunsSt w x k v u G b8 m (W.setCell ⟨b8, 0, none⟩ (.int .i64 m)) :=
  ⟨h.a0.other (p := ⟨b8, 0, none⟩) (by show w.heap.size ≠ b8; omega) _, h.a1.other (p := ⟨b8, 0, none⟩) (by show w.heap.size + 1 ≠ b8; omega) _, h.a5.other (p := ⟨b8, 0, none⟩) (by show G ≠ b8; omega) _, h.a6.other (p := ⟨b8, 0, none⟩) (by show G + 1 ≠ b8; omega) _, h.ax.other (p := ⟨b8, 0, none⟩) (by show G + 1 + 1 ≠ b8; omega) _,
    h.a7.other (p := ⟨b8, 0, none⟩) (by show G + 1 + 1 + 1 ≠ b8; omega) _, h.a8.set 0 _, h.ls.other (.inr (by omega)) _, h.lm.other (.inr (by omega)) _, fun j hj => (World.cell?_of_block (w := W) (Below.heap_setCell W ⟨b8, 0, none⟩ _ 0 (by show (0 : Nat) ≠ b8; omega))).trans (h.tb j hj),
    h.bl.setCell (p := ⟨b8, 0, none⟩) (by show w.heap.size ≤ b8; omega) _⟩
end
end Go.Proofs.YtkoillfkillohaaDoor
