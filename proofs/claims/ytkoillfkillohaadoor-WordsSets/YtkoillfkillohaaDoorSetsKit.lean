/-
  What the variables of quarrylaw03.WordsSets hold, and what keeps it.
-/
import Derived.Test.YtkoillfkillohaaDoorGivesWalk
namespace Go.Proofs.YtkoillfkillohaaDoor
open Go.RowKit Go.Shelf

/-- The variables: k, the result, the list (v, in a block from w.heap.size + 2 on and below G), the sequence over x, and n. -/
structure SetsAt (w : World) (x : Nat) (k : Int) (v : Value) (G b7 : Nat) (n : Int) (W : World) : Prop where
  a0 : At W w.heap.size #[.int .i64 k] 3
  a1 : At W (w.heap.size + 1) #[.bool false] 4
  a5 : At W G #[v] 28
  ax : At W (G + 1) #[.int .u64 (x : Int)] 22
  a6 : At W (G + 1 + 1) #[seqE (G + 1)] 31
  a7 : At W b7 #[.int .i64 n] 3
  ls : Lst W v (w.heap.size + 1 + 1) G (places x)
  tb : Tab W
  bl : Below w.heap.size w W

section
variable {w : World} {x : Nat} {k : Int} {v : Value} {G b7 : Nat} {n : Int} {W W' : World}
theorem SetsAt.kept (h : SetsAt w x k v G b7 n W) (h0 : 0 < w.heap.size) (hb : Below W.heap.size W W') : SetsAt w x k v G b7 n W' :=
  ⟨h.a0.keptAll hb, h.a1.keptAll hb, h.a5.keptAll hb, h.ax.keptAll hb, h.a6.keptAll hb, h.a7.keptAll hb, h.ls.kept hb (Nat.le_of_lt h.a5.lt), h.tb.below hb (Nat.lt_of_lt_of_le h0 h.bl.size), h.bl.trans (hb.mono h.bl.size)⟩
theorem SetsAt.own (h : SetsAt w x k v G b7 n W) (h0 : 0 < w.heap.size) {D : Nat} (hD : w.heap.size ≤ D) {row : Option Nat} (hg : W.grownBy W' row) (hr : ∀ r, row = some r → D ≤ r ∧ ∃ o : Obj, W.heap[r]? = some o ∧ o.isCells = false) : SetsAt w x k v G b7 n W' :=
  have hr' := fun r e => (hr r e).2
  ⟨h.a0.own hg hr', h.a1.own hg hr', h.a5.own hg hr', h.ax.own hg hr', h.a6.own hg hr', h.a7.own hg hr', h.ls.own (Nat.le_of_lt h.a5.lt) hg hr',
    fun j hj => (World.cell?_of_block (w := W) (hg.block 0 (Nat.lt_of_lt_of_le h0 h.bl.size) (fun e => by have := (hr 0 e.symm).1; omega))).trans (h.tb j hj), ownFrom_below (β := List Nat) (Nat.le_refl _) hD [] W W' row h.bl hg hr⟩
theorem SetsAt.put (h : SetsAt w x k v G b7 n W) (h0 : 0 < w.heap.size) (hG : w.heap.size + 1 + 1 ≤ G) (h7 : G + 1 + 1 < b7) (m : Int) : SetsAt w x k v G b7 m (W.setCell ⟨b7, 0, none⟩ (.int .i64 m)) :=
  ⟨h.a0.other (p := ⟨b7, 0, none⟩) (by show w.heap.size ≠ b7; omega) _, h.a1.other (p := ⟨b7, 0, none⟩) (by show w.heap.size + 1 ≠ b7; omega) _, h.a5.other (p := ⟨b7, 0, none⟩) (by show G ≠ b7; omega) _, h.ax.other (p := ⟨b7, 0, none⟩) (by show G + 1 ≠ b7; omega) _,
    h.a6.other (p := ⟨b7, 0, none⟩) (by show G + 1 + 1 ≠ b7; omega) _, h.a7.set 0 _, h.ls.other (.inr (by omega)) _, fun j hj => (World.cell?_of_block (w := W) (Below.heap_setCell W ⟨b7, 0, none⟩ _ 0 (by show (0 : Nat) ≠ b7; omega))).trans (h.tb j hj),
    h.bl.setCell (p := ⟨b7, 0, none⟩) (by show w.heap.size ≤ b7; omega) _⟩
/-- The list's number at the place of the round. -/
theorem SetsAt.num (h : SetsAt w x k v G b7 n W) {pre : List Nat} (hlt : pre.length < (places x).length) :
    ∃ g cap P, v = .slice (some ⟨g, 0, none⟩) (places x).length cap ∧ W.cell? ⟨g, pre.length, none⟩ = some (.int .i64 ((P : Nat) : Int)) ∧ ∀ p, p % 64 ≠ P → ¬ pre ++ [p] <+: places x := by
  obtain ⟨ao, cap, rfl, hc⟩ := h.ls
  have hPe : (places x)[pre.length]? = some ((places x)[pre.length]'hlt) := List.getElem?_eq_getElem _
  obtain ⟨g, rfl, -, hg, hcell⟩ := hc _ _ hPe
  refine ⟨g, cap, _, rfl, hcell, ?_⟩
  rintro p hk ⟨t, ht⟩
  have hP64 := (places_lt (List.mem_of_getElem? hPe)).1
  have e : (places x)[pre.length]? = some p := by rw [← ht]; simp
  rw [hPe] at e
  obtain e := Option.some.inj e
  rw [e] at hk hP64
  exact hk (Nat.mod_eq_of_lt hP64)
end
end Go.Proofs.YtkoillfkillohaaDoor
