/-
  What the variables of quarrylaw04.BitmapEach hold, and what keeps it.
-/
import Derived.Test.YtmbkcnhkbpaagaaDoorToldB
import Derived.Test.YtmbkcnhkbpaagaaDoorCopyBits
import Derived.Test.YtmbkcnhkbpaagaaDoorRefPlaces
import Derived.Test.YtmbkcnhkbpaagaaDoorAwakeWalk
import Derived.Laws.EntriesVeiled
namespace Go.Proofs.YtmbkcnhkbpaagaaDoor
open Go.RowKit Go.Shelf

/-- The variables: k, the result, the list (v, in blocks below G), the sequence. -/
structure EaSt (w : World) (L : List Nat) (k : Int) (v : Value) (G Bl gs Be : Nat) (W : World) : Prop where
  a1 : At W (w.heap.size + 1) #[.int .i64 k] 3
  a2 : At W (w.heap.size + 1 + 1) #[.bool false] 4
  a5 : At W G #[v] 38
  a7 : At W Be #[seqB Bl] 41
  sq : SeqB W Bl gs L
  ls : Lst W v (w.heap.size + 3) G L
  tb : Tab W
  bl : Below w.heap.size w W

section
variable {w : World} {L : List Nat} {k : Int} {v : Value} {G Bl gs Be : Nat} {W W' : World}
theorem EaSt.kept (h : EaSt w L k v G Bl gs Be W) (h0 : 0 < w.heap.size) (hb : Below W.heap.size W W') : EaSt w L k v G Bl gs Be W' :=
  ⟨h.a1.keptAll hb, h.a2.keptAll hb, h.a5.keptAll hb, h.a7.keptAll hb, h.sq.kept hb, h.ls.kept hb (Nat.le_of_lt h.a5.lt), h.tb.below hb (Nat.lt_of_lt_of_le h0 h.bl.size), h.bl.trans (hb.mono h.bl.size)⟩
theorem EaSt.own (h : EaSt w L k v G Bl gs Be W) (h0 : 0 < w.heap.size) {D : Nat} (hD : w.heap.size ≤ D) {row : Option Nat} (hg : W.grownBy W' row) (hr : ∀ r, row = some r → D ≤ r ∧ ∃ o : Obj, W.heap[r]? = some o ∧ o.isCells = false) : EaSt w L k v G Bl gs Be W' :=
  have hr' := fun r e => (hr r e).2
  ⟨h.a1.own hg hr', h.a2.own hg hr', h.a5.own hg hr', h.a7.own hg hr', h.sq.own hg hr', h.ls.own (Nat.le_of_lt h.a5.lt) hg hr',
    fun j hj => (World.cell?_of_block (w := W) (hg.block 0 (Nat.lt_of_lt_of_le h0 h.bl.size) (fun e => by have := (hr 0 e.symm).1; omega))).trans (h.tb j hj), ownFrom_below (β := List Nat) (Nat.le_refl _) hD [] W W' row h.bl hg hr⟩
/-- Another block is written. -/
theorem EaSt.other (h : EaSt w L k v G Bl gs Be W) (h0 : 0 < w.heap.size) (hG : w.heap.size + 3 ≤ G) {b i : Nat} (hb : G < b) (h1 : b ≠ Bl) (h2 : b ≠ gs) (h3 : b ≠ Be) (u : Value) : EaSt w L k v G Bl gs Be (W.setCell ⟨b, i, none⟩ u) :=
  ⟨h.a1.other (p := ⟨b, i, none⟩) (by show w.heap.size + 1 ≠ b; omega) _, h.a2.other (p := ⟨b, i, none⟩) (by show w.heap.size + 1 + 1 ≠ b; omega) _, h.a5.other (p := ⟨b, i, none⟩) (by show G ≠ b; omega) _, h.a7.other (p := ⟨b, i, none⟩) (fun e => h3 e.symm) _,
    h.sq.other (p := ⟨b, i, none⟩) (fun e => h1 e.symm) (fun e => h2 e.symm) _, h.ls.of (fun g _ hg _ => Below.heap_setCell W ⟨b, i, none⟩ u g (by show g ≠ b; omega)),
    fun j hj => (World.cell?_of_block (w := W) (Below.heap_setCell W ⟨b, i, none⟩ _ 0 (by show (0 : Nat) ≠ b; omega))).trans (h.tb j hj), h.bl.setCell (p := ⟨b, i, none⟩) (by show w.heap.size ≤ b; omega) _⟩
end
/-- The state with the variable n. -/
structure EaN (w : World) (L : List Nat) (k : Int) (v : Value) (G Bl gs Be b8 : Nat) (n : Int) (W : World) : Prop where
  st : EaSt w L k v G Bl gs Be W
  a8 : At W b8 #[.int .i64 n] 3
section
variable {w : World} {L : List Nat} {k : Int} {v : Value} {G Bl gs Be b8 : Nat} {n : Int} {W W' : World}
theorem EaN.kept (h : EaN w L k v G Bl gs Be b8 n W) (h0 : 0 < w.heap.size) (hb : Below W.heap.size W W') : EaN w L k v G Bl gs Be b8 n W' := ⟨h.st.kept h0 hb, h.a8.keptAll hb⟩
theorem EaN.own (h : EaN w L k v G Bl gs Be b8 n W) (h0 : 0 < w.heap.size) {D : Nat} (hD : w.heap.size ≤ D) {row : Option Nat} (hg : W.grownBy W' row) (hr : ∀ r, row = some r → D ≤ r ∧ ∃ o : Obj, W.heap[r]? = some o ∧ o.isCells = false) : EaN w L k v G Bl gs Be b8 n W' :=
  ⟨h.st.own h0 hD hg hr, h.a8.own hg (fun r e => (hr r e).2)⟩
theorem EaN.put (h : EaN w L k v G Bl gs Be b8 n W) (h0 : 0 < w.heap.size) (hG : w.heap.size + 3 ≤ G) (h8 : G < b8) (h1 : Bl < b8) (h2 : gs < b8) (h3 : Be < b8) (m : Int) : EaN w L k v G Bl gs Be b8 m (W.setCell ⟨b8, 0, none⟩ (.int .i64 m)) :=
  ⟨h.st.other h0 hG h8 (by omega) (by omega) (by omega) _, h.a8.set 0 _⟩
end
end Go.Proofs.YtmbkcnhkbpaagaaDoor
