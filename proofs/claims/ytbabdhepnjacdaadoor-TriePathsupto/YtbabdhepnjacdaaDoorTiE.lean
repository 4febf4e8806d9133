/-
 Lists of numbers that grow; slices.Sort; quarryref00.SameInts.
-/
import Derived.Test.YtbabdhepnjacdaaDoorTiB
import Derived.Test.YtbabdhepnjacdaaDoorTqF
import Derived.Test.YtbabdhepnjacdaaDoorTpF2
import Derived.Shelf.Sort.Plain
import Derived.Shelf.Slices.In.SortNone
import Derived.Test.YtbabdhepnjacdaaDoorProg
import Derived.KernelRfl
namespace Go.Proofs.YtbabdhepnjacdaaDoor
open Go.RowKit Go.Shelf
def inC (L : List Int) : List Value := L.map fun x => Value.int .i64 x
theorem infoIn : (Tryd.prog.info? 3).map (fun i => (i.zero, i.size, i.bytes)) = some (some (.int .i64 0), 1, 8) := by kernel_rfl
/-- A list of numbers that grows, its row from B on. -/
def InG (B : Nat) (w : World) (v : Value) (L : List Int) : Prop := w.ownsRow B 3 1 v L.length (inC L)
section
variable {B : Nat} {W W' : World} {v : Value} {L : List Int}
theorem InG.nil (B : Nat) (W : World) : InG B W (.slice none 0 0) [] := by
 unfold InG inC
 simpa using World.ownsRow_nil W B 3 1
theorem InG.kept (h : InG B W v L) (hs : SameOn (fun c => B ≤ c) W W') : InG B W' v L := own_on h (fun g _ hg hl => hs.2 g hg hl)
theorem InG.keptB (h : InG B W v L) (hb : Below W.heap.size W W') : InG B W' v L := h.kept (SameOn.below hb)
theorem InG.shape (h : InG B W v L) : ∃ so cap, v = .slice so L.length cap := own_shape h
theorem InG.row {vo : Option Addr} {n vc : Nat} (h : InG B W (.slice vo n vc) L) (h64 : ∀ x ∈ L, i64B x) : n = L.length ∧ IntsZ W vo L := by
 obtain ⟨so, cap, e⟩ := own_shape h
 cases e
 refine ⟨rfl, fun i x hi => ⟨h64 x (List.mem_of_getElem? hi), ?_⟩⟩
 have hl := (List.getElem?_eq_some_iff.1 hi).1
 rcases h.2 with ⟨e, h0⟩ | ⟨g, cap, cur, e, hb, hg, -⟩
 ·omega
 ·cases e
  refine ⟨g, 0, rfl, (h.lt g rfl).2, ?_⟩
  have := h.cellAt i (by omega)
  show W.cell? ⟨g, 0 + i, none⟩ = _
  rw [Nat.zero_add, this]
  simp [inC, hi]
theorem InG.app {x : Int} {ty : TypeId} (h : InG B W v L) (ad : Addr) (c : Nat) (hC : W.cell? (ad.add 0) = some (.int .i64 x)) (hn : L.length < 1099511627776) (hB : B ≤ W.heap.size) :
  ∃ v' W', (Builtin.append_ #[36, 36] ty #[v, .slice (some ad) 1 c]).run Tryd.prog W = .ok v' W' ∧ InG B W' v' (L ++ [x]) ∧ W.grownBy W' v.ownBlock := by
 obtain ⟨i0, hi, hz0, hz1, hz2⟩ := info_partsV infoIn
 obtain ⟨v', W', hr, r1, r2⟩ := appendV (P := Tryd.prog) (ty := ty) Tryd.underlying36 hi hz0 hz1 hz2 rfl (by decide) h ad 1 c [.int .i64 x] (by simp) (fun j u hj => by
  match j, hj with
  | 0, hj => rw [hC]; simpa using hj
  | j + 1, hj => simp at hj) (by simp; rfl) (by unfold maxLen; omega) (by omega) hB
 refine ⟨v', W', hr, ?_, ?_⟩
 ·unfold InG inC
  rw [List.length_append, List.length_singleton, List.map_append, List.map_cons, List.map_nil]
  exact r1
 ·rcases r2 with ⟨g, cap, rfl, rfl, hg⟩ | ⟨-, hg⟩
  ·exact hg
  ·exact grown_weaken hg
end
theorem append_tyZ (ts : Array TypeId) (ty ty' : TypeId) (vs : Array Value) : Builtin.append_ ts ty vs = Builtin.append_ ts ty' vs := rfl
end Go.Proofs.YtbabdhepnjacdaaDoor
