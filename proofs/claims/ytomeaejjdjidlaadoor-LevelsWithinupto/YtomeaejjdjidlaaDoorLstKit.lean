/-
  A list of numbers that a call has made: what is read of it, and what keeps it.
-/
import Derived.Test.YtomeaejjdjidlaaDoorKitA
import Derived.Laws.AppendOwn
namespace Go.Proofs.YtomeaejjdjidlaaDoor
open Go.RowKit Go.Shelf

/-- The numbers as cells. -/
def ints (L : List Nat) : List Value := L.map fun p => .int .i64 ((p : Nat) : Int)
theorem ints_len (L : List Nat) : (ints L).length = L.length := by simp [ints]
theorem ints_snoc (L : List Nat) (p : Nat) : ints (L ++ [p]) = ints L ++ [.int .i64 ((p : Nat) : Int)] := by simp [ints]

/-- The slice v is of just these numbers; they lie in a block from B on and below G. -/
def Lst (W : World) (v : Value) (B G : Nat) (L : List Nat) : Prop :=
  ∃ (ao : Option Addr) (cap : Nat), v = .slice ao L.length cap ∧ ∀ j p, L[j]? = some p → ∃ g, ao = some ⟨g, 0, none⟩ ∧ B ≤ g ∧ g < G ∧ W.cell? ⟨g, j, none⟩ = some (.int .i64 ((p : Nat) : Int))
theorem Lst.of {W W' : World} {v : Value} {B G : Nat} {L : List Nat} (h : Lst W v B G L) (hh : ∀ g, B ≤ g → g < G → (∃ o, W.heap[g]? = some o ∧ o.isCells = true) → W'.heap[g]? = W.heap[g]?) : Lst W' v B G L := by
  obtain ⟨ao, cap, hv, hc⟩ := h
  refine ⟨ao, cap, hv, fun j p hj => ?_⟩
  obtain ⟨g, h1, h2, h3, h4⟩ := hc j p hj
  have hcell : ∃ o, W.heap[g]? = some o ∧ o.isCells = true := by
    unfold World.cell? at h4
    cases ho : W.heap[g]? with
    | none => simp [ho] at h4
    | some o => exact ⟨o, rfl, by cases o <;> simp_all [Obj.isCells]⟩
  refine ⟨g, h1, h2, h3, ?_⟩
  rw [← h4]
  simp only [World.cell?, hh g h2 h3 hcell]
theorem Lst.kept {W W' : World} {v : Value} {B G n : Nat} {L : List Nat} (h : Lst W v B G L) (hb : Below n W W') (hn : G ≤ n) : Lst W' v B G L := h.of fun g _ hg _ => hb.block g (by omega)
theorem Lst.other {W : World} {v : Value} {B G : Nat} {L : List Nat} (h : Lst W v B G L) {b : Nat} (hb : b < B ∨ G ≤ b) (u : Value) : Lst (W.setCell ⟨b, 0, none⟩ u) v B G L :=
  h.of fun g h1 h2 _ => Below.heap_setCell W ⟨b, 0, none⟩ u g (by show g ≠ b; omega)
theorem Lst.own {W W' : World} {v : Value} {B G : Nat} {L : List Nat} (h : Lst W v B G L) (hG : G ≤ W.heap.size) {row : Option Nat} (hg : W.grownBy W' row) (hr : ∀ r, row = some r → ∃ o : Obj, W.heap[r]? = some o ∧ o.isCells = false) : Lst W' v B G L :=
  h.of fun g _ h2 ⟨o, ho, hc⟩ => hg.block g (by omega) (fun e => by
    obtain ⟨o', ho', hc'⟩ := hr g e.symm
    rw [ho] at ho'; cases ho'; rw [hc] at hc'; cases hc')
theorem Lst.wide {W : World} {v : Value} {B G B' G' : Nat} {L : List Nat} (h : Lst W v B G L) (hB : B' ≤ B) (hG : G ≤ G') : Lst W v B' G' L := by
  obtain ⟨ao, cap, hv, hc⟩ := h
  refine ⟨ao, cap, hv, fun j p hj => ?_⟩
  obtain ⟨g, h1, h2, h3, h4⟩ := hc j p hj
  exact ⟨g, h1, by omega, by omega, h4⟩
theorem lst_of_row {W : World} {v : Value} {B : Nat} {L : List Nat} (h : W.ownsRow B 3 1 v L.length (ints L)) : Lst W v B W.heap.size L := by
  have hlt := h.lt
  rcases h.2 with ⟨rfl, h0⟩ | ⟨g, cap, cur, rfl, hb, hgb, h3⟩
  · refine ⟨none, 0, by rw [h0], fun j p hj => ?_⟩
    rw [List.length_eq_zero_iff.1 h0] at hj
    simp at hj
  · refine ⟨_, cap, rfl, fun j p hj => ⟨g, rfl, hb, (hlt g rfl).2, ?_⟩⟩
    have := h.cells (g := g) rfl j (.int .i64 ((p : Nat) : Int)) (by simp [ints, hj])
    rwa [show (⟨g, 0, none⟩ : Addr).add j = ⟨g, j, none⟩ by by_cases h : j = 0 <;> simp [Addr.add, h]] at this
end Go.Proofs.YtomeaejjdjidlaaDoor
