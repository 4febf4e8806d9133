/-
  Rows of truths that are turned in place; what the document's calls that answer rows of bits leave.
-/
import Derived.Test.YtkdcloiepeenoaaDoorRefSet
import Derived.Test.YtkdcloiepeenoaaDoorGivesKit
namespace Go.Proofs.YtkdcloiepeenoaaDoor
open Go.RowKit

/-- The slice holds these truths, in a block from B on. -/
def BoolsAt (B : Nat) (W : World) (ao : Option Addr) (N : Nat) (G : Nat → Bool) : Prop := N = 0 ∨ ∃ g cur, ao = some ⟨g, 0, none⟩ ∧ B ≤ g ∧ At W g cur 4 ∧ ∀ i, i < N → cur[i]? = some (.bool (G i))
theorem BoolsAt.bls {B : Nat} {W : World} {ao : Option Addr} {N : Nat} {G : Nat → Bool} (h : BoolsAt B W ao N G) : Bls W ao N G := fun j hj => by
  rcases h with h | ⟨g, cur, h1, _, h3, h4⟩
  · omega
  · exact ⟨g, 0, h1, by rw [Nat.zero_add, h3.cell j, h4 j hj]⟩
theorem BoolsAt.kept {B : Nat} {W W' : World} {ao : Option Addr} {N : Nat} {G : Nat → Bool} (h : BoolsAt B W ao N G) (hb : Below W.heap.size W W') : BoolsAt B W' ao N G := by
  rcases h with h | ⟨g, cur, h1, h2, h3, h4⟩
  · exact .inl h
  · exact .inr ⟨g, cur, h1, h2, h3.keptAll hb, h4⟩
theorem BoolsAt.drew {B : Nat} {W : World} {ao : Option Addr} {N : Nat} {G : Nat → Bool} (h : BoolsAt B W ao N G) : BoolsAt B W.drew ao N G := h
theorem BoolsAt.other {B : Nat} {W : World} {ao : Option Addr} {N : Nat} {G : Nat → Bool} (h : BoolsAt B W ao N G) {p : Addr} (hp : ∀ g, ao = some ⟨g, 0, none⟩ → g ≠ p.block) (v : Value) : BoolsAt B (W.setCell p v) ao N G := by
  rcases h with h | ⟨g, cur, h1, h2, h3, h4⟩
  · exact .inl h
  · exact .inr ⟨g, cur, h1, h2, h3.other (hp g h1) v, h4⟩
theorem BoolsAt.got {B : Nat} {W : World} {ao : Option Addr} {N : Nat} {G : Nat → Bool} (h : BoolsAt B W ao N G) {i : Nat} (hi : i < N) : ∃ g cur, ao = some ⟨g, 0, none⟩ ∧ B ≤ g ∧ At W g cur 4 ∧ cur[i]? = some (.bool (G i)) := by
  rcases h with h | ⟨g, cur, h1, h2, h3, h4⟩
  · omega
  · exact ⟨g, cur, h1, h2, h3, h4 i hi⟩
theorem BoolsAt.set {B g : Nat} {W : World} {N : Nat} {G : Nat → Bool} (h : BoolsAt B W (some ⟨g, 0, none⟩) N G) (i : Nat) (q : Bool) : BoolsAt B (W.setCell ⟨g, i, none⟩ (.bool q)) (some ⟨g, 0, none⟩) N (fun j => if j = i then q else G j) := by
  rcases h with h | ⟨g', cur, h1, h2, h3, h4⟩
  · exact .inl h
  · cases h1
    refine .inr ⟨g, _, rfl, h2, h3.set i _, fun j hj => ?_⟩
    by_cases hji : j = i
    · subst hji
      have hlt : j < cur.size := by
        rcases Nat.lt_or_ge j cur.size with hl | hl
        · exact hl
        · have := h4 j hj; rw [Array.getElem?_eq_none hl] at this; cases this
      rw [Array.getElem?_setIfInBounds_self_of_lt hlt]; simp
    · rw [Array.getElem?_setIfInBounds_ne (by omega), h4 j hj]; simp [hji]
theorem BoolsAt.congr {B : Nat} {W : World} {ao : Option Addr} {N : Nat} {G G' : Nat → Bool} (h : BoolsAt B W ao N G) (hG : ∀ i, i < N → G i = G' i) : BoolsAt B W ao N G' := by
  rcases h with h | ⟨g, cur, h1, h2, h3, h4⟩
  · exact .inl h
  · exact .inr ⟨g, cur, h1, h2, h3, fun i hi => by rw [h4 i hi, hG i hi]⟩
theorem boolsAt_of_row {W : World} {v : Value} {B N : Nat} {G : Nat → Bool} (h : W.ownsRow B 4 1 v N (bl G N)) : ∃ ao cap, v = .slice ao N cap ∧ BoolsAt B W ao N G := by
  obtain ⟨ao, cap, h1, h2⟩ := bools_of_row h
  refine ⟨ao, cap, h1, ?_⟩
  by_cases hN : N = 0
  · exact .inl hN
  · obtain ⟨g, cur, h3, h4, h5, _, h6⟩ := h2 0 (by omega)
    exact .inr ⟨g, cur, h3, h4, h5, h6⟩
/-- The slice's cells hold these words, in a block from B on. -/
def Wdf (B : Nat) (w : World) (ao : Option Addr) (k : Nat) (X : Nat → Nat) : Prop :=
  ∀ j, j < k → X j < 18446744073709551616 ∧ ∃ g off, ao = some ⟨g, off, none⟩ ∧ B ≤ g ∧ w.cell? ⟨g, off + j, none⟩ = some (.int .u64 ((X j : Nat) : Int))
theorem Wdf.wds {B : Nat} {w : World} {ao : Option Addr} {k : Nat} {X : Nat → Nat} (h : Wdf B w ao k X) : Wds w ao k X := fun j hj => by
  obtain ⟨h1, g, off, h2, _, h3⟩ := h j hj
  exact ⟨h1, g, off, h2, h3⟩
theorem Wdf.kept {B : Nat} {w w' : World} {ao : Option Addr} {k : Nat} {X : Nat → Nat} (h : Wdf B w ao k X) (hb : Below w.heap.size w w') : Wdf B w' ao k X := fun j hj => by
  obtain ⟨h1, g, off, h2, h3, h4⟩ := h j hj
  exact ⟨h1, g, off, h2, h3, (hb.cell (p := ⟨g, off + j, none⟩) (cell_block h4)).trans h4⟩
theorem Wdf.mono {B B' : Nat} {w : World} {ao : Option Addr} {k : Nat} {X : Nat → Nat} (h : Wdf B w ao k X) (hB : B' ≤ B) : Wdf B' w ao k X := fun j hj => by
  obtain ⟨h1, g, off, h2, h3, h4⟩ := h j hj
  exact ⟨h1, g, off, h2, by omega, h4⟩
theorem wdf_none (B : Nat) (w : World) (ao : Option Addr) (X : Nat → Nat) : Wdf B w ao 0 X := fun j hj => by omega
theorem wdf_of_row {W : World} {v : Value} {B K : Nat} {Y : Nat → Nat} (h : W.ownsRow B 39 1 v K (wl Y K)) (hY : ∀ j, j < K → Y j < 18446744073709551616) : ∃ ao cap, v = .slice ao K cap ∧ Wdf B W ao K Y := by
  rcases h.2 with ⟨rfl, h0⟩ | ⟨g, cap, cur, rfl, hb, hgb, h3⟩
  · exact ⟨none, 0, by rw [h0], fun j hj => by omega⟩
  · refine ⟨_, cap, rfl, fun j hj => ⟨hY j hj, g, 0, rfl, hb, ?_⟩⟩
    have := h.cells (g := g) rfl j (.int .u64 ((Y j : Nat) : Int)) (by simp [wl, hj])
    rwa [show (⟨g, 0, none⟩ : Addr).add j = ⟨g, 0 + j, none⟩ by by_cases h : j = 0 <;> simp [Addr.add, h]] at this
/-- The document's row and error number come back. -/
def RGives (E q : Int) (r : Nat) (Z : Nat → Nat) (w : World) (e : Ending) (w' : World) : Prop := Below w.heap.size w w' ∧ ∃ so c, Wdf w.heap.size w' so r Z ∧ e = .returned (.tuple #[bv q so r c, .int .i64 E])
end Go.Proofs.YtkdcloiepeenoaaDoor
