/-
  Rows that append has made: what is read of them, and what keeps them; rows of truths.
-/
import Derived.Test.YtkdcloiepeenoaaDoorBitRet
import Derived.Laws.AppendOwn
namespace Go.Proofs.YtkdcloiepeenoaaDoor
open Go.RowKit

/-- The slice's cells hold these truths. -/
def Bls (w : World) (ao : Option Addr) (k : Nat) (G : Nat → Bool) : Prop := ∀ j, j < k → ∃ g off, ao = some ⟨g, off, none⟩ ∧ w.cell? ⟨g, off + j, none⟩ = some (.bool (G j))
theorem Bls.kept {w w' : World} {ao : Option Addr} {k : Nat} {G : Nat → Bool} (h : Bls w ao k G) (hb : Below w.heap.size w w') : Bls w' ao k G := fun j hj => by
  obtain ⟨g, off, h2, h3⟩ := h j hj
  exact ⟨g, off, h2, (hb.cell (p := ⟨g, off + j, none⟩) (cell_block h3)).trans h3⟩
/-- The first i words, as cells. -/
def wl (Y : Nat → Nat) (i : Nat) : List Value := (List.range i).map fun j => Value.int .u64 ((Y j : Nat) : Int)
theorem wl_succ (Y : Nat → Nat) (i : Nat) : wl Y i ++ [.int .u64 ((Y i : Nat) : Int)] = wl Y (i + 1) := by simp [wl, List.range_succ]
/-- A row that append has made is read as a list of words. -/
theorem wds_of_row {W : World} {v : Value} {B K : Nat} {Y : Nat → Nat} (h : W.ownsRow B 39 1 v K (wl Y K)) (hY : ∀ j, j < K → Y j < 18446744073709551616) : ∃ ao cap, v = .slice ao K cap ∧ Wds W ao K Y := by
  rcases h.2 with ⟨rfl, h0⟩ | ⟨g, cap, cur, rfl, hb, hgb, h3⟩
  · exact ⟨none, 0, by rw [h0], fun j hj => by omega⟩
  · refine ⟨_, cap, rfl, fun j hj => ⟨hY j hj, g, 0, rfl, ?_⟩⟩
    have := h.cells (g := g) rfl j (.int .u64 ((Y j : Nat) : Int)) (by simp [wl, hj])
    rwa [show (⟨g, 0, none⟩ : Addr).add j = ⟨g, 0 + j, none⟩ by by_cases h : j = 0 <;> simp [Addr.add, h]] at this

theorem At.grown {w w' : World} {b B : Nat} {cs : Array Value} {t : TypeId} {o : Obj} {row : Option Nat} (h : At w b cs t) (hg : (w.alloc o).grownBy w' row) (hr : ∀ r, row = some r → B ≤ r) (hb : b < B) : At w' b cs t :=
  (hg.block b (h.alloc o).lt (fun e => by have := hr b e.symm; omega)).trans (h.alloc o)

theorem row_other {w : World} {B n : Nat} {e : TypeId} {v : Value} {xs : List Value} (h : w.ownsRow B e 1 v n xs) {p : Addr} (hp : p.block < B) (u : Value) : (w.setCell p u).ownsRow B e 1 v n xs := by
  refine ⟨h.1, ?_⟩
  rcases h.2 with h2 | ⟨g, cap, cur, rfl, hb, hgb, h3⟩
  · exact .inl h2
  · exact .inr ⟨g, cap, cur, rfl, hb, (Below.heap_setCell w p u g (by omega)).trans hgb, h3⟩
theorem row_base {w : World} {B B' n : Nat} {e : TypeId} {v : Value} {xs : List Value} (h : w.ownsRow B e 1 v n xs) (hB : B' ≤ B) : w.ownsRow B' e 1 v n xs := by
  refine ⟨h.1, ?_⟩
  rcases h.2 with h2 | ⟨g, cap, cur, rfl, hb, hgb, h3⟩
  · exact .inl h2
  · exact .inr ⟨g, cap, cur, rfl, by omega, hgb, h3⟩
theorem row_keptAll {w w' : World} {B n : Nat} {e : TypeId} {v : Value} {xs : List Value} (h : w.ownsRow B e 1 v n xs) (hb : Below w.heap.size w w') : w'.ownsRow B e 1 v n xs := by
  refine ⟨h.1, ?_⟩
  rcases h.2 with h2 | ⟨g, cap, cur, rfl, hb', hgb, h3⟩
  · exact .inl h2
  · exact .inr ⟨g, cap, cur, rfl, hb', (hb.block g (Array.getElem?_eq_some_iff.1 hgb).1).trans hgb, h3⟩
theorem row_succ {w : World} {B n : Nat} {e : TypeId} {v : Value} {xs : List Value} (h : w.ownsRow B e 1 v (n + 1) xs) : ∃ g cap, v = .slice (some ⟨g, 0, none⟩) (n + 1) cap := by
  rcases h.2 with ⟨_, h0⟩ | ⟨g, cap, cur, rfl, _⟩
  · omega
  · exact ⟨g, cap, rfl⟩

theorem row_slice {w : World} {B n : Nat} {e : TypeId} {v : Value} {xs : List Value} (h : w.ownsRow B e 1 v n xs) : ∃ ao cap, v = .slice ao n cap := by
  rcases h.2 with ⟨rfl, h0⟩ | ⟨g, cap, cur, rfl, _⟩
  · exact ⟨none, 0, by rw [h0]⟩
  · exact ⟨_, cap, rfl⟩
end Go.Proofs.YtkdcloiepeenoaaDoor
