/-
 trie.Go.
-/
import Derived.Test.YtbabdhepnjacdaaDoorTiG
namespace Go.Proofs.YtbabdhepnjacdaaDoor
open Go.RowKit Go.Shelf
/-- What Go answers. -/
def IsGo (t : List Nod) (a : Int) (nm : ByteArray) (pl : Int) (ob : Bool) (L : List Int) (E : Int) : Prop :=
 (¬ FrmR t ∧ L = [] ∧ E = 1) ∨ (FrmR t ∧ (a < 0 ∨ (t.length : Int) ≤ a) ∧ L = [] ∧ E = 2) ∨ (FrmR t ∧ ∃ (k : Nat) (n : Nod), a = (k : Int) ∧ t[k]? = some n ∧ L = byN (gtL nm pl ob n.steps n.tos) t.length ∧ E = 0)
theorem IsGo.uniq {t : List Nod} {a : Int} {nm : ByteArray} {pl : Int} {ob : Bool} {L L' : List Int} {E E' : Int} (h : IsGo t a nm pl ob L E) (h' : IsGo t a nm pl ob L' E') : L = L' ∧ E = E' := by
 rcases h with ⟨h1, rfl, rfl⟩ | ⟨h1, h2, rfl, rfl⟩ | ⟨h1, k, n, rfl, h3, rfl, rfl⟩ <;> rcases h' with ⟨g1, rfl, rfl⟩ | ⟨g1, g2, rfl, rfl⟩ | ⟨g1, k', n', g2, g3, rfl, rfl⟩
 ·exact ⟨rfl, rfl⟩
 ·exact absurd g1 h1
 ·exact absurd g1 h1
 ·exact absurd h1 g1
 ·exact ⟨rfl, rfl⟩
 ·have := (List.getElem?_eq_some_iff.1 g3).1; omega
 ·exact absurd h1 g1
 ·have := (List.getElem?_eq_some_iff.1 h3).1; omega
 ·obtain rfl : k = k' := by omega
  rw [h3] at g3
  cases g3
  exact ⟨rfl, rfl⟩
theorem frm_node {t : List Nod} (h : FrmR t) {k : Nat} {n : Nod} (hn : t[k]? = some n) : n.steps.length = n.tos.length ∧ n.tos.Nodup ∧ (∀ x ∈ n.tos, 0 ≤ x ∧ x < (t.length : Int)) := by
 have h2 := (frm_iff t).1 h
 have hm := List.mem_of_getElem? hn
 refine ⟨(h2.1 n hm).1, ?_, fun x hx => ?_⟩
 ·have h3 := h2.2.1.2.1
  obtain ⟨i, hi, e⟩ := List.mem_iff_getElem.1 hm
  have h4 := flat_pre Nod.tos (t := t) (i := k) (n := n) hn n.tos.length
  rw [List.take_length] at h4
  exact h3.sublist ((List.sublist_append_right _ _).trans h4)
 ·have := h2.2.1.1 k n hn x hx
  omega
end Go.Proofs.YtbabdhepnjacdaaDoor
