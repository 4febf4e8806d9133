/-
 trie.Paths.
-/
import Derived.Test.YtbabdhepnjacdaaDoorTiR
namespace Go.Proofs.YtbabdhepnjacdaaDoor
open Go.RowKit Go.Shelf
/-- What stands at an end's place. -/
def EndV (t : List Nod) (w : World) (B : Nat) (k : Nat) (v : Value) : Prop := ∃ (q : Nat) (n : Nod) (p : List Stp) (g c : Nat), t[q]? = some n ∧ (k : Int) ∈ n.ends ∧ PthOf t q p ∧ v = .slice (some ⟨g, 0, none⟩) p.length c ∧ B < g ∧ StepsAt w (some ⟨g, 0, none⟩) p
theorem EndV.kept {t : List Nod} {w w' : World} {B k : Nat} {v : Value} (h : EndV t w B k v) (hb : Below w.heap.size w w') : EndV t w' B k v := by
 obtain ⟨q, n, p, g, c, h1, h2, h3, h4, h5, h6⟩ := h
 exact ⟨q, n, p, g, c, h1, h2, h3, h4, h5, h6.kept hb⟩
theorem EndV.set {t : List Nod} {w : World} {B k : Nat} {v : Value} (h : EndV t w B k v) (j : Nat) (u : Value) : EndV t (w.setCell ⟨B, j, none⟩ u) B k v := by
 obtain ⟨q, n, p, g, c, h1, h2, h3, h4, h5, h6⟩ := h
 exact ⟨q, n, p, g, c, h1, h2, h3, h4, h5, h6.on (by simp [World.setCell]) (Below.heap_setCell w ⟨B, j, none⟩ u g (by show g ≠ B; omega))⟩
theorem tab1_set (N k : Nat) (v : Value) (Q : Nat → Value) : (tabC N fun i => [Q i]).setIfInBounds k v = tabC N fun i => [if i = k then v else Q i] := by
 refine tab_ext (z := 1) (fun _ _ => rfl) (by decide) (by rw [Array.size_setIfInBounds, tabC_size (z := 1) (fun _ _ => rfl)]) (fun i j hi hj => ?_)
 obtain rfl : j = 0 := by omega
 have hg := tabC_get (z := 1) (N := N) (C := fun i => [Q i]) (fun _ _ => rfl) hi (by decide : 0 < 1)
 rw [Nat.mul_one, Nat.add_zero] at hg ⊢
 by_cases e : i = k
 ·subst e
  rw [Array.getElem?_setIfInBounds_self_of_lt (by rw [tabC_size (z := 1) (fun _ _ => rfl), Nat.mul_one]; exact hi)]
  simp
 ·rw [Array.getElem?_setIfInBounds_ne (fun h => e h.symm), hg, if_neg e]
end Go.Proofs.YtbabdhepnjacdaaDoor
