/-
 trie.linked.
-/
import Derived.Test.YtbabdhepnjacdaaDoorTiB
namespace Go.Proofs.YtbabdhepnjacdaaDoor
open Go.RowKit Go.Shelf
theorem flat_pre {α : Type} (f : Nod → List α) {t : List Nod} {i : Nat} {n : Nod} (h : t[i]? = some n) (j : Nat) : ((t.take i).flatMap f ++ (f n).take j).Sublist (t.flatMap f) := by
 have h1 := (List.getElem?_eq_some_iff.1 h)
 obtain ⟨hl, he⟩ := h1
 have e : t = t.take i ++ n :: t.drop (i + 1) := by rw [← he, List.getElem_cons_drop, List.take_append_drop]
 conv => rhs; rw [e]
 rw [List.flatMap_append, List.flatMap_cons]
 exact (List.Sublist.refl _).append ((List.take_sublist j _).trans (List.sublist_append_left _ _))
theorem take_snoc {α : Type} {l : List α} {j : Nat} {x : α} (h : l[j]? = some x) : l.take (j + 1) = l.take j ++ [x] := by rw [List.take_add_one, h]; rfl
end Go.Proofs.YtbabdhepnjacdaaDoor
