/-
 trie.way.
-/
import Derived.Test.YtbabdhepnjacdaaDoorTiO
import Derived.Test.YtbabdhepnjacdaaDoorTiI
import Derived.Test.YtbabdhepnjacdaaDoorTiJ
namespace Go.Proofs.YtbabdhepnjacdaaDoor
open Go.RowKit Go.Shelf
def stC3 (s : Stp) : List Value := [.int .i64 s.kind, .string s.name, .int .i64 s.place]
theorem infoSt3 : (Tryd.prog.info? 53).map (fun i => (i.zero, i.size, i.bytes)) = some (some (.agg #[.int .i64 0, .string ⟨#[]⟩, .int .i64 0]), 3, 32) := by kernel_rfl
theorem PthOf.nm {t : List Nod} (hz : ∀ n ∈ t, ∀ s ∈ n.steps, s.name.size ≤ 1048576) {x : Nat} {p : List Stp} (hp : PthOf t x p) : ∀ s ∈ p, s.name.size ≤ 1048576 := by
 induction hp with
 | root => intro s h; simp at h
 | step hn hx hs h ih =>
  intro s' h'
  rcases List.mem_append.1 h' with h' | h'
  ·exact ih s' h'
  ·obtain rfl := List.mem_singleton.1 h'
   exact hz _ (List.mem_of_getElem? hn) _ (List.mem_of_getElem? hs)
end Go.Proofs.YtbabdhepnjacdaaDoor
