/-
 quarryref23.Count, times.
-/
import Derived.Test.YtbabdhepnjacdaaDoorTiG
namespace Go.Proofs.YtbabdhepnjacdaaDoor
open Go.RowKit Go.Shelf
/-- A node's lists, in each world that keeps what lies below. -/
theorem node_at {w : World} {t : List Nod} {ao : Option Addr} (hk : NodesAt w ao t) {i : Nat} {n : Nod} (hn : t[i]? = some n) : ∃ g o sa sc ta tc ea ec, ao = some ⟨g, o, none⟩ ∧ StepsAt w sa n.steps ∧ stpB n.steps ∧ IntsZ w ta n.tos ∧ IntsZ w ea n.ends ∧
  (∀ u, Below w.heap.size w u → u.cell? ⟨g, o + i * 3, none⟩ = some (.slice sa n.steps.length sc) ∧ u.cell? ⟨g, o + i * 3 + 1, none⟩ = some (.slice ta n.tos.length tc) ∧ u.cell? ⟨g, o + i * 3 + 2, none⟩ = some (.slice ea n.ends.length ec) ∧ u.rangeAt g (o + i * 3) [.slice sa n.steps.length sc, .slice ta n.tos.length tc, .slice ea n.ends.length ec]) := by
 obtain ⟨g, o, cs, rfl, hg, hrg0, sa, sc, ta, tc, ea, ec, rfl, hS, hSB, hT, hE⟩ := hk i n hn
 refine ⟨g, o, sa, sc, ta, tc, ea, ec, rfl, hS, hSB, hT, hE, fun u hu => ?_⟩
 have hr := range_kept hrg0 hu
 exact ⟨by have := hr 0 _ rfl; rwa [Nat.add_zero] at this, hr 1 _ rfl, hr 2 _ rfl, hr⟩
theorem ints_at {w : World} {ao : Option Addr} {L : List Int} (h : IntsZ w ao L) {i : Nat} {x : Int} (hi : L[i]? = some x) : ∃ g o, ao = some ⟨g, o, none⟩ ∧ ∀ u, Below w.heap.size w u → u.cell? ⟨g, o + i, none⟩ = some (.int .i64 x) := by
 obtain ⟨-, g, o, rfl, hg, hc⟩ := h i x hi
 exact ⟨g, o, rfl, fun u hu => (hu.cell (p := ⟨g, o + i, none⟩) hg).trans hc⟩
end Go.Proofs.YtbabdhepnjacdaaDoor
