/-
 quarrylaw23.smallTrie.
-/
import Derived.Test.YtbabdhepnjacdaaDoorTiJ
import Derived.Test.YtbabdhepnjacdaaDoorTiG
namespace Go.Proofs.YtbabdhepnjacdaaDoor
open Go.RowKit Go.Shelf
def sA : Stp := ⟨1, ⟨#[97]⟩, 0⟩
def sB : Stp := ⟨1, ⟨#[98]⟩, 0⟩
/-- The law's own trie. -/
def smT : List Nod := [⟨[sA], [1], []⟩, ⟨[sB], [2], [1]⟩, ⟨[], [], [0]⟩]
theorem at_newB {w : World} {cs : Array Value} {t : TypeId} {b : Nat} (h : w.heap.size = b) : At (w.alloc (.cells cs t)) b cs t := by subst h; exact At.new _ _ _
theorem one_ints {w : World} {b : Nat} {x : Int} (h : At w b #[.int .i64 x] 3) (hx : i64B x) : IntsZ w (some ⟨b, 0, none⟩) [x] := fun i y hi => by
 match i, hi with
 | 0, hi =>
  simp at hi
  subst hi
  exact ⟨hx, b, 0, rfl, h.lt, h.cell 0⟩
 | i + 1, hi => simp at hi
theorem no_ints (w : World) (ao : Option Addr) : IntsZ w ao [] := fun i x h => by simp at h
theorem no_steps (w : World) (ao : Option Addr) : StepsAt w ao [] := fun i x h => by simp at h
theorem three_nodes {w : World} {b : Nat} {x0 x1 x2 x3 x4 x5 x6 x7 x8 : Value} {n0 n1 n2 : Nod} (h : At w b #[x0, x1, x2, x3, x4, x5, x6, x7, x8] 50) (h0 : NodE w n0 [x0, x1, x2]) (h1 : NodE w n1 [x3, x4, x5]) (h2 : NodE w n2 [x6, x7, x8]) : NodesAt w (some ⟨b, 0, none⟩) [n0, n1, n2] := fun i n hi => by
 match i, hi with
 | 0, hi =>
  simp at hi; subst hi
  refine ⟨b, 0, _, rfl, h.lt, fun j y hj => ?_, h0⟩
  match j, hj with
  | 0, hj => rw [show (0 + 0 * 3 + 0 : Nat) = 0 from rfl, h.cell 0]; exact hj
  | 1, hj => rw [show (0 + 0 * 3 + 1 : Nat) = 1 from rfl, h.cell 1]; exact hj
  | 2, hj => rw [show (0 + 0 * 3 + 2 : Nat) = 2 from rfl, h.cell 2]; exact hj
  | j + 3, hj => simp at hj
 | 1, hi =>
  simp at hi; subst hi
  refine ⟨b, 0, _, rfl, h.lt, fun j y hj => ?_, h1⟩
  match j, hj with
  | 0, hj => rw [show (0 + 1 * 3 + 0 : Nat) = 3 from rfl, h.cell 3]; exact hj
  | 1, hj => rw [show (0 + 1 * 3 + 1 : Nat) = 4 from rfl, h.cell 4]; exact hj
  | 2, hj => rw [show (0 + 1 * 3 + 2 : Nat) = 5 from rfl, h.cell 5]; exact hj
  | j + 3, hj => simp at hj
 | 2, hi =>
  simp at hi; subst hi
  refine ⟨b, 0, _, rfl, h.lt, fun j y hj => ?_, h2⟩
  match j, hj with
  | 0, hj => rw [show (0 + 2 * 3 + 0 : Nat) = 6 from rfl, h.cell 6]; exact hj
  | 1, hj => rw [show (0 + 2 * 3 + 1 : Nat) = 7 from rfl, h.cell 7]; exact hj
  | 2, hj => rw [show (0 + 2 * 3 + 2 : Nat) = 8 from rfl, h.cell 8]; exact hj
  | j + 3, hj => simp at hj
 | i + 3, hi => simp at hi
theorem sA_b : stpB [sA] := fun s h => by obtain rfl := List.mem_singleton.1 h; exact ⟨by unfold i64B; decide, by unfold i64B; decide⟩
theorem sB_b : stpB [sB] := fun s h => by obtain rfl := List.mem_singleton.1 h; exact ⟨by unfold i64B; decide, by unfold i64B; decide⟩
theorem fm_sA : fmS sA = true := by decide +kernel
theorem fm_sB : fmS sB = true := by decide +kernel
theorem smT_mid : Mid smT := by
 refine ⟨by decide, by decide, by decide, fun n hn => ?_⟩
 simp only [smT, List.mem_cons, List.not_mem_nil, or_false] at hn
 rcases hn with rfl | rfl | rfl <;> simp
set_option maxRecDepth 10000 in
set_option maxHeartbeats 4000000 in
theorem smallT_calls (w : World) : Calls Tryd.prog 12 #[] w fun e w' => (∃ b, e = .returned (.slice (some ⟨b, 0, none⟩) 3 3) ∧ NodesAt w' (some ⟨b, 0, none⟩) smT) ∧ Below w.heap.size w w' := by
 go_enter Tryd.func12, Tryd.ntmps12
 go_wp2
 go_ret
 refine ⟨⟨_, rfl, ?_⟩, by repeat (first | with_reducible exact Below.refl _ _ | with_reducible refine Below.setCell ?_ (by first | (simp; done) | (simp; omega)) _ | with_reducible refine below_drewN ?_ _ | with_reducible refine Below.alloc ?_ (by first | (simp; done) | (simp; omega)) _ | with_reducible refine Below.drew ?_)⟩
 have one : i64B 1 := by unfold i64B; omega
 have two : i64B 2 := by unfold i64B; omega
 have nul : i64B 0 := by unfold i64B; omega
 refine three_nodes (b := w.heap.size + 1 + 1 + 1 + 1 + 1 + 1 + 1 + 1) ?_ ⟨_, 1, _, 1, none, 0, rfl, one_steps (s := sA) (b := w.heap.size + 1 + 1) ?_ (by decide), sA_b, one_ints (b := w.heap.size + 1 + 1 + 1) ?_ one, no_ints _ _⟩
  ⟨_, 1, _, 1, _, 1, rfl, one_steps (s := sB) (b := w.heap.size + 1 + 1 + 1 + 1) ?_ (by decide), sB_b, one_ints (b := w.heap.size + 1 + 1 + 1 + 1 + 1) ?_ two, one_ints (b := w.heap.size + 1 + 1 + 1 + 1 + 1 + 1) ?_ one⟩
  ⟨none, 0, none, 0, _, 1, rfl, no_steps _ _, fun s h => by simp at h, no_ints _ _, one_ints (b := w.heap.size + 1 + 1 + 1 + 1 + 1 + 1 + 1) ?_ nul⟩
 all_goals repeat (first | (refine at_newB ?_; simp only [World.size_alloc]; done) | refine At.alloc ?_ _)
end Go.Proofs.YtbabdhepnjacdaaDoor
