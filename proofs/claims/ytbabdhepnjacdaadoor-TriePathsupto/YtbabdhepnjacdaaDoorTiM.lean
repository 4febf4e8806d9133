/-
 quarrylaw23.vast; the law TrieGoes, walked.
-/
import Derived.Test.YtbabdhepnjacdaaDoorTiL
import Derived.BigQuiet
namespace Go.Proofs.YtbabdhepnjacdaaDoor
open Go.ChangeShapes Go.WideShapes Go.ChangeAt Go.RowKit Go.Shelf
theorem sum_take (f : Nod → Nat) (t : List Nod) (i : Nat) : ((t.take i).map f).sum ≤ (t.map f).sum := by
 have h : t.map f = (t.take i).map f ++ (t.drop i).map f := by rw [← List.map_append, List.take_append_drop]
 rw [h, List.sum_append]
 omega
theorem flat_sum {α : Type} (f : Nod → List α) (g : Nod → Nat) (h : ∀ n, (f n).length ≤ g n) : ∀ t : List Nod, (t.flatMap f).length ≤ (t.map g).sum
 | [] => by simp
 | n :: t => by
  have := flat_sum f g h t
  have := h n
  rw [List.flatMap_cons, List.length_append, List.map_cons, List.sum_cons]
  omega
theorem mid_sum {t : List Nod} (h : (t.map blkNd).sum ≤ 1048576) : Mid t := by
 refine ⟨Nat.le_trans (sum_len blkNd (fun n => by unfold blkNd; omega) t) h, Nat.le_trans (flat_sum Nod.tos blkNd (fun n => by unfold blkNd; omega) t) h, Nat.le_trans (flat_sum Nod.ends blkNd (fun n => by unfold blkNd; omega) t) h, fun n hn => ?_⟩
 have := sum_mem blkNd hn
 have h2 : n.steps.length ≤ blkNd n := by unfold blkNd; omega
 omega
set_option maxRecDepth 10000 in
set_option maxHeartbeats 4000000 in
theorem vast_calls (t : List Nod) (ao : Option Addr) (N cap : Nat) (hN : Hid (t.length = N)) (hs : Hid ((t.map blkNd).sum ≤ 1048576)) (w : World) (hk : Hid (NodesAt w ao t)) :
  Calls Tryd.prog 18 #[.slice ao N cap] w fun e w' => (∃ V, e = .returned (.bool V)) ∧ Below w.heap.size w w' := by
 have hNi : N ≤ 1048576 := by have := (mid_sum hs.out).1; have := hN.out; omega
 have hNi' : (N : Int) ≤ 1048576 := by omega
 go_enter Tryd.func18, Tryd.ntmps18
 go_wp2
 go_loopw [3, 4] (fun cc ii wr => ∃ i c : Nat, i ≤ N ∧ ii = .int .i64 (i : Int) ∧ cc = .int .i64 (c : Int) ∧ c ≤ 2097152 ∧ Hid (c ≤ N + ((t.take i).map blkNd).sum) ∧ Hid (Below w.heap.size w wr)) (fun _ ii _ => N - (intOf ii).toNat)
 case atStart => exact ⟨0, N, Nat.zero_le _, rfl, rfl, by omega, hid (by simp), hid (Below.refl _ _)⟩
 case round =>
  obtain ⟨i, c, hi, rfl, rfl, hcb, hc, hb⟩ := hrel
  by_cases hlt : i < N
  ·have hli : (i : Int) < (N : Int) := by omega
   by_cases hc3 : c ≤ 3000
   ·have f1 : decide ((c : Int) ≤ 3000) = true := decide_eq_true (by omega)
    have f2 : decide (c ≤ 3000) = true := decide_eq_true hc3
    obtain ⟨n, hn⟩ : ∃ n, Hid (t[i]? = some n) := ⟨_, List.getElem?_eq_getElem (by rw [hN.out]; exact hlt)⟩
    obtain ⟨g, o, sa, sc, ta, tc, ea, ec, rfl, -, -, -, -, hcl⟩ := node_at hk.out hn.out
    obtain ⟨d0, d1, d2, -⟩ := hcl wr hb.out
    have hlt' := hid (show i + 1 ≤ N by omega)
    have hst : ((t.take (i + 1)).map blkNd).sum = ((t.take i).map blkNd).sum + blkNd n := by rw [List.take_add_one, hn.out]; simp
    have hsb := sum_take blkNd t (i + 1)
    have hnb : n.steps.length + n.tos.length + n.ends.length ≤ blkNd n := by unfold blkNd; omega
    have hc1 := hid (show c + n.steps.length + n.tos.length + n.ends.length ≤ N + ((t.take (i + 1)).map blkNd).sum by have := hc.out; omega)
    have hc2 := hid (show c + n.steps.length + n.tos.length + n.ends.length ≤ 2097152 by have := hc1.out; have := hs.out; omega)
    have q0 : n.steps.length ≤ 1048576 := by have := hs.out; omega
    have q1 : n.tos.length ≤ 1048576 := by have := hs.out; omega
    have q2 : n.ends.length ≤ 1048576 := by have := hs.out; omega
    clear hst hsb hnb hcl hn
    generalize n.steps.length = x0 at *
    generalize n.tos.length = x1 at *
    generalize n.ends.length = x2 at *
    have r1 : (c : Int) + (x0 : Int) ≤ 2097152 := by have := hc2.out; omega
    have r2 : (c : Int) + (x0 : Int) + (x1 : Int) ≤ 2097152 := by have := hc2.out; omega
    have r3 : (c : Int) + (x0 : Int) + (x1 : Int) + (x2 : Int) ≤ 2097152 := by have := hc2.out; omega
    go_wp2
    go_quiet (fail)
    go_wp2
    go_roundw
    case rel => exact ⟨i + 1, c + x0 + x1 + x2, hlt'.out, by simp, by simp, hc2.out, hc1, hid (below_drewN hb.out _)⟩
    case measure => simp [intOf]; have := hlt'.out; omega
   ·have f1 : decide ((c : Int) ≤ 3000) = false := decide_eq_false (by omega)
    have f2 : decide (c ≤ 3000) = false := decide_eq_false hc3
    go_wp2
    go_ret
    exact ⟨⟨_, rfl⟩, hb.out⟩
  ·obtain rfl : i = N := by omega
   go_wp2
   go_ret
   exact ⟨⟨_, rfl⟩, hb.out⟩
end Go.Proofs.YtbabdhepnjacdaaDoor
