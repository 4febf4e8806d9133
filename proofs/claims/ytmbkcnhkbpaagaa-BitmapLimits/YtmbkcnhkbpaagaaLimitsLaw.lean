/-
  The walk of quarrylaw04.BitmapLimits.
-/
import Derived.Test.YtmbkcnhkbpaagaaMakeWalk
import Derived.Test.YtmbkcnhkbpaagaaChangedBad
namespace Go.Proofs.Ytmbkcnhkbpaagaa
open Go.RowKit

theorem nums_one (w : World) (z : Int) (hz : (Lit.int .i64 z).wf = true) : Nums (w.alloc (.cells #[.int .i64 z] 3)) (some ⟨w.heap.size, 0, none⟩) 1 (fun _ => z) := fun j hj => by
  obtain rfl : j = 0 := by omega
  exact ⟨hz, w.heap.size, 0, rfl, (At.new w _ _).cell 0⟩
theorem nums_none (w : World) (Z : Nat → Int) : Nums w none 0 Z := fun j hj => by omega
theorem high_bit : rowOf (setTo (fun _ => 16777215) 1) 16777216 262143 = 9223372036854775808 := by
  refine (rowOf_eq (by decide) (fun r hr => ?_)).symm
  rw [show (9223372036854775808 : Nat) = 2 ^ 63 by decide, Nat.testBit_two_pow]
  simp only [setTo, Bool.false_or]
  by_cases h : r = 63
  · subst h; decide
  · rw [decide_eq_false (by omega), decide_eq_false (show ¬ ((16777215 : Int) = ((64 * 262143 + r : Nat) : Int)) by omega)]
    simp

set_option maxRecDepth 10000 in
set_option maxHeartbeats 4000000 in
theorem bitmapLimits_walk (w : World) : Calls Try.prog 3 #[] w fun e w' => e = .returned (.bool true) ∧ Below w.heap.size w w' := by
  go_enter Try.func3, Try.ntmps3
  go_wp2_with fail
  refine (make_calls 16777216 (some ⟨w.heap.size, 0, none⟩) 1 1 (fun _ => 16777215) (by decide) (by decide) _ (nums_one w _ (by decide))).mono ?_
  rintro e w1 ⟨hb1, ⟨h, -⟩ | ⟨-, g, K, hK, hg, hrow, rfl⟩⟩
  · exact (h ⟨by decide, by decide, fun t _ => ⟨show (0 : Int) ≤ 16777215 by decide, show (16777215 : Int) < 16777216 by decide⟩⟩).elim
  obtain rfl : K = 262144 := hK.out.trans (by decide)
  have hB1 : Below w.heap.size w w1 := Below.trans (by repeat (first | with_reducible exact Below.refl _ _ | with_reducible refine Below.setCell ?_ (by first | (simp; done) | (simp; omega)) _ | with_reducible refine below_drewN ?_ _ | with_reducible refine Below.alloc ?_ (by first | (simp; done) | (simp; omega)) _ | with_reducible refine Below.drew ?_)) (hb1.mono (by simp))
  have d1 := hrow.cell 262143
  rw [rowCells_get _ (by decide), show ((16777216 : Int).toNat) = 16777216 from rfl, high_bit] at d1
  have hgl := hrow.lt
  clear hK hrow hb1
  go_wp2_with fail
  refine (make_calls 16777217 none 0 0 (fun _ => 0) (by decide) (by decide) _ (nums_none _ _)).mono ?_
  rintro e w2 ⟨hb2, ⟨-, rfl⟩ | ⟨h, -⟩⟩
  rotate_left
  · exact absurd h.2.1 (by decide)
  have hB2 : Below w.heap.size w w2 := Below.trans (hB1.alloc hB1.size _) (hb2.mono (by have := hB1.size; simp; omega))
  have a1 : At w2 w1.heap.size #[.int .i64 16777216, .slice (some ⟨g, 0, none⟩) 262144 262144] 24 := (At.new w1 _ _).keptAll (by exact hb2)
  have d2 : w2.cell? ⟨g, 262143, none⟩ = some (.int .u64 ((9223372036854775808 : Nat) : Int)) := (hb2.cell (p := ⟨g, 262143, none⟩) (by simp; omega)).trans (((Below.refl _ w1).alloc (Nat.le_refl _) _).cell (p := ⟨g, 262143, none⟩) hgl |>.trans d1)
  have hgl2 : g < w2.heap.size := by have := hb2.size; simp at this; omega
  clear d1 hb2 hB1 hgl
  go_wp2_with fail
  refine (make_calls (-1) none 0 0 (fun _ => 0) (by decide) (by decide) _ (nums_none _ _)).mono ?_
  rintro e w3 ⟨hb3, ⟨-, rfl⟩ | ⟨h, -⟩⟩
  rotate_left
  · exact absurd h.1 (by decide)
  have hB3 : Below w.heap.size w w3 := Below.trans (hB2.alloc hB2.size _) (hb3.mono (by have := hB2.size; simp; omega))
  have a3 := (a1.alloc (.cells #[.int .i64 0, .slice none 0 0] 24)).keptAll (by exact hb3)
  have d3 : w3.cell? ⟨g, 262143, none⟩ = some (.int .u64 ((9223372036854775808 : Nat) : Int)) := (hb3.cell (p := ⟨g, 262143, none⟩) (by simp; omega)).trans (((Below.refl _ w2).alloc (Nat.le_refl _) _).cell (p := ⟨g, 262143, none⟩) hgl2 |>.trans d2)
  have hgl3 : g < w3.heap.size := by have := hb3.size; simp at this; omega
  clear d2 hb3 hB2 hgl2 a1
  go_wp2_with fail
  have hn4 := nums_one (w3.alloc (.cells #[.int .i64 0, .slice none 0 0] 24)) 3 (by decide)
  rw [World.size_alloc] at hn4
  refine (make_calls 3 (some ⟨w3.heap.size + 1, 0, none⟩) 1 1 (fun _ => 3) (by decide) (by decide) _ hn4).mono ?_
  rintro e w4 ⟨hb4, ⟨-, rfl⟩ | ⟨h, -⟩⟩
  rotate_left
  · exact absurd (h.2.2 0 (by decide)).2 (by decide)
  have hB4 : Below w.heap.size w w4 := Below.trans ((hB3.alloc hB3.size _).alloc (by have := hB3.size; simp; omega) _) (hb4.mono (by have := hB3.size; simp; omega))
  have a4 := ((a3.alloc (.cells #[.int .i64 0, .slice none 0 0] 24)).alloc (.cells #[.int .i64 3] 3)).keptAll (by exact hb4)
  have d4 : w4.cell? ⟨g, 262143, none⟩ = some (.int .u64 ((9223372036854775808 : Nat) : Int)) := (hb4.cell (p := ⟨g, 262143, none⟩) (by simp; omega)).trans ((((Below.refl _ w3).alloc (Nat.le_refl _) _).alloc (by simp) _).cell (p := ⟨g, 262143, none⟩) hgl3 |>.trans d3)
  have hgl4 : g < w4.heap.size := by have := hb4.size; simp at this; omega
  clear d3 hb4 hB3 hgl3 a3
  go_wp2_with fail
  refine (notBad_calls 3 none 0 0 (fun _ => 0) (by decide) (by decide) (fun h => by have := h.2.1; revert this; decide) _ (wds_none _ _ _)).mono ?_
  rintro e w5 ⟨rfl, hb5⟩
  have hB5 : Below w.heap.size w w5 := Below.trans (hB4.alloc hB4.size _) (hb5.mono (by have := hB4.size; simp; omega))
  have a5 := (a4.alloc (.cells #[.int .i64 0, .slice none 0 0] 24)).keptAll (by exact hb5)
  have d5 : w5.cell? ⟨g, 262143, none⟩ = some (.int .u64 ((9223372036854775808 : Nat) : Int)) := (hb5.cell (p := ⟨g, 262143, none⟩) (by simp; omega)).trans (((Below.refl _ w4).alloc (Nat.le_refl _) _).cell (p := ⟨g, 262143, none⟩) hgl4 |>.trans d4)
  have hgl5 : g < w5.heap.size := by have := hb5.size; simp at this; omega
  have a6 := a5.alloc (.cells #[.int .i64 0, .slice none 0 0] 24)
  obtain ⟨c0, c1, -, -⟩ := a6.facts
  have d6 : (w5.alloc (.cells #[.int .i64 0, .slice none 0 0] 24)).cell? ⟨g, 262143, none⟩ = some (.int .u64 9223372036854775808) := (((Below.refl _ w5).alloc (Nat.le_refl _) _).cell (p := ⟨g, 262143, none⟩) hgl5).trans d5
  clear d4 d5 hb5 hB4 hgl4 a4 a5 a6
  go_wp2
  go_ret
  exact ⟨rfl, hB5.alloc hB5.size _⟩
end Go.Proofs.Ytmbkcnhkbpaagaa
