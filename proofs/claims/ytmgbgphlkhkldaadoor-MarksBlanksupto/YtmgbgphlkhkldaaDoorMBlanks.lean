/-
  The walk of quarrylaw08.MarksBlanks.
-/
import Derived.Test.YtmgbgphlkhkldaaDoorRefBlk
import Derived.Test.YtmgbgphlkhkldaaDoorMkBlanks
namespace Go.Proofs.YtmgbgphlkhkldaaDoor
open Go.RowKit Go.Shelf

theorem blanksC_calls (w : World) (hT : Tab w) (hM : TabM w) (hw0 : 1 < w.heap.size) :
    Calls Tryd.prog 12 #[.string ⟨#[49, 32]⟩] w fun e w' => ∃ g, e = .returned (.agg #[.int .i64 2, .slice (some ⟨g, 0, none⟩) 1 1]) ∧ w'.cell? ⟨g, 0, none⟩ = some (.int .u64 2) ∧ Below w.heap.size w w' := by
  refine (blanks8_calls ⟨#[49, 32]⟩ (by decide) w hT hM hw0).mono ?_
  rintro e w' ⟨g, -, rfl, hA, hb⟩
  refine ⟨g, rfl, ?_, hb⟩
  have h := hA.cell 0
  rw [rowCells_get _ (by decide)] at h
  rw [h, show rowOf (blankS ⟨#[49, 32]⟩) (ByteArray.size ⟨#[49, 32]⟩) 0 = 2 by decide +kernel]
  rfl

set_option maxRecDepth 10000 in
set_option maxHeartbeats 4000000 in
theorem marksBlanks_walk (s : ByteArray) (hs : s.size ≤ 1048576) (w : World) (hT : Tab w) (hM : TabM w) (h0 : 1 < w.heap.size) :
    Calls Tryd.prog 4 #[.string s] w fun e w' => e = .returned (.bool true) ∧ Below w.heap.size w w' := by
  have hC := hid (fun (w1 : World) (hb : Below w.heap.size w w1) => blanksC_calls w1 (hT.below hb (by omega)) (hM.below hb h0) (by have := hb.size; omega))
  have hS := hid (fun (w1 : World) (hb : Below w.heap.size w w1) => blanks8_calls s (by omega) w1 (hT.below hb (by omega)) (hM.below hb h0) (by have := hb.size; omega))
  have hfl := fun (x y : Value) (u : World) => field_bits1 x y u
  have hfl0 : ∀ (x y : Value) (u : World), (Instr.field 28 (.agg #[x, y]) 0).run Tryd.prog u = .ok x u := fun _ _ _ => by kernel_rfl
  clear hT hM
  go_enter Tryd.func4, Tryd.ntmps4
  go_wp2_with fail
  refine Calls.mono (hC.out _ (Below.refl _ _)) ?_
  rintro e w1 ⟨g1, rfl, -, hb1⟩
  go_wp2_with fail
  refine Calls.mono (hC.out _ hb1) ?_
  rintro e w2 ⟨g2, rfl, -, hb2⟩
  have hB2 := hb1.trans (hb2.mono hb1.size)
  clear hb1 hb2
  go_wp2_with fail
  refine Calls.mono (hC.out _ hB2) ?_
  rintro e w3 ⟨g3, rfl, hc3, hb3⟩
  have hB3 := hB2.trans (hb3.mono hB2.size)
  clear hB2 hb3 hC
  go_wp2_with fail
  refine Calls.mono (hS.out _ hB3) ?_
  rintro e w4 ⟨g4, hg4, rfl, hA4, hb4⟩
  have hA4' := hid hA4
  have hB4 := hid (hB3.trans (hb4.mono hB3.size))
  clear hA4 hb4 hB3 hS hc3
  go_wp2_with fail
  refine Calls.mono (refBlanks_calls s hs w4) ?_
  rintro e w5 ⟨v, rfl, hrow, hb5⟩
  obtain ⟨ro, rc, rfl, hwd⟩ := wds_of_row hrow (fun _ _ => rowOf_lt _ _ _)
  have hwd' := hid hwd
  have hA5 := hid (hA4'.out.keptAll hb5)
  have hB5 := hid (hB4.out.trans (hb5.mono hB4.out.size))
  clear hrow hwd hA4' hB4 hb5
  go_wp2_with fail
  refine Calls.mono (same6 (by omega) _ _ _ _ _ (hA5.out.wds (fun _ _ => rowOf_lt _ _ _) (Nat.le_refl _)) hwd'.out) ?_
  rintro e w6 ⟨rfl, hb6⟩
  have hB6 := hid (hB5.out.trans (hb6.mono hB5.out.size))
  clear hwd' hA5 hB5 hb6
  go_wp2
  go_ret
  exact ⟨rfl, hB6.out⟩
end Go.Proofs.YtmgbgphlkhkldaaDoor
