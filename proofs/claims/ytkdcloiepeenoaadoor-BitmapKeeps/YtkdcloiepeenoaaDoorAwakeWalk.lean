/-
  What quarrylaw04.awake answers.
-/
import Derived.Test.YtkdcloiepeenoaaDoorTurnOps
import Derived.Test.YtkdcloiepeenoaaDoorGetWalk
import Derived.Test.YtkdcloiepeenoaaDoorNextWalk
import Derived.Test.YtkdcloiepeenoaaDoorLastWalk
import Derived.Test.YtkdcloiepeenoaaDoorSelWalk
import Derived.Test.YtkdcloiepeenoaaDoorCountWalk
namespace Go.Proofs.YtkdcloiepeenoaaDoor
open Go.RowKit Go.Shelf

/-- The places that are named. -/
def zA (j : Nat) : Int := ([0, 3, 64, 3] : List Int).getD j 0
/-- The row that comes of them, and the one that comes of that. -/
def xA (j : Nat) : Nat := if j = 0 then 9 else if j = 1 then 1 else 0
def yA (j : Nat) : Nat := if j = 0 then 18446744073709551606 else if j = 1 then 62 else 0
theorem xA_row (j : Nat) (hj : j < 2) : rowOf (setTo zA 4) 70 j = xA j := (show ∀ j : Fin 2, rowOf (setTo zA 4) 70 j.val = xA j.val by decide +kernel) ⟨j, hj⟩
theorem yA_row (j : Nat) (hj : j < 2) : rowOf (fun i => !bitAt xA i) 70 j = yA j := (show ∀ j : Fin 2, rowOf (fun i => !bitAt xA i) 70 j.val = yA j.val by decide +kernel) ⟨j, hj⟩
theorem xA_lt (j : Nat) : xA j < 18446744073709551616 := by unfold xA; split <;> (try split) <;> decide
theorem yA_lt (j : Nat) : yA j < 18446744073709551616 := by unfold yA; split <;> (try split) <;> decide
theorem xA_formed : formed 70 2 xA := ⟨by decide, by decide, fun i h1 h2 => by
  have h3 : 70 ≤ i := h1
  have := (show ∀ i : Fin 128, 70 ≤ i.val → bitAt xA i.val = false by decide +kernel) ⟨i, h2⟩ h3
  exact this⟩
theorem yA_formed : formed 70 2 yA := ⟨by decide, by decide, fun i h1 h2 => by
  have h3 : 70 ≤ i := h1
  have := (show ∀ i : Fin 128, 70 ≤ i.val → bitAt yA i.val = false by decide +kernel) ⟨i, h2⟩ h3
  exact this⟩
theorem xA_eff : Eff 70 2 xA 70 := .inl ⟨xA_formed, rfl⟩
theorem yA_eff : Eff 70 2 yA 70 := .inl ⟨yA_formed, rfl⟩
theorem yA_count : cntIn yA 70 0 70 = 67 := by decide +kernel
theorem xA_sel : IsSel xA 70 2 64 := .inl ⟨64, rfl, by decide, by decide +kernel, by decide +kernel⟩
theorem xA_next : IsNext xA 70 4 64 := .inl ⟨64, rfl, by decide, by decide +kernel, by decide, fun i h1 h2 => (show ∀ i : Fin 64, 4 ≤ i.val → bitAt xA i.val = false by decide +kernel) ⟨i, h2⟩ (by show 4 ≤ i; omega)⟩
theorem xA_last : IsLast xA 70 64 3 := .inl ⟨3, rfl, by decide, by decide +kernel, by decide, fun i h1 _ h2 => (show ∀ i : Fin 64, 3 < i.val → bitAt xA i.val = false by decide +kernel) ⟨i, by omega⟩ h1⟩
theorem xA_get : getB xA 70 3 = true := by decide +kernel
theorem zA_good : makeE 70 4 zA 0 70 2 := .inr ⟨⟨by decide, by decide, fun t ht => (show ∀ t : Fin 4, 0 ≤ zA t.val ∧ zA t.val < 70 by decide +kernel) ⟨t, ht⟩⟩, rfl, rfl, by decide⟩
theorem nums_zA (w : World) : Nums (w.alloc (.cells #[.int .i64 0, .int .i64 3, .int .i64 64, .int .i64 3] 3)) (some ⟨w.heap.size, 0, none⟩) 4 zA := fun j hj => by
  have h := (At.new w #[.int .i64 0, .int .i64 3, .int .i64 64, .int .i64 3] 3).cell j
  match j, hj with
  | 0, _ => exact ⟨by decide, w.heap.size, 0, rfl, h⟩
  | 1, _ => exact ⟨by decide, w.heap.size, 0, rfl, h⟩
  | 2, _ => exact ⟨by decide, w.heap.size, 0, rfl, h⟩
  | 3, _ => exact ⟨by decide, w.heap.size, 0, rfl, h⟩
theorem Own.got {B : Nat} {w : World} {so : Option Addr} {r : Nat} {Z : Nat → Nat} (h : Own B w so r Z) (hr : r ≠ 0) : ∃ g, so = some ⟨g, 0, none⟩ ∧ B ≤ g ∧ At w g (rowCells r Z) 39 := by
  rcases h with ⟨_, h⟩ | h
  · exact (hr h).elim
  · exact h

set_option maxRecDepth 10000 in
set_option maxHeartbeats 4000000 in
theorem awake_calls (w : World) (hT : Tab w) (h0 : 0 < w.heap.size) : Calls Tryd.prog 7 #[] w fun e w' => e = .returned (.bool true) ∧ Below w.heap.size w w' := by
  go_enter Tryd.func7, Tryd.ntmps7
  go_wp2_with fail
  refine (make_calls 70 (some ⟨w.heap.size, 0, none⟩) 4 4 zA (by decide) (by decide) _ (nums_zA w)).mono ?_
  rintro e w1 hm
  obtain ⟨hb1, so, hown, rfl⟩ := (hm.gives zA_good).congr xA_row
  obtain ⟨g, rfl, hg, hrow⟩ := hown.got (by decide)
  have hB1 : Below w.heap.size w w1 := Below.trans (by repeat (first | with_reducible exact Below.refl _ _ | with_reducible refine Below.setCell ?_ (by first | (simp; done) | (simp; omega)) _ | with_reducible refine below_drewN ?_ _ | with_reducible refine Below.alloc ?_ (by first | (simp; done) | (simp; omega)) _ | with_reducible refine Below.drew ?_)) (hb1.mono (by simp))
  have hW1 : Wds w1 (some ⟨g, 0, none⟩) 2 xA := hrow.wds (fun j _ => xA_lt j) (Nat.le_refl _)
  have hnc : Hid _ := fun (w1 : World) (hW : Wds w1 (some ⟨g, 0, none⟩) 2 xA) => not_calls 70 (some ⟨g, 0, none⟩) 2 2 xA 0 70 2 (by decide) (by decide) (.inr ⟨xA_formed, rfl, rfl, rfl⟩) w1 hW
  clear hm hb1 hg hrow hown
  go_wp2_with fail
  refine Calls.mono (hnc.out _ (hW1.kept (by repeat (first | with_reducible exact Below.refl _ _ | with_reducible refine Below.setCell ?_ (by first | (simp; done) | (simp; omega)) _ | with_reducible refine below_drewN ?_ _ | with_reducible refine Below.alloc ?_ (by first | (simp; done) | (simp; omega)) _ | with_reducible refine Below.drew ?_)))) ?_
  rintro e w2 hgv
  obtain ⟨hb2, so, hown, rfl⟩ := hgv.congr yA_row
  obtain ⟨g2, rfl, hg2, hrow2⟩ := hown.got (by decide)
  have hB2 : Below w.heap.size w w2 := Below.trans (hB1.alloc hB1.size _) (hb2.mono (by have := hB1.size; simp; omega))
  have a2 : At w2 w1.heap.size #[.int .i64 70, .slice (some ⟨g, 0, none⟩) 2 2] 24 := (At.new w1 _ _).keptAll hb2
  have a3 := a2.alloc (.cells #[.int .i64 70, .slice (some ⟨g2, 0, none⟩) 2 2] 24)
  have b3 := At.new w2 #[.int .i64 70, .slice (some ⟨g2, 0, none⟩) 2 2] 24
  have hW2 : Wds w2 (some ⟨g, 0, none⟩) 2 xA := (hW1.kept (w' := w1.alloc (.cells #[.int .i64 70, .slice (some ⟨g, 0, none⟩) 2 2] 24)) (by repeat (first | with_reducible exact Below.refl _ _ | with_reducible refine Below.setCell ?_ (by first | (simp; done) | (simp; omega)) _ | with_reducible refine below_drewN ?_ _ | with_reducible refine Below.alloc ?_ (by first | (simp; done) | (simp; omega)) _ | with_reducible refine Below.drew ?_))).kept hb2
  have hV2 : Wds w2 (some ⟨g2, 0, none⟩) 2 yA := hrow2.wds (fun j _ => yA_lt j) (Nat.le_refl _)
  have hB3 : Below w.heap.size w (w2.alloc (.cells #[.int .i64 70, .slice (some ⟨g2, 0, none⟩) 2 2] 24)) := hB2.alloc hB2.size _
  have hW3 : Wds (w2.alloc (.cells #[.int .i64 70, .slice (some ⟨g2, 0, none⟩) 2 2] 24)) (some ⟨g, 0, none⟩) 2 xA := hW2.kept (by repeat (first | with_reducible exact Below.refl _ _ | with_reducible refine Below.setCell ?_ (by first | (simp; done) | (simp; omega)) _ | with_reducible refine below_drewN ?_ _ | with_reducible refine Below.alloc ?_ (by first | (simp; done) | (simp; omega)) _ | with_reducible refine Below.drew ?_))
  have hV3 : Wds (w2.alloc (.cells #[.int .i64 70, .slice (some ⟨g2, 0, none⟩) 2 2] 24)) (some ⟨g2, 0, none⟩) 2 yA := hV2.kept (by repeat (first | with_reducible exact Below.refl _ _ | with_reducible refine Below.setCell ?_ (by first | (simp; done) | (simp; omega)) _ | with_reducible refine below_drewN ?_ _ | with_reducible refine Below.alloc ?_ (by first | (simp; done) | (simp; omega)) _ | with_reducible refine Below.drew ?_))
  obtain ⟨c0, c1, -, -⟩ := a3.facts
  obtain ⟨c2, c3, -, -⟩ := b3.facts
  have x0 := hW3 0 (by decide)
  have x1 := hW3 1 (by decide)
  obtain ⟨-, _, _, e0, x0⟩ := x0
  obtain ⟨-, _, _, e1, x1⟩ := x1
  cases e0
  cases e1
  replace x0 : _ = some (Value.int .u64 9) := x0
  replace x1 : _ = some (Value.int .u64 1) := x1
  have a3' := hid (a3)
  have hW3' := hid (hW3)
  have hV3' := hid (hV3)
  clear hnc hgv hb2 hown hg2 hrow2 hB2 a2 a3 b3 hW2 hV2 hW3 hV3 hW1 hB1
  have hT3 := hid (hT.below hB3 h0)
  have h3 : 0 < w2.heap.size + 1 := by omega
  have hcc : Hid _ := fun (w1 : World) (hW : Wds w1 (some ⟨g2, 0, none⟩) 2 yA) => count_calls 70 0 70 (some ⟨g2, 0, none⟩) 2 2 yA 70 67 (by decide) (by decide) (by decide) (by decide) yA_eff yA_count w1 hW
  have hsc : Hid _ := fun (w1 : World) (hT : Tab w1) (h0 : 0 < w1.heap.size) (hW : Wds w1 (some ⟨g, 0, none⟩) 2 xA) => sel_at 70 2 64 (some ⟨g, 0, none⟩) 2 2 xA 70 (by decide) (by decide) (by decide) xA_eff xA_sel w1 hT h0 hW
  have hnc : Hid _ := fun (w1 : World) (hT : Tab w1) (h0 : 0 < w1.heap.size) (hW : Wds w1 (some ⟨g, 0, none⟩) 2 xA) => next_at 70 4 64 (some ⟨g, 0, none⟩) 2 2 xA 70 (by decide) (by decide) (by decide) xA_eff xA_next w1 hT h0 hW
  have hlc : Hid _ := fun (w1 : World) (hW : Wds w1 (some ⟨g, 0, none⟩) 2 xA) => last_at 70 64 3 (some ⟨g, 0, none⟩) 2 2 xA 70 (by decide) (by decide) (by decide) xA_eff xA_last w1 hW
  have hgc : Hid _ := fun (w1 : World) (hW : Wds w1 (some ⟨g, 0, none⟩) 2 xA) => get_calls 70 3 (some ⟨g, 0, none⟩) 2 2 xA 70 true (by decide) (by decide) (by decide) xA_eff xA_get w1 hW
  go_wp2_with fail
  refine Calls.mono (hcc.out _ hV3'.out) ?_
  rintro e w4 ⟨rfl, hb4⟩
  have a4 := a3'.out.keptAll hb4
  have hW4 := hid (hW3'.out.kept hb4)
  have hT4 := hid (hT3.out.below hb4 (by simp))
  have hB4 := hB3.trans (hb4.mono hB3.size)
  have h4 : 0 < w4.heap.size := Nat.lt_of_lt_of_le h0 hB4.size
  clear c0 c1 c2 c3 x0 x1 hcc a3' hW3' hV3' hT3 hB3 hb4
  obtain ⟨c0, c1, -, -⟩ := a4.facts
  have a4' := hid (a4)
  clear a4
  go_wp2_with fail
  refine Calls.mono (hsc.out _ hT4.out h4 hW4.out) ?_
  rintro e w5 ⟨rfl, hb5⟩
  have a5 := a4'.out.keptAll hb5
  have hW5 := hid (hW4.out.kept hb5)
  have hT5 := hid (hT4.out.below hb5 h4)
  have hB5 := hB4.trans (hb5.mono hB4.size)
  have h5 : 0 < w5.heap.size := Nat.lt_of_lt_of_le h0 hB5.size
  clear c0 c1 hsc a4' hW4 hT4 hB4 hb5
  obtain ⟨c0, c1, -, -⟩ := a5.facts
  have a5' := hid (a5)
  clear a5
  go_wp2_with fail
  refine Calls.mono (hnc.out _ hT5.out h5 hW5.out) ?_
  rintro e w6 ⟨rfl, hb6⟩
  have a6 := a5'.out.keptAll hb6
  have hW6 := hid (hW5.out.kept hb6)
  have hB6 := hB5.trans (hb6.mono hB5.size)
  clear c0 c1 hnc a5' hW5 hT5 hB5 hb6
  obtain ⟨c0, c1, -, -⟩ := a6.facts
  have a6' := hid (a6)
  clear a6
  go_wp2_with fail
  refine Calls.mono (hlc.out _ hW6.out) ?_
  rintro e w7 ⟨rfl, hb7⟩
  have a7 := a6'.out.keptAll hb7
  have hW7 := hid (hW6.out.kept hb7)
  have hB7 := hB6.trans (hb7.mono hB6.size)
  clear c0 c1 hlc a6' hW6 hB6 hb7
  obtain ⟨c0, c1, -, -⟩ := a7.facts
  clear a7
  go_wp2_with fail
  refine Calls.mono (hgc.out _ hW7.out) ?_
  rintro e w8 ⟨rfl, hb8⟩
  have hB8 := hB7.trans (hb8.mono hB7.size)
  clear c0 c1 hgc hW7 hB7 hb8
  go_wp2
  go_ret
  exact ⟨rfl, hB8⟩
end Go.Proofs.YtkdcloiepeenoaaDoor
