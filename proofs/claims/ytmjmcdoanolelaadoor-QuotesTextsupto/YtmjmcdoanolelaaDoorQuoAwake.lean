/-
  What quarrylaw07.awake answers: true.
-/
import Derived.Test.YtmjmcdoanolelaaDoorQuoTold
import Derived.Test.YtmjmcdoanolelaaDoorQuoCtl
namespace Go.Proofs.YtmjmcdoanolelaaDoor
open Go.RowKit Go.Shelf

theorem aw_marks : rowOf (markS ⟨#[34, 97, 92, 34, 98, 34, 44, 99]⟩) 8 0 = 33 := by decide +kernel
theorem aw_inside : rowOf (inS ⟨#[34, 97, 92, 34, 98, 34, 44, 99]⟩) 8 0 = 31 := by decide +kernel
theorem aw_open : openS ⟨#[34, 97, 92, 34, 98, 34, 44, 99]⟩ = false := by decide +kernel
theorem aw_open1 : openS ⟨#[34]⟩ = true := by decide +kernel
theorem aw_ctl : IsCtl ⟨#[34, 97, 10, 98, 34]⟩ 2 := .inl ⟨2, rfl, by decide, by decide +kernel, by decide +kernel, fun i hi => by
  match i, hi with
  | 0, _ => decide +kernel
  | 1, _ => decide +kernel⟩
theorem aw_spans : spansS ⟨#[34, 97, 92, 34, 98, 34, 44, 99]⟩ = [(1, 5)] := by decide +kernel

set_option maxRecDepth 10000 in
set_option maxHeartbeats 4000000 in
theorem awake7_calls (w : World) (hT : Tab w) (hw0 : 0 < w.heap.size) : Calls Tryd.prog 16 #[] w fun e w' => e = .returned (.bool true) ∧ Below w.heap.size w w' := by
  have hmk := hid (fun (w1 : World) (hb : Below w.heap.size w w1) => show Calls Tryd.prog 10 #[.string ⟨#[34, 97, 92, 34, 98, 34, 44, 99]⟩] w1 fun e w' => ∃ g, w1.heap.size ≤ g ∧ e = .returned (.agg #[.int .i64 8, .slice (some ⟨g, 0, none⟩) 1 1]) ∧ At w' g #[.int .u64 33] 46 ∧ Below w1.heap.size w1 w' from
    (marksQ_calls ⟨#[34, 97, 92, 34, 98, 34, 44, 99]⟩ (by decide) w1 (hT.below hb hw0) (Nat.lt_of_lt_of_le hw0 hb.size)).mono fun e w' ⟨g2, h1, h2, h3, h4⟩ => ⟨g2, h1, h2, by
      have e : rowCells (need (⟨#[34, 97, 92, 34, 98, 34, 44, 99]⟩ : ByteArray).size) (rowOf (markS ⟨#[34, 97, 92, 34, 98, 34, 44, 99]⟩) (⟨#[34, 97, 92, 34, 98, 34, 44, 99]⟩ : ByteArray).size) = #[.int .u64 33] := (by show #[Value.int .u64 ((rowOf (markS ⟨#[34, 97, 92, 34, 98, 34, 44, 99]⟩) 8 0 : Nat) : Int)] = _; rw [aw_marks]; rfl)
      rw [e] at h3; exact h3, h4⟩)
  have hin := hid (fun (w1 : World) (hb : Below w.heap.size w w1) => show Calls Tryd.prog 12 #[.string ⟨#[34, 97, 92, 34, 98, 34, 44, 99]⟩] w1 fun e w' => ∃ g, w1.heap.size ≤ g ∧ e = .returned (.agg #[.int .i64 8, .slice (some ⟨g, 0, none⟩) 1 1]) ∧ At w' g #[.int .u64 31] 46 ∧ Below w1.heap.size w1 w' from
    (insideQ_calls ⟨#[34, 97, 92, 34, 98, 34, 44, 99]⟩ (by decide) w1 (hT.below hb hw0) (Nat.lt_of_lt_of_le hw0 hb.size)).mono fun e w' ⟨g2, h1, h2, h3, h4⟩ => ⟨g2, h1, h2, by
      have e : rowCells (need (⟨#[34, 97, 92, 34, 98, 34, 44, 99]⟩ : ByteArray).size) (rowOf (inS ⟨#[34, 97, 92, 34, 98, 34, 44, 99]⟩) (⟨#[34, 97, 92, 34, 98, 34, 44, 99]⟩ : ByteArray).size) = #[.int .u64 31] := (by show #[Value.int .u64 ((rowOf (inS ⟨#[34, 97, 92, 34, 98, 34, 44, 99]⟩) 8 0 : Nat) : Int)] = _; rw [aw_inside]; rfl)
      rw [e] at h3; exact h3, h4⟩)
  have hT' := hid hT
  clear hT
  go_enter Tryd.func16, Tryd.ntmps16
  go_wp2_with fail
  refine Calls.mono (hmk.out _ (by repeat (first | with_reducible exact Below.refl _ _ | with_reducible refine Below.setCell ?_ (by first | (simp; done) | (simp; omega)) _ | with_reducible refine below_drewN ?_ _ | with_reducible refine Below.alloc ?_ (by first | (simp; done) | (simp; omega)) _ | with_reducible refine Below.drew ?_))) ?_
  rintro e w1 ⟨g1, hg1, rfl, hA1, hb1⟩
  go_wp2_with fail
  refine Calls.mono (hin.out _ hb1) ?_
  rintro e w2 ⟨g2, hg2, rfl, hA2, hb2⟩
  replace hA1 := hA1.keptAll hb2
  have hB2 := hb1.trans (hb2.mono hb1.size)
  clear hmk hin hb1 hb2
  have c1 := ((hA1.alloc (.cells #[.int .i64 8, .slice (some ⟨g1, 0, none⟩) 1 1] 25)).alloc (.cells #[.int .i64 8, .slice (some ⟨g2, 0, none⟩) 1 1] 25)).cell 0
  have c2 := ((hA2.alloc (.cells #[.int .i64 8, .slice (some ⟨g1, 0, none⟩) 1 1] 25)).alloc (.cells #[.int .i64 8, .slice (some ⟨g2, 0, none⟩) 1 1] 25)).cell 0
  simp only [List.getElem?_toArray, List.getElem?_cons_zero] at c1 c2
  have hB3 := (hB2.alloc hB2.size (.cells #[.int .i64 8, .slice (some ⟨g1, 0, none⟩) 1 1] 25)).alloc (by simp; have := hB2.size; omega) (.cells #[.int .i64 8, .slice (some ⟨g2, 0, none⟩) 1 1] 25)
  have hB3' := hid hB3
  clear hA1 hA2 hB2 hg1 hg2 hB3
  go_wp2_with fail
  refine Calls.mono (openQ_calls ⟨#[34, 97, 92, 34, 98, 34, 44, 99]⟩ (by decide) false aw_open _ (hT'.out.below hB3'.out hw0) (by simp)) ?_
  rintro e w3 ⟨rfl, hb3⟩
  have hB4 := hid (hB3'.out.trans (hb3.mono hB3'.out.size))
  clear hB3' hb3 c1 c2
  go_wp2_with fail
  refine Calls.mono (openQ_calls ⟨#[34]⟩ (by decide) true aw_open1 _ (hT'.out.below hB4.out hw0) (Nat.lt_of_lt_of_le hw0 hB4.out.size)) ?_
  rintro e w4 ⟨rfl, hb4⟩
  have hB5 := hid (hB4.out.trans (hb4.mono hB4.out.size))
  clear hB4 hb4
  go_wp2_with fail
  refine Calls.mono (controlQ_calls ⟨#[34, 97, 10, 98, 34]⟩ (by decide) 2 aw_ctl _ (hT'.out.below hB5.out hw0) (Nat.lt_of_lt_of_le hw0 hB5.out.size)) ?_
  rintro e w5 ⟨rfl, hb5⟩
  have hB6 := hid (hB5.out.trans (hb5.mono hB5.out.size))
  clear hB5 hb5
  go_wp2_with fail
  refine Calls.mono (textsQ_calls ⟨#[34, 97, 92, 34, 98, 34, 44, 99]⟩ (by decide) _ (hT'.out.below hB6.out hw0) (Nat.lt_of_lt_of_le hw0 hB6.out.size)) ?_
  rintro e w6 ⟨bm, bs, g, -, -, -, rfl, hX, hb6⟩
  have hB7 := hid (hB6.out.trans (hb6.mono hB6.out.size))
  have hX' := hid hX
  clear hB6 hb6 hX
  go_wp2_with fail
  have hB8 := hB7.out.alloc hB7.out.size (.cells #[.int .i64 1, .int .i64 5] 36)
  refine Calls.mono (told7_calls ⟨#[34, 97, 92, 34, 98, 34, 44, 99]⟩ (by decide) bm bs g 1 _ _ _ (by rw [aw_spans]; exact rfl) (hX'.out.kept (by repeat (first | with_reducible exact Below.refl _ _ | with_reducible refine Below.setCell ?_ (by first | (simp; done) | (simp; omega)) _ | with_reducible refine below_drewN ?_ _ | with_reducible refine Below.alloc ?_ (by first | (simp; done) | (simp; omega)) _ | with_reducible refine Below.drew ?_))) (hT'.out.below hB8 hw0) (by simp) ?_) ?_
  · rw [aw_spans]
    intro j P C hj
    match j, hj with
    | 0, hj =>
      cases hj
      exact ⟨_, rfl, by simp, (At.new w6 _ _).cell 0, (At.new w6 _ _).cell 1⟩
  rintro e w7 ⟨rfl, hb7⟩
  have hB9 := hid (hB8.trans (hb7.mono hB8.size))
  clear hb7 hB8 hX' hB7
  go_wp2
  go_ret
  exact ⟨rfl, hB9.out⟩
end Go.Proofs.YtmjmcdoanolelaaDoor
