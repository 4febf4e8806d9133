/-
  What quarrylaw10.awake answers.
-/
import Derived.Test.YtomeaejjdjidlaaDoorLvB
import Derived.Test.YtomeaejjdjidlaaDoorLvC
import Derived.Test.YtomeaejjdjidlaaDoorSameI
namespace Go.Proofs.YtomeaejjdjidlaaDoor
open Go.RowKit Go.Shelf

def aw10 : ByteArray := ⟨#[123, 34, 97, 34, 58, 91, 49, 44, 50, 93, 44, 34, 98, 58, 34, 58, 51, 125]⟩
theorem aw10_depth : depN aw10 6 = 2 := by decide +kernel
theorem aw10_close5 : IsCls aw10 5 9 := .inl ⟨5, rfl, by decide +kernel, .inl ⟨9, rfl, by decide +kernel, by decide +kernel, fun q hq => (show ∀ i : Fin 9, clsP aw10 5 i.val = false by decide +kernel) ⟨q, hq⟩⟩⟩
theorem aw10_close0 : IsCls aw10 0 17 := .inl ⟨0, rfl, by decide +kernel, .inl ⟨17, rfl, by decide +kernel, by decide +kernel, fun q hq => (show ∀ i : Fin 17, clsP aw10 0 i.val = false by decide +kernel) ⟨q, hq⟩⟩⟩
theorem aw10_colons : fl (fun i => lvS 58 aw10 1 i && (decide ((0 : Int) ≤ (i : Int)) && decide ((i : Int) < 99))) 18 = [4, 15] := by decide +kernel
theorem aw10_commas : fl (fun i => lvS 44 aw10 2 i && (decide ((0 : Int) ≤ (i : Int)) && decide ((i : Int) < 99))) 18 = [7] := by decide +kernel
theorem new_at (w : World) (L : List Nat) (t : TypeId) : IntsAt (w.alloc (.cells (ints L).toArray t)) (some ⟨w.heap.size, 0, none⟩) L := fun j p hj => by
  refine ⟨w.heap.size, rfl, by simp, ?_⟩
  rw [(At.new w _ _).cell j]
  simp [ints, hj]

set_option maxRecDepth 10000 in
set_option maxHeartbeats 4000000 in
theorem awake10_calls (w : World) (hT : Tab w) (hM : TabM w) (h0 : 1 < w.heap.size) :
    Calls Tryd.prog 24 #[] w fun e w' => e = .returned (.bool true) ∧ Below w.heap.size w w' := by
  have hBu := hid (build_calls aw10 (by decide) 2 (by decide) (by decide) w hT hM h0)
  have hDe := hid (fun (w1 : World) (hb : Below w.heap.size w w1) => depth_calls aw10 (by decide) 6 2 aw10_depth w1 (hT.below hb (by omega)) (hM.below hb h0) (by have := hb.size; omega))
  have hC5 := hid (fun (w1 : World) (hb : Below w.heap.size w w1) => close_calls aw10 (by decide) 5 (by decide) w1 (hT.below hb (by omega)) (hM.below hb h0) (by have := hb.size; omega))
  have hC0 := hid (fun (w1 : World) (hb : Below w.heap.size w w1) => close_calls aw10 (by decide) 0 (by decide) w1 (hT.below hb (by omega)) (hM.below hb h0) (by have := hb.size; omega))
  have hT' := hid hT
  have h0' := hid h0
  clear hT hM h0
  go_enter Tryd.func24, Tryd.ntmps24
  go_wp2_with fail
  refine Calls.mono hBu.out ?_
  rintro e w1 ⟨A, B, rfl, hL⟩
  obtain ⟨hA0, hAB, hA, hB, hb1⟩ := hL
  obtain ⟨V, hV⟩ : ∃ V, w1.alloc (.cells #[.slice (some ⟨A, 0, none⟩) 2 2, .slice (some ⟨B, 0, none⟩) 2 2] 47) = V := ⟨_, rfl⟩
  have aV : At V w1.heap.size #[.slice (some ⟨A, 0, none⟩) 2 2, .slice (some ⟨B, 0, none⟩) 2 2] 47 := by rw [← hV]; exact At.new w1 _ _
  have bV : Below w1.heap.size w1 V := by rw [← hV]; repeat (first | with_reducible exact Below.refl _ _ | with_reducible refine Below.setCell ?_ (by first | (simp; done) | (simp; omega)) _ | with_reducible refine below_drewN ?_ _ | with_reducible refine Below.alloc ?_ (by first | (simp; done) | (simp; omega)) _ | with_reducible refine Below.drew ?_)
  have hbV := hid (hb1.trans (bV.mono hb1.size))
  have hAV := hid (hA.kept bV)
  have hBV := hid (hB.kept bV)
  obtain ⟨b, hb⟩ : ∃ b, w1.heap.size = b := ⟨_, rfl⟩
  rw [hb] at aV
  have aV' := hid aV
  obtain ⟨c0, c1, -, -⟩ := aV.factsL
  clear hA hB hb1 bV aV hA0 hAB hBu
  go_wp2_with fail
  clear hV hb c0 c1
  refine Calls.mono (hDe.out _ hbV.out) ?_
  rintro e w2 ⟨rfl, q2⟩
  have hb2 := hid (hbV.out.trans (q2.mono hbV.out.size))
  have hA2 := hid (hAV.out.kept q2)
  have hB2 := hid (hBV.out.kept q2)
  have a2 := hid (aV'.out.keptAll q2)
  clear q2 hbV hAV hBV aV' hDe
  go_wp2_with fail
  refine Calls.mono (hC5.out _ hb2.out) ?_
  rintro e w3 ⟨c, rfl, hc, q3⟩
  obtain rfl := hc.uniq aw10_close5
  have hb3 := hid (hb2.out.trans (q3.mono hb2.out.size))
  have hA3 := hid (hA2.out.kept q3)
  have hB3 := hid (hB2.out.kept q3)
  have a3 := hid (a2.out.keptAll q3)
  clear q3 hb2 hA2 hB2 a2 hC5 hc
  go_wp2_with fail
  refine Calls.mono (hC0.out _ hb3.out) ?_
  rintro e w4 ⟨c, rfl, hc, q4⟩
  obtain rfl := hc.uniq aw10_close0
  have hb4 := hid (hb3.out.trans (q4.mono hb3.out.size))
  have hA4 := hid (hA3.out.kept q4)
  have hB4 := hid (hB3.out.kept q4)
  have a4 := hid (a3.out.keptAll q4)
  clear q4 hb3 hA3 hB3 a3 hC0 hc
  obtain ⟨c0, c1, -, -⟩ := a4.out.factsL
  have hcol := hid (colons_of (.slice (some ⟨A, 0, none⟩) 2 2) (.slice (some ⟨B, 0, none⟩) 2 2) 1 0 99 w4 (PlaW w4 [4, 15]) (fun W hW => by
    have h := within_lv A 2 18 _ (fun k => lvS 58 aw10 (k + 1)) 0 0 99 (by decide) (by decide) (by decide) (by decide) (by decide) (fun _ _ => rfl) w4 (hT'.out.below hb4.out (by have := h0'.out; omega)) (by have := h0'.out; have := hb4.out.size; omega) hA4.out W hW
    rw [aw10_colons] at h
    exact h))
  go_wp2_with fail
  refine Calls.mono hcol.out ?_
  rintro e w5 ⟨v5, rfl, hr5, q5⟩
  obtain ⟨ao5, cap5, rfl, hi5⟩ := ints_row hr5
  have hb5 := hid (hb4.out.trans (q5.mono hb4.out.size))
  have hB5 := hid (hB4.out.kept q5)
  have a5 := hid (a4.out.keptAll q5)
  have hi5' := hid hi5
  clear q5 hA4 hB4 a4 c0 c1 hcol hi5 hr5
  go_wp2_with fail
  refine Calls.mono (sameI_calls [4, 15] 2 rfl (by decide) ao5 _ cap5 2 _ (hi5'.out.kept (Nat.le_refl _) (by repeat (first | with_reducible exact Below.refl _ _ | with_reducible refine Below.setCell ?_ (by first | (simp; done) | (simp; omega)) _ | with_reducible refine below_drewN ?_ _ | with_reducible refine Below.alloc ?_ (by first | (simp; done) | (simp; omega)) _ | with_reducible refine Below.drew ?_))) (new_at w5 [4, 15] _)) ?_
  rintro e w6 ⟨rfl, q6⟩
  have bb : Below w5.heap.size w5 w6 := Below.trans (by repeat (first | with_reducible exact Below.refl _ _ | with_reducible refine Below.setCell ?_ (by first | (simp; done) | (simp; omega)) _ | with_reducible refine below_drewN ?_ _ | with_reducible refine Below.alloc ?_ (by first | (simp; done) | (simp; omega)) _ | with_reducible refine Below.drew ?_)) (q6.mono (by simp))
  have hb6 := hid (hb5.out.trans (bb.mono hb5.out.size))
  have hB6 := hid (hB5.out.kept bb)
  have a6 := hid (a5.out.keptAll bb)
  clear hb5 hB5 a5 hi5' q6 bb
  obtain ⟨c0, c1, -, -⟩ := a6.out.factsL
  have hcom := hid (commas_of (.slice (some ⟨A, 0, none⟩) 2 2) (.slice (some ⟨B, 0, none⟩) 2 2) 2 0 99 w6 (PlaW w6 [7]) (fun W hW => by
    have h := within_lv B 2 18 _ (fun k => lvS 44 aw10 (k + 1)) 1 0 99 (by decide) (by decide) (by decide) (by decide) (by decide) (fun _ _ => rfl) w6 (hT'.out.below hb6.out (by have := h0'.out; omega)) (by have := h0'.out; have := hb6.out.size; omega) hB6.out W hW
    rw [aw10_commas] at h
    exact h))
  go_wp2_with fail
  refine Calls.mono hcom.out ?_
  rintro e w7 ⟨v7, rfl, hr7, q7⟩
  obtain ⟨ao7, cap7, rfl, hi7⟩ := ints_row hr7
  have hb7 := hid (hb6.out.trans (q7.mono hb6.out.size))
  have hi7' := hid hi7
  clear q7 hB6 a6 c0 c1 hcom hi7 hr7 hb6
  go_wp2_with fail
  refine Calls.mono (sameI_calls [7] 1 rfl (by decide) ao7 _ cap7 1 _ (hi7'.out.kept (Nat.le_refl _) (by repeat (first | with_reducible exact Below.refl _ _ | with_reducible refine Below.setCell ?_ (by first | (simp; done) | (simp; omega)) _ | with_reducible refine below_drewN ?_ _ | with_reducible refine Below.alloc ?_ (by first | (simp; done) | (simp; omega)) _ | with_reducible refine Below.drew ?_))) (new_at w7 [7] _)) ?_
  rintro e w8 ⟨rfl, q8⟩
  have bb : Below w7.heap.size w7 w8 := Below.trans (by repeat (first | with_reducible exact Below.refl _ _ | with_reducible refine Below.setCell ?_ (by first | (simp; done) | (simp; omega)) _ | with_reducible refine below_drewN ?_ _ | with_reducible refine Below.alloc ?_ (by first | (simp; done) | (simp; omega)) _ | with_reducible refine Below.drew ?_)) (q8.mono (by simp))
  have hb8 := hid (hb7.out.trans (bb.mono hb7.out.size))
  clear hb7 hi7' q8 bb
  go_wp2
  go_ret
  exact ⟨rfl, hb8.out⟩
end Go.Proofs.YtomeaejjdjidlaaDoor
