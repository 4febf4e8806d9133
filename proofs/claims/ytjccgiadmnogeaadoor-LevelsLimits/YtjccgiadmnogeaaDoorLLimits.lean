/-
  The walk through quarrylaw10.LevelsLimits.
-/
import Derived.Test.YtjccgiadmnogeaaDoorLvAwake
namespace Go.Proofs.YtjccgiadmnogeaaDoor
open Go.RowKit Go.Shelf

set_option maxRecDepth 10000 in
set_option maxHeartbeats 4000000 in
theorem levelsLimits_walk (w : World) (hT : Tab w) (hM : TabM w) (h0 : 1 < w.heap.size) :
    Calls Tryd.prog 4 #[] w fun e w' => e = .returned (.bool true) ∧ Below w.heap.size w w' := by
  have hBu := hid (build_calls ⟨#[91, 44, 93]⟩ (by decide) 64 (by decide) (by decide) w hT hM h0)
  have hN1 := hid (fun (w1 : World) => build_no ⟨#[91, 44, 93]⟩ 65 (.inr (by decide)) w1)
  have hN0 := hid (fun (w1 : World) => build_no ⟨#[91, 44, 93]⟩ 0 (.inl (by decide)) w1)
  have hAw := hid (fun (w1 : World) (hb : Below w.heap.size w w1) => awake10_calls w1 (hT.below hb (by omega)) (hM.below hb h0) (by have := hb.size; omega))
  clear hT hM h0
  go_enter Tryd.func4, Tryd.ntmps4
  go_wp2_with fail
  refine Calls.mono hBu.out ?_
  rintro e w1 ⟨A, B, rfl, hL⟩
  obtain ⟨-, -, -, -, hb1⟩ := hL
  obtain ⟨V, hV⟩ : ∃ V, w1.alloc (.cells #[.slice (some ⟨A, 0, none⟩) 64 64, .slice (some ⟨B, 0, none⟩) 64 64] 32) = V := ⟨_, rfl⟩
  have aV : At V w1.heap.size #[.slice (some ⟨A, 0, none⟩) 64 64, .slice (some ⟨B, 0, none⟩) 64 64] 32 := by rw [← hV]; exact At.new w1 _ _
  have bV : Below w1.heap.size w1 V := by rw [← hV]; repeat (first | with_reducible exact Below.refl _ _ | with_reducible refine Below.setCell ?_ (by first | (simp; done) | (simp; omega)) _ | with_reducible refine below_drewN ?_ _ | with_reducible refine Below.alloc ?_ (by first | (simp; done) | (simp; omega)) _ | with_reducible refine Below.drew ?_)
  have hbV := hid (hb1.trans (bV.mono hb1.size))
  obtain ⟨b, hb⟩ : ∃ b, w1.heap.size = b := ⟨_, rfl⟩
  rw [hb] at aV
  have aV' := hid aV
  clear hb1 bV aV hBu
  go_wp2_with fail
  clear hV hb
  refine Calls.mono (hN1.out _) ?_
  rintro e w2 ⟨rfl, q2⟩
  have hb2 := hid (hbV.out.trans (q2.mono hbV.out.size))
  have a2 := hid (aV'.out.keptAll q2)
  clear q2 hbV aV'
  go_wp2_with fail
  refine Calls.mono (hN0.out _) ?_
  rintro e w3 ⟨rfl, q3⟩
  have bb : Below w2.heap.size w2 w3 := Below.trans (by repeat (first | with_reducible exact Below.refl _ _ | with_reducible refine Below.setCell ?_ (by first | (simp; done) | (simp; omega)) _ | with_reducible refine below_drewN ?_ _ | with_reducible refine Below.alloc ?_ (by first | (simp; done) | (simp; omega)) _ | with_reducible refine Below.drew ?_)) (q3.mono (by simp))
  have hb3 := hid (hb2.out.trans (bb.mono hb2.out.size))
  have a3 := hid (a2.out.keptAll bb)
  clear q3 bb hb2 a2
  obtain ⟨c0, c1, -, -⟩ := (a3.out.alloc (.cells #[.slice none 0 0, .slice none 0 0] 32)).factsL
  have hb4 := hid (hb3.out.alloc hb3.out.size (.cells #[.slice none 0 0, .slice none 0 0] 32))
  clear hb3
  go_wp2_with fail
  refine Calls.mono (hAw.out _ hb4.out) ?_
  rintro e w5 ⟨rfl, q5⟩
  have hb5 := hid (hb4.out.trans (q5.mono hb4.out.size))
  clear q5 hb4
  go_wp2
  go_ret
  exact ⟨rfl, hb5.out⟩
end Go.Proofs.YtjccgiadmnogeaaDoor
