/-
  The walk of quarrylaw08.MarksMinifies.
-/
import Derived.Test.YtmgbgphlkhkldaaDoorMkMin
import Derived.Test.YtmgbgphlkhkldaaDoorRefMin
import Derived.Test.YtmgbgphlkhkldaaDoorMKinds
namespace Go.Proofs.YtmgbgphlkhkldaaDoor
open Go.RowKit Go.Shelf

/-- The law's small text without its blanks. -/
abbrev smM : ByteArray := ⟨#[123, 34, 97, 32, 98, 34, 58, 91, 49, 44, 116, 114, 117, 101, 93, 125]⟩
theorem min_small : minS smB = smM := by
  apply ByteArray.ext
  decide +kernel
theorem minC_calls (w : World) (hT : Tab w) (hM : TabM w) (hw0 : 1 < w.heap.size) :
    Calls Tryd.prog 20 #[.string smB] w fun e w' => e = .returned (.string smM) ∧ Below w.heap.size w w' := by
  have h := minify8_calls smB (by decide) w hT hM hw0
  rw [min_small] at h
  exact h

set_option maxRecDepth 10000 in
set_option maxHeartbeats 4000000 in
theorem marksMinifies_walk (s : ByteArray) (hs : s.size ≤ 1048576) (w : World) (hT : Tab w) (hM : TabM w) (h0 : 1 < w.heap.size) :
    Calls Tryd.prog 7 #[.string s] w fun e w' => e = .returned (.bool true) ∧ Below w.heap.size w w' := by
  have hC := hid (minC_calls w hT hM h0)
  have hS := hid (fun (w1 : World) (hb : Below w.heap.size w w1) => minify8_calls s (by omega) w1 (hT.below hb (by omega)) (hM.below hb h0) (by have := hb.size; omega))
  obtain ⟨T, hTe⟩ : ∃ T, Hid (minS s = T) := ⟨_, rfl⟩
  rw [hTe.out] at hS
  clear hT hM
  go_enter Tryd.func7, Tryd.ntmps7
  go_wp2_with fail
  refine Calls.mono hC.out ?_
  rintro e w1 ⟨rfl, hb1⟩
  go_wp2_with fail
  refine Calls.mono (hS.out _ hb1) ?_
  rintro e w2 ⟨rfl, hb2⟩
  have hB2 := hb1.trans (hb2.mono hb1.size)
  clear hb1 hb2 hS hC
  go_wp2_with fail
  refine Calls.mono (refMinify_calls s hs w2) ?_
  rintro e w3 ⟨rfl, hb3⟩
  have hB3 := hB2.trans (hb3.mono hB2.size)
  rw [hTe.out]
  clear hB2 hb3 hTe
  go_wp2
  go_ret
  exact ⟨rfl, hB3⟩
end Go.Proofs.YtmgbgphlkhkldaaDoor
