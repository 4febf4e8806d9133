/-
  What awake answers; what a text is, by the kind of it.
-/
import Derived.Test.YtheeonlfbnkhgaaDoorWhlIA
namespace Go.Proofs.YtheeonlfbnkhgaaDoor
open Go.RowKit Go.Shelf

theorem who_num {s : ByteArray} (h : (ofS s).2 = 110) (lo hi : Int) : wholeS lo hi s = (0, 110) := by rw [wholeS, if_pos h]
theorem who_frac {s : ByteArray} (h : (ofS s).2 ≠ 110) (hp : hasP s = true) (lo hi : Int) : wholeS lo hi s = (0, 120) := by rw [wholeS, if_neg h, if_pos hp]
theorem who_fit {s : ByteArray} (h : (ofS s).2 ≠ 110) (hp : hasP s = false) {lo hi v : Int} (hv : valS s = v) (h1 : lo ≤ v) (h2 : v ≤ hi) : wholeS lo hi s = (v, 0) := by
  rw [wholeS, if_neg h, if_neg (by rw [hp]; decide), hv, if_pos ⟨h1, h2⟩]
theorem who_off {s : ByteArray} (h : (ofS s).2 ≠ 110) (hp : hasP s = false) {lo hi v : Int} (hv : valS s = v) (h1 : ¬ (lo ≤ v ∧ v ≤ hi)) : wholeS lo hi s = (0, 121) := by
  rw [wholeS, if_neg h, if_neg (by rw [hp]; decide), hv, if_neg h1]
theorem who_128 : wholeS IntKind.i8.min IntKind.i8.max ⟨#[45, 49, 50, 56]⟩ = (-128, 0) := by
  have hP : PlainN ⟨#[45, 49, 50, 56]⟩ true ⟨#[49, 50, 56]⟩ := by
    refine ⟨rfl, by decide, fun i hi => ?_, fun e => absurd e (by decide)⟩
    have hi' : i < 3 := hi
    match i, hi' with
    | 0, _ => rfl
    | 1, _ => rfl
    | 2, _ => rfl
  exact who_fit hP.of hP.noP (v := -128) (by rw [hP.val_eq]; rfl) (by decide) (by decide)
set_option maxRecDepth 10000 in
theorem awake12_calls (w : World) :
    Calls Tryd.prog 28 #[] w fun e w' => e = .returned (.bool true) ∧ Below w.heap.size w w' := by
  have hc := hid (fun w1 => face_int8 ⟨#[45, 49, 50, 56]⟩ (by decide) (-128) 0 who_128 w1)
  go_enter Tryd.func28, Tryd.ntmps28
  go_wp2_with fail
  refine Calls.mono (hc.out _) ?_
  rintro e w1 ⟨rfl, hb⟩
  clear hc
  go_wp2
  go_ret
  exact ⟨rfl, hb⟩
end Go.Proofs.YtheeonlfbnkhgaaDoor
