/-
  Utf8Sizes: every Size, and the form of a character is UTF-8.
-/
import Derived.Test.YtkkmaakgacnfoaaUtf8Form
import Derived.Test.YtkkmaakgacnfoaaUtf8Read
namespace Go.Proofs.Ytkkmaakgacnfoaa
open Go.RowKit

theorem bad_formS (r : Int) : badOf (formS r) = -1 := by
  unfold badOf formS
  split
  · rfl
  · rw [byts_mkS (formL_lt _)]
    exact bad_form _
theorem formS_small (r : Int) : (formS r).size ≤ 4 := by
  unfold formS
  rw [mkS_size]
  split
  · simp
  · rw [formL_len]
    unfold sizeN
    split
    · omega
    · split
      · omega
      · split
        · omega
        · split <;> omega

set_option maxRecDepth 10000 in
set_option maxHeartbeats 1000000 in
theorem utf8Sizes_walk (a0 : Int) (_w0 : (Lit.int .i32 a0).wf = true) (w : World) :
    Calls Try.prog 6 #[.int .i32 a0] w fun e w' => e = .returned (.bool true) ∧ Below w.heap.size w w' := by
  have h1 : sizeZ 97 = 1 := by decide
  have h2 : sizeZ 55296 = 0 := by decide
  have h3 : badOf ⟨#[255]⟩ = 0 := by decide
  go_enter Try.func6, Try.ntmps6
  go_wp2_with fail
  refine (size_calls 97 _).mono ?_
  rintro e w1 ⟨rfl, rfl⟩
  rw [h1]
  go_wp2_with fail
  refine (size_calls 55296 _).mono ?_
  rintro e w1 ⟨rfl, rfl⟩
  rw [h2]
  go_wp2_with fail
  refine (badF_calls ⟨#[255]⟩ (by decide) _).mono ?_
  rintro e w1 ⟨rfl, hb1⟩
  rw [h3]
  clear h1 h2 h3
  have hb1' := hid hb1
  clear hb1
  go_wp2_with fail
  refine (size_calls a0 _).mono ?_
  rintro e w2 ⟨rfl, rfl⟩
  go_wp2_with fail
  refine (refSize_calls a0 _).mono ?_
  rintro e w2 ⟨rfl, rfl⟩
  go_wp2_with fail
  refine (refForm_calls a0 _).mono ?_
  rintro e w2 ⟨v, rfl, hown, hb2⟩
  have hcv := conv_row hown
  have hb2' := hid (hb1'.out.trans (hb2.mono hb1'.out.size))
  clear hown hb2
  go_wp2_with fail
  refine (badF_calls (formS a0) (by have := formS_small a0; omega) _).mono ?_
  rintro e w3 ⟨rfl, hb3⟩
  rw [bad_formS]
  have hb3' := hid (hb2'.out.trans (hb3.mono hb2'.out.size))
  clear hb3 hcv
  go_wp2
  go_ret
  exact ⟨rfl, hb3'.out⟩
end Go.Proofs.Ytkkmaakgacnfoaa
