/-
  The law PointerPlaces, walked.
-/
import Derived.Test.YtdkcgfcmmdkmpaaPtB
namespace Go.Proofs.Ytdkcgfcmmdkmpaa
open Go.RowKit Go.Shelf

set_option maxRecDepth 10000 in
set_option maxHeartbeats 2000000 in
theorem pointerPlaces_walk (s : ByteArray) (hs : s.size ≤ maxLen) (w : World) : Calls Try.prog 3 #[.string s] w fun e w' => e = .returned (.bool true) ∧ Below w.heap.size w w' := by
  have hs' : s.size ≤ 9223372036854775807 := hs
  have c1 := fun u : World => plc_calls (⟨#[49, 48]⟩ : ByteArray) (by decide) u
  rw [show plV (⟨#[49, 48]⟩ : ByteArray) = 10 by decide, show plB (⟨#[49, 48]⟩ : ByteArray) = true by decide] at c1
  have c2 := fun u : World => plc_calls s hs' u
  have c3 := fun u : World => plcR_calls s hs' u
  obtain ⟨V, hV⟩ : ∃ V, plV s = V := ⟨_, rfl⟩
  obtain ⟨B, hB⟩ : ∃ B, plB s = B := ⟨_, rfl⟩
  rw [hV, hB] at c2 c3
  have c1' := hid c1
  have c2' := hid c2
  have c3' := hid c3
  clear c1 c2 c3 hV hB hs hs'
  go_enter Try.func3, Try.ntmps3
  go_wp2_with fail
  refine Calls.mono (c1'.out _) ?_
  rintro e w1 ⟨rfl, b1⟩
  have b1' := hid b1
  clear b1 c1'
  go_wp2_with fail
  refine Calls.mono (c2'.out _) ?_
  rintro e w2 ⟨rfl, b2⟩
  have b2' := hid (b1'.out.trans (b2.mono b1'.out.size))
  clear b2 c2' b1'
  go_wp2_with fail
  refine Calls.mono (c3'.out _) ?_
  rintro e w3 ⟨rfl, b3⟩
  have b3' := hid (b2'.out.trans (b3.mono b2'.out.size))
  clear b3 c3' b2'
  cases B
  · go_wp2
    go_ret
    exact ⟨rfl, b3'.out⟩
  · go_wp2
    go_ret
    exact ⟨rfl, b3'.out⟩
end Go.Proofs.Ytdkcgfcmmdkmpaa
