/-
  EscapeBehinds: whether any piece escapes what comes behind it.
-/
import Derived.Test.YtkdcloiepeenoaaRefIs2
import Derived.SizedLaws
namespace Go.Proofs.Ytkdcloiepeenoaa
open Go.RowKit

set_option maxRecDepth 10000 in
set_option maxHeartbeats 1000000 in
theorem escapeBehinds_walk (s : ByteArray) (hs : s.size ≤ reachBytes) (c : Bool) (w : World) :
    Calls Try.prog 3 #[.string s, .bool c] w fun e w' => e = .returned (.bool true) ∧ Below w.heap.size w w' := by
  have hs1 : s.size ≤ 140737488351232 := hs
  clear hs
  have hs := hs1
  clear hs1
  obtain ⟨B, hB⟩ : ∃ B, Hid (behindS s c = B) := ⟨_, rfl⟩
  go_enter Try.func3, Try.ntmps3
  go_wp2_with fail
  refine (behind_calls s c B (by omega) hB _).mono ?_
  rintro e w1 ⟨rfl, rfl⟩
  go_wp2_with fail
  refine (refBehind_calls s c B (by omega) hB _).mono ?_
  rintro e w2 ⟨rfl, hb⟩
  have e2 : (B == B) = true := by simp
  clear hB hs
  have hb' := hid hb
  clear hb
  go_wp2_with fail
  refine (behind_calls ⟨#[92]⟩ false true (by decide) (hid (by decide)) _).mono ?_
  rintro e w3 ⟨rfl, rfl⟩
  go_wp2
  go_ret
  exact ⟨rfl, hb'.out⟩
end Go.Proofs.Ytkdcloiepeenoaa
