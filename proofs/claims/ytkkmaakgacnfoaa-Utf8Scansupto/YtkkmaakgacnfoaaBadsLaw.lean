/-
  What quarryref05.Bad and Beginning answer; Utf8Bads: every Bad.
-/
import Derived.Test.YtkkmaakgacnfoaaRefWalk
import Derived.Test.YtkkmaakgacnfoaaUtf8Read
namespace Go.Proofs.Ytkkmaakgacnfoaa
open Go.RowKit

set_option maxRecDepth 10000 in
theorem refBad_calls (s : ByteArray) (hs : s.size ≤ 4194304) (w : World) :
    Calls Try.prog 9 #[.string s] w fun e w' => e = .returned (.int .i64 (badOf s)) ∧ Below w.heap.size w w' := by
  have hw := hid (walk_calls s hs w)
  clear hs
  go_enter Try.func9, Try.ntmps9
  go_wp2_with fail
  refine Calls.mono hw.out ?_
  rintro e w1 ⟨v, u, rfl, -, hb⟩
  have hb' := hid hb
  clear hb hw
  go_wp2
  go_ret
  exact ⟨rfl, hb'.out⟩

set_option maxRecDepth 10000 in
theorem utf8Bads_walk (a0 : ByteArray) (h0 : a0.size ≤ 1048576) (w : World) :
    Calls Try.prog 3 #[.string a0] w fun e w' => e = .returned (.bool true) ∧ Below w.heap.size w w' := by
  have e1 : badOf ⟨#[97, 195, 169, 255]⟩ = 3 := by decide
  have e2 : badOf ⟨#[97, 195, 169]⟩ = -1 := by decide
  go_enter Try.func3, Try.ntmps3
  go_wp2_with fail
  refine (badF_calls ⟨#[97, 195, 169, 255]⟩ (by decide) _).mono ?_
  rintro e w1 ⟨rfl, hb1⟩
  rw [e1]
  have hb1' := hid hb1
  clear hb1
  go_wp2_with fail
  refine (badF_calls ⟨#[97, 195, 169]⟩ (by decide) _).mono ?_
  rintro e w2 ⟨rfl, hb2⟩
  rw [e2]
  have hb2' := hid (hb1'.out.trans (hb2.mono hb1'.out.size))
  clear hb2
  go_wp2_with fail
  refine (badF_calls a0 (by omega) _).mono ?_
  rintro e w3 ⟨rfl, hb3⟩
  have hb3' := hid (hb2'.out.trans (hb3.mono hb2'.out.size))
  clear hb3
  go_wp2_with fail
  refine (refBad_calls a0 (by omega) _).mono ?_
  rintro e w4 ⟨rfl, hb4⟩
  have hb4' := hid (hb3'.out.trans (hb4.mono hb3'.out.size))
  clear hb4
  go_wp2
  go_ret
  exact ⟨by simp, hb4'.out⟩
end Go.Proofs.Ytkkmaakgacnfoaa
