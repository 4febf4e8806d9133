/-
  The statements' own 'awake' answers true.
-/
import Derived.Test.YtnilalgoehphaaaLanesFacts
import Derived.Test.YtnilalgoehphaaaLanesSum
namespace Go.Proofs.Ytnilalgoehphaaa
open Go.RowKit

def awakeBytes (i : Nat) : Nat := if i = 0 then 1 else if i = 1 then 2 else if i = 7 then 255 else 0
theorem awakeBytes_lt (i : Nat) : awakeBytes i < 256 := by unfold awakeBytes; split <;> (try split) <;> (try split) <;> omega
theorem awake_lit : #[.int .u8 1, .int .u8 2, .int .u8 0, .int .u8 0, .int .u8 0, .int .u8 0, .int .u8 0, .int .u8 255] = byteArr awakeBytes := rfl
theorem awake_load : loadTo awakeBytes 8 = 18374686479671624193 := by decide +kernel
theorem awake_mask : mask8 (isB 34) 2449995580684894242 = 161 := by decide +kernel
theorem awake_sum : sumTo 513 8 = 3 := by decide +kernel

set_option maxRecDepth 100000 in
set_option maxHeartbeats 400000 in
theorem awake_calls (w : World) : Calls Try.prog 27 #[] w fun e w' => e = .returned (.bool true) ∧ Below w.heap.size w w' := by
  go_enter Try.func27, Try.ntmps27
  go_wp2_with fail
  rw [awake_lit]
  refine (load_nat awakeBytes awakeBytes_lt 18374686479671624193 _ awake_load).mono ?_
  rintro e w1 ⟨rfl, hb1⟩
  go_wp2_with fail
  refine (equal_calls _ _ _ (by omega) (by omega) (by omega)).mono ?_
  rintro e w2 ⟨rfl, hb2⟩
  rw [show (2449995580684894242 : Int).toNat = 2449995580684894242 from rfl, show (34 : Int).toNat = 34 from rfl, awake_mask]
  go_wp2_with fail
  refine (sum_nat 513 3 _ (by omega) awake_sum).mono ?_
  rintro e w3 ⟨rfl, hb3⟩
  go_wp2
  go_ret
  have b2 := hb1.trans (hb2.mono hb1.size)
  exact ⟨rfl, b2.trans (hb3.mono b2.size)⟩
end Go.Proofs.Ytnilalgoehphaaa
