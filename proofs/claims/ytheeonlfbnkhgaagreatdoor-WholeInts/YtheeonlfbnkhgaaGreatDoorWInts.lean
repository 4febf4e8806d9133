/-
  The law WholeInts, walked (by gen_wints.py).
-/
import Derived.Test.YtheeonlfbnkhgaaGreatDoorWhlRefI
import Derived.Test.YtheeonlfbnkhgaaGreatDoorWhlIB
namespace Go.Proofs.YtheeonlfbnkhgaaGreatDoor
open Go.RowKit Go.Shelf

theorem who_rngi {lo hi : Int} {s : ByteArray} {X : Int} {E : Nat} (h : wholeS lo hi s = (X, E)) (h0 : lo ≤ 0) (h1 : 0 ≤ hi) : lo ≤ X ∧ X ≤ hi := by
  unfold wholeS at h
  split at h
  · cases h; exact ⟨h0, h1⟩
  · split at h
    · cases h; exact ⟨h0, h1⟩
    · split at h
      · rename_i h2; cases h; exact h2
      · cases h; exact ⟨h0, h1⟩
set_option maxRecDepth 10000 in
theorem cmpi_calls (x e : Int) (w : World) :
    Calls Tryz.prog 8 #[.int .i64 x, .int .i64 e, .int .i64 x, .int .i64 e] w fun r w' => r = .returned (.bool true) ∧ w' = w := by
  go_enter Tryz.func8, Tryz.ntmps8
  go_wp2
  go_ret
  exact ⟨by first | rfl | simp, rfl⟩
set_option maxRecDepth 10000 in
set_option maxHeartbeats 8000000 in
theorem wholeInts_walk (s : ByteArray) (hz : s.size ≤ reachBytes) (w : World) (hP : PowW w) :
    Calls Tryz.prog 3 #[.string s] w fun e w' => e = .returned (.bool true) ∧ Below w.heap.size w w' := by
  have hs : s.size ≤ 281474976710656 := by have := reachBytes_lt; omega
  obtain ⟨X8, E8, h8⟩ : ∃ X E, wholeS IntKind.i8.min IntKind.i8.max s = (X, E) := ⟨_, _, rfl⟩
  have g8 : (-128 : Int) ≤ X8 ∧ X8 ≤ (127 : Int) := who_rngi h8 (by decide) (by decide)
  have u8 : wrap64 X8 = X8 := by rw [wrap64]; omega
  have r8 := hid (fun w1 p1 => refInt8 s hs X8 E8 h8 w1 p1)
  have m8 := hid (fun w1 => cmpi_calls X8 (E8 : Int) w1)
  obtain ⟨X16, E16, h16⟩ : ∃ X E, wholeS IntKind.i16.min IntKind.i16.max s = (X, E) := ⟨_, _, rfl⟩
  have g16 : (-32768 : Int) ≤ X16 ∧ X16 ≤ (32767 : Int) := who_rngi h16 (by decide) (by decide)
  have u16 : wrap64 X16 = X16 := by rw [wrap64]; omega
  have r16 := hid (fun w1 p1 => refInt16 s hs X16 E16 h16 w1 p1)
  have m16 := hid (fun w1 => cmpi_calls X16 (E16 : Int) w1)
  obtain ⟨X32, E32, h32⟩ : ∃ X E, wholeS IntKind.i32.min IntKind.i32.max s = (X, E) := ⟨_, _, rfl⟩
  have g32 : (-2147483648 : Int) ≤ X32 ∧ X32 ≤ (2147483647 : Int) := who_rngi h32 (by decide) (by decide)
  have u32 : wrap64 X32 = X32 := by rw [wrap64]; omega
  have r32 := hid (fun w1 p1 => refInt32 s hs X32 E32 h32 w1 p1)
  have m32 := hid (fun w1 => cmpi_calls X32 (E32 : Int) w1)
  obtain ⟨X64, E64, h64⟩ : ∃ X E, wholeS IntKind.i64.min IntKind.i64.max s = (X, E) := ⟨_, _, rfl⟩
  have g64 : (-9223372036854775808 : Int) ≤ X64 ∧ X64 ≤ (9223372036854775807 : Int) := who_rngi h64 (by decide) (by decide)
  have u64 : wrap64 X64 = X64 := by rw [wrap64]; omega
  have r64 := hid (fun w1 p1 => refInt64 s hs X64 E64 h64 w1 p1)
  have m64 := hid (fun w1 => cmpi_calls X64 (E64 : Int) w1)
  have c_int8 := hid (fun w1 => face_int8 s hs X8 E8 h8 w1)
  have c_Small := hid (fun w1 => face_Small s hs X8 E8 h8 w1)
  have c_int16 := hid (fun w1 => face_int16 s hs X16 E16 h16 w1)
  have c_int32 := hid (fun w1 => face_int32 s hs X32 E32 h32 w1)
  have c_int64 := hid (fun w1 => face_int64 s hs X64 E64 h64 w1)
  have c_int := hid (fun w1 => face_int s hs X64 E64 h64 w1)
  have c_Wide := hid (fun w1 => face_Wide s hs X64 E64 h64 w1)
  have ca := hid (fun w1 => awake12_calls w1)
  have hP0 := hid hP
  have b0 := hid (Below.refl w.heap.size w)
  clear hP hs hz h8 g8 h16 g16 h32 g32 h64 g64
  go_enter Tryz.func3, Tryz.ntmps3
  go_wp2_with fail
  refine Calls.mono (c_int8.out _) ?_
  rintro e w1 ⟨rfl, hb'⟩
  have hP1 := hid (hP0.out.kept hb')
  have b1 := hid (b0.out.trans (hb'.mono b0.out.size))
  clear b0 hP0 hb' c_int8
  go_wp2_with fail
  refine Calls.mono (r8.out _ hP1.out) ?_
  rintro e w2 ⟨rfl, hb'⟩
  have hP2 := hid (hP1.out.kept hb')
  have b2 := hid (b1.out.trans (hb'.mono b1.out.size))
  clear b1 hP1 hb' r8
  go_wp2_with fail
  refine Calls.mono (m8.out _) ?_
  rintro e w3' ⟨rfl, hw⟩
  rw [hw]
  clear hw w3'
  go_wp2_with fail
  refine Calls.mono (c_Small.out _) ?_
  rintro e w3 ⟨rfl, hb'⟩
  have hP3 := hid (hP2.out.kept hb')
  have b3 := hid (b2.out.trans (hb'.mono b2.out.size))
  clear b2 hP2 hb' c_Small
  go_wp2_with fail
  refine Calls.mono (m8.out _) ?_
  rintro e w4' ⟨rfl, hw⟩
  rw [hw]
  clear hw w4'
  go_wp2_with fail
  refine Calls.mono (c_int16.out _) ?_
  rintro e w4 ⟨rfl, hb'⟩
  have hP4 := hid (hP3.out.kept hb')
  have b4 := hid (b3.out.trans (hb'.mono b3.out.size))
  clear b3 hP3 hb' c_int16
  go_wp2_with fail
  refine Calls.mono (r16.out _ hP4.out) ?_
  rintro e w5 ⟨rfl, hb'⟩
  have hP5 := hid (hP4.out.kept hb')
  have b5 := hid (b4.out.trans (hb'.mono b4.out.size))
  clear b4 hP4 hb' r16
  go_wp2_with fail
  refine Calls.mono (m16.out _) ?_
  rintro e w6' ⟨rfl, hw⟩
  rw [hw]
  clear hw w6'
  go_wp2_with fail
  refine Calls.mono (c_int32.out _) ?_
  rintro e w6 ⟨rfl, hb'⟩
  have hP6 := hid (hP5.out.kept hb')
  have b6 := hid (b5.out.trans (hb'.mono b5.out.size))
  clear b5 hP5 hb' c_int32
  go_wp2_with fail
  refine Calls.mono (r32.out _ hP6.out) ?_
  rintro e w7 ⟨rfl, hb'⟩
  have hP7 := hid (hP6.out.kept hb')
  have b7 := hid (b6.out.trans (hb'.mono b6.out.size))
  clear b6 hP6 hb' r32
  go_wp2_with fail
  refine Calls.mono (m32.out _) ?_
  rintro e w8' ⟨rfl, hw⟩
  rw [hw]
  clear hw w8'
  go_wp2_with fail
  refine Calls.mono (r64.out _ hP7.out) ?_
  rintro e w8 ⟨rfl, hb'⟩
  have hP8 := hid (hP7.out.kept hb')
  have b8 := hid (b7.out.trans (hb'.mono b7.out.size))
  clear b7 hP7 hb' r64
  go_wp2_with fail
  refine Calls.mono (c_int64.out _) ?_
  rintro e w9 ⟨rfl, hb'⟩
  have hP9 := hid (hP8.out.kept hb')
  have b9 := hid (b8.out.trans (hb'.mono b8.out.size))
  clear b8 hP8 hb' c_int64
  go_wp2_with fail
  refine Calls.mono (m64.out _) ?_
  rintro e w10' ⟨rfl, hw⟩
  rw [hw]
  clear hw w10'
  go_wp2_with fail
  refine Calls.mono (c_int.out _) ?_
  rintro e w10 ⟨rfl, hb'⟩
  have hP10 := hid (hP9.out.kept hb')
  have b10 := hid (b9.out.trans (hb'.mono b9.out.size))
  clear b9 hP9 hb' c_int
  go_wp2_with fail
  refine Calls.mono (m64.out _) ?_
  rintro e w11' ⟨rfl, hw⟩
  rw [hw]
  clear hw w11'
  go_wp2_with fail
  refine Calls.mono (c_Wide.out _) ?_
  rintro e w11 ⟨rfl, hb'⟩
  have hP11 := hid (hP10.out.kept hb')
  have b11 := hid (b10.out.trans (hb'.mono b10.out.size))
  clear b10 hP10 hb' c_Wide
  go_wp2_with fail
  refine Calls.mono (m64.out _) ?_
  rintro e w12' ⟨rfl, hw⟩
  rw [hw]
  clear hw w12'
  go_wp2_with fail
  refine Calls.mono (ca.out _) ?_
  rintro e w12 ⟨rfl, hb'⟩
  have hP12 := hid (hP11.out.kept hb')
  have b12 := hid (b11.out.trans (hb'.mono b11.out.size))
  clear b11 hP11 hb' ca
  go_wp2_with fail
  go_ret
  exact ⟨by first | rfl | simp, b12.out⟩
end Go.Proofs.YtheeonlfbnkhgaaGreatDoor
