/-
  The law WholeUints, walked (by gen_wints.py).
-/
import Derived.Test.YtheeonlfbnkhgaaGreatDoorWhlRefU
import Derived.Test.YtheeonlfbnkhgaaGreatDoorWhlIC
import Derived.Test.YtheeonlfbnkhgaaGreatDoorWhlID
namespace Go.Proofs.YtheeonlfbnkhgaaGreatDoor
open Go.RowKit Go.Shelf

theorem who_rngu {lo hi : Int} {s : ByteArray} {X : Int} {E : Nat} (h : wholeS lo hi s = (X, E)) (h0 : lo ≤ 0) (h1 : 0 ≤ hi) : lo ≤ X ∧ X ≤ hi := by
  unfold wholeS at h
  split at h
  · cases h; exact ⟨h0, h1⟩
  · split at h
    · cases h; exact ⟨h0, h1⟩
    · split at h
      · rename_i h2; cases h; exact h2
      · cases h; exact ⟨h0, h1⟩
set_option maxRecDepth 10000 in
theorem cmpu_calls (x e : Int) (w : World) :
    Calls Tryz.prog 18 #[.int .u64 x, .int .i64 e, .int .u64 x, .int .i64 e] w fun r w' => r = .returned (.bool true) ∧ w' = w := by
  go_enter Tryz.func18, Tryz.ntmps18
  go_wp2
  go_ret
  exact ⟨by first | rfl | simp, rfl⟩
set_option maxRecDepth 10000 in
set_option maxHeartbeats 8000000 in
theorem wholeUints_walk (s : ByteArray) (hz : s.size ≤ reachBytes) (w : World) (hP : PowW w) :
    Calls Tryz.prog 4 #[.string s] w fun e w' => e = .returned (.bool true) ∧ Below w.heap.size w w' := by
  have hs : s.size ≤ 281474976710656 := by have := reachBytes_lt; omega
  obtain ⟨X8, E8, h8⟩ : ∃ X E, wholeS IntKind.u8.min IntKind.u8.max s = (X, E) := ⟨_, _, rfl⟩
  have g8 : (0 : Int) ≤ X8 ∧ X8 ≤ (255 : Int) := who_rngu h8 (by decide) (by decide)
  have u8 : IntKind.u64.wrap X8 = X8 := kw_id .u64 _ (by show (0 : Int) ≤ _; omega) (by show _ ≤ (18446744073709551615 : Int); omega)
  have r8 := hid (fun w1 p1 => refUint8 s hs X8 E8 h8 w1 p1)
  have m8 := hid (fun w1 => cmpu_calls X8 (E8 : Int) w1)
  obtain ⟨X16, E16, h16⟩ : ∃ X E, wholeS IntKind.u16.min IntKind.u16.max s = (X, E) := ⟨_, _, rfl⟩
  have g16 : (0 : Int) ≤ X16 ∧ X16 ≤ (65535 : Int) := who_rngu h16 (by decide) (by decide)
  have u16 : IntKind.u64.wrap X16 = X16 := kw_id .u64 _ (by show (0 : Int) ≤ _; omega) (by show _ ≤ (18446744073709551615 : Int); omega)
  have r16 := hid (fun w1 p1 => refUint16 s hs X16 E16 h16 w1 p1)
  have m16 := hid (fun w1 => cmpu_calls X16 (E16 : Int) w1)
  obtain ⟨X32, E32, h32⟩ : ∃ X E, wholeS IntKind.u32.min IntKind.u32.max s = (X, E) := ⟨_, _, rfl⟩
  have g32 : (0 : Int) ≤ X32 ∧ X32 ≤ (4294967295 : Int) := who_rngu h32 (by decide) (by decide)
  have u32 : IntKind.u64.wrap X32 = X32 := kw_id .u64 _ (by show (0 : Int) ≤ _; omega) (by show _ ≤ (18446744073709551615 : Int); omega)
  have r32 := hid (fun w1 p1 => refUint32 s hs X32 E32 h32 w1 p1)
  have m32 := hid (fun w1 => cmpu_calls X32 (E32 : Int) w1)
  obtain ⟨X64, E64, h64⟩ : ∃ X E, wholeS IntKind.u64.min IntKind.u64.max s = (X, E) := ⟨_, _, rfl⟩
  have g64 : (0 : Int) ≤ X64 ∧ X64 ≤ (18446744073709551615 : Int) := who_rngu h64 (by decide) (by decide)
  have u64 : IntKind.u64.wrap X64 = X64 := kw_id .u64 _ (by show (0 : Int) ≤ _; omega) (by show _ ≤ (18446744073709551615 : Int); omega)
  have r64 := hid (fun w1 p1 => refUint64 s hs X64 E64 h64 w1 p1)
  have m64 := hid (fun w1 => cmpu_calls X64 (E64 : Int) w1)
  have c_uint8 := hid (fun w1 => face_uint8 s hs X8 E8 h8 w1)
  have c_Byte := hid (fun w1 => face_Byte s hs X8 E8 h8 w1)
  have c_uint16 := hid (fun w1 => face_uint16 s hs X16 E16 h16 w1)
  have c_uint32 := hid (fun w1 => face_uint32 s hs X32 E32 h32 w1)
  have c_uint64 := hid (fun w1 => face_uint64 s hs X64 E64 h64 w1)
  have c_uint := hid (fun w1 => face_uint s hs X64 E64 h64 w1)
  have c_Long := hid (fun w1 => face_Long s hs X64 E64 h64 w1)
  have ca := hid (fun w1 => awake12_calls w1)
  have hP0 := hid hP
  have b0 := hid (Below.refl w.heap.size w)
  clear hP hs hz h8 g8 h16 g16 h32 g32 h64 g64
  go_enter Tryz.func4, Tryz.ntmps4
  go_wp2_with fail
  refine Calls.mono (c_uint8.out _) ?_
  rintro e w1 ⟨rfl, hb'⟩
  have hP1 := hid (hP0.out.kept hb')
  have b1 := hid (b0.out.trans (hb'.mono b0.out.size))
  clear b0 hP0 hb' c_uint8
  go_wp2_with fail
  refine Calls.mono (r8.out _ hP1.out) ?_
  rintro e w2 ⟨rfl, hb'⟩
  have hP2 := hid (hP1.out.kept hb')
  have b2 := hid (b1.out.trans (hb'.mono b1.out.size))
  clear b1 hP1 hb' r8
  go_wp2_with fail
  refine Calls.mono (m8.out _) ?_
  rintro e w3' ⟨rfl, hw⟩
  rw [hw]
  clear hw w3'
  go_wp2_with fail
  refine Calls.mono (c_Byte.out _) ?_
  rintro e w3 ⟨rfl, hb'⟩
  have hP3 := hid (hP2.out.kept hb')
  have b3 := hid (b2.out.trans (hb'.mono b2.out.size))
  clear b2 hP2 hb' c_Byte
  go_wp2_with fail
  refine Calls.mono (m8.out _) ?_
  rintro e w4' ⟨rfl, hw⟩
  rw [hw]
  clear hw w4'
  go_wp2_with fail
  refine Calls.mono (c_uint16.out _) ?_
  rintro e w4 ⟨rfl, hb'⟩
  have hP4 := hid (hP3.out.kept hb')
  have b4 := hid (b3.out.trans (hb'.mono b3.out.size))
  clear b3 hP3 hb' c_uint16
  go_wp2_with fail
  refine Calls.mono (r16.out _ hP4.out) ?_
  rintro e w5 ⟨rfl, hb'⟩
  have hP5 := hid (hP4.out.kept hb')
  have b5 := hid (b4.out.trans (hb'.mono b4.out.size))
  clear b4 hP4 hb' r16
  go_wp2_with fail
  refine Calls.mono (m16.out _) ?_
  rintro e w6' ⟨rfl, hw⟩
  rw [hw]
  clear hw w6'
  go_wp2_with fail
  refine Calls.mono (c_uint32.out _) ?_
  rintro e w6 ⟨rfl, hb'⟩
  have hP6 := hid (hP5.out.kept hb')
  have b6 := hid (b5.out.trans (hb'.mono b5.out.size))
  clear b5 hP5 hb' c_uint32
  go_wp2_with fail
  refine Calls.mono (r32.out _ hP6.out) ?_
  rintro e w7 ⟨rfl, hb'⟩
  have hP7 := hid (hP6.out.kept hb')
  have b7 := hid (b6.out.trans (hb'.mono b6.out.size))
  clear b6 hP6 hb' r32
  go_wp2_with fail
  refine Calls.mono (m32.out _) ?_
  rintro e w8' ⟨rfl, hw⟩
  rw [hw]
  clear hw w8'
  go_wp2_with fail
  refine Calls.mono (r64.out _ hP7.out) ?_
  rintro e w8 ⟨rfl, hb'⟩
  have hP8 := hid (hP7.out.kept hb')
  have b8 := hid (b7.out.trans (hb'.mono b7.out.size))
  clear b7 hP7 hb' r64
  go_wp2_with fail
  refine Calls.mono (c_uint64.out _) ?_
  rintro e w9 ⟨rfl, hb'⟩
  have hP9 := hid (hP8.out.kept hb')
  have b9 := hid (b8.out.trans (hb'.mono b8.out.size))
  clear b8 hP8 hb' c_uint64
  go_wp2_with fail
  refine Calls.mono (m64.out _) ?_
  rintro e w10' ⟨rfl, hw⟩
  rw [hw]
  clear hw w10'
  go_wp2_with fail
  refine Calls.mono (c_uint.out _) ?_
  rintro e w10 ⟨rfl, hb'⟩
  have hP10 := hid (hP9.out.kept hb')
  have b10 := hid (b9.out.trans (hb'.mono b9.out.size))
  clear b9 hP9 hb' c_uint
  go_wp2_with fail
  refine Calls.mono (m64.out _) ?_
  rintro e w11' ⟨rfl, hw⟩
  rw [hw]
  clear hw w11'
  go_wp2_with fail
  refine Calls.mono (c_Long.out _) ?_
  rintro e w11 ⟨rfl, hb'⟩
  have hP11 := hid (hP10.out.kept hb')
  have b11 := hid (b10.out.trans (hb'.mono b10.out.size))
  clear b10 hP10 hb' c_Long
  go_wp2_with fail
  refine Calls.mono (m64.out _) ?_
  rintro e w12' ⟨rfl, hw⟩
  rw [hw]
  clear hw w12'
  go_wp2_with fail
  refine Calls.mono (ca.out _) ?_
  rintro e w12 ⟨rfl, hb'⟩
  have hP12 := hid (hP11.out.kept hb')
  have b12 := hid (b11.out.trans (hb'.mono b11.out.size))
  clear b11 hP11 hb' ca
  go_wp2_with fail
  go_ret
  exact ⟨by first | rfl | simp, b12.out⟩
end Go.Proofs.YtheeonlfbnkhgaaGreatDoor
