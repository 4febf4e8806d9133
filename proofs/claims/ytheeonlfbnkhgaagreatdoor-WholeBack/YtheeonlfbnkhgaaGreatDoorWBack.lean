/-
  The law WholeBack, walked (by gen_wback.py).
-/
import Derived.Test.YtheeonlfbnkhgaaGreatDoorWhlTx
import Derived.Test.YtheeonlfbnkhgaaGreatDoorWhlBk
import Derived.Test.YtheeonlfbnkhgaaGreatDoorWhlIB
import Derived.Test.YtheeonlfbnkhgaaGreatDoorWhlIC
import Derived.Test.YtheeonlfbnkhgaaGreatDoorWhlID
namespace Go.Proofs.YtheeonlfbnkhgaaGreatDoor
open Go.RowKit Go.Shelf

set_option maxRecDepth 10000 in
set_option maxHeartbeats 8000000 in
theorem wholeBack_walk (n : Int) (hn : (Lit.int .i64 n).wf = true) (u0 : Int) (hu : (Lit.int .u64 u0).wf = true) (w : World) (hP : PowW w) :
    Calls Tryz.prog 5 #[.int .i64 n, .int .u64 u0] w fun e w' => e = .returned (.bool true) ∧ Below w.heap.size w w' := by
  have hn2 : (-9223372036854775808 : Int) ≤ n ∧ n ≤ (9223372036854775807 : Int) := by simpa [Lit.wf, IntKind.min, IntKind.max, IntKind.signed, IntKind.bits] using hn
  have hu2 : (0 : Int) ≤ u0 ∧ u0 ≤ (18446744073709551615 : Int) := by simpa [Lit.wf, IntKind.min, IntKind.max, IntKind.signed, IntKind.bits] using hu
  obtain ⟨u, rfl⟩ : ∃ u : Nat, u0 = (u : Int) := ⟨u0.toNat, by omega⟩
  obtain ⟨a, ha⟩ : ∃ a, IntKind.i8.wrap n = a := ⟨_, rfl⟩
  obtain ⟨b, hb⟩ : ∃ b, IntKind.i16.wrap n = b := ⟨_, rfl⟩
  obtain ⟨c, hc⟩ : ∃ c, wrap32 n = c := ⟨_, rfl⟩
  have ra : (-128 : Int) ≤ a ∧ a ≤ (127 : Int) := by rw [← ha]; exact kw_range .i8 n
  have rb : (-32768 : Int) ≤ b ∧ b ≤ (32767 : Int) := by rw [← hb]; exact kw_range .i16 n
  have rc : (-2147483648 : Int) ≤ c ∧ c ≤ (2147483647 : Int) := by rw [← hc, ← kW_i32]; exact kw_range .i32 n
  obtain ⟨d, hd⟩ : ∃ d : Nat, ((u : Int)) % 256 = (d : Int) := ⟨u % 256, by omega⟩
  obtain ⟨f, hf⟩ : ∃ f : Nat, IntKind.u16.wrap (u : Int) = (f : Int) := ⟨(IntKind.u16.wrap (u : Int)).toNat, by have := (kw_range .u16 (u : Int)).1; have h : (0 : Int) ≤ IntKind.u16.wrap (u : Int) := this; omega⟩
  obtain ⟨g, hg⟩ : ∃ g : Nat, ((u : Int)) % 4294967296 = (g : Int) := ⟨u % 4294967296, by omega⟩
  have rf : (f : Int) ≤ (65535 : Int) := by rw [← hf]; exact (kw_range .u16 (u : Int)).2
  obtain ⟨Tn, tn⟩ : ∃ T, Hid ((⟨(Lib.itoa n).toArray⟩ : ByteArray) = T) := ⟨_, rfl⟩
  obtain ⟨Ta, ta⟩ : ∃ T, Hid ((⟨(Lib.itoa a).toArray⟩ : ByteArray) = T) := ⟨_, rfl⟩
  obtain ⟨Tb, tb⟩ : ∃ T, Hid ((⟨(Lib.itoa b).toArray⟩ : ByteArray) = T) := ⟨_, rfl⟩
  obtain ⟨Tc, tc⟩ : ∃ T, Hid ((⟨(Lib.itoa c).toArray⟩ : ByteArray) = T) := ⟨_, rfl⟩
  obtain ⟨Tu, tu⟩ : ∃ T, Hid ((⟨(Lib.itoa (u : Int)).toArray⟩ : ByteArray) = T) := ⟨_, rfl⟩
  obtain ⟨Td, td⟩ : ∃ T, Hid ((⟨(Lib.itoa (d : Int)).toArray⟩ : ByteArray) = T) := ⟨_, rfl⟩
  obtain ⟨Tf, tf⟩ : ∃ T, Hid ((⟨(Lib.itoa (f : Int)).toArray⟩ : ByteArray) = T) := ⟨_, rfl⟩
  obtain ⟨Tg, tg⟩ : ∃ T, Hid ((⟨(Lib.itoa (g : Int)).toArray⟩ : ByteArray) = T) := ⟨_, rfl⟩
  have c_int8 := hid (fun w1 h1 => text_int8 a (by omega) (by omega) Ta ta w1 h1)
  have r_int8 := hid (fun w1 => face_int8 Ta (itoa_size ta (by omega)) a 0 (who_text ta (by show (-128 : Int) ≤ _; omega) (by show _ ≤ (127 : Int); omega)) w1)
  have c_int16 := hid (fun w1 h1 => text_int16 b (by omega) (by omega) Tb tb w1 h1)
  have r_int16 := hid (fun w1 => face_int16 Tb (itoa_size tb (by omega)) b 0 (who_text tb (by show (-32768 : Int) ≤ _; omega) (by show _ ≤ (32767 : Int); omega)) w1)
  have c_int32 := hid (fun w1 h1 => text_int32 c (by omega) (by omega) Tc tc w1 h1)
  have r_int32 := hid (fun w1 => face_int32 Tc (itoa_size tc (by omega)) c 0 (who_text tc (by show (-2147483648 : Int) ≤ _; omega) (by show _ ≤ (2147483647 : Int); omega)) w1)
  have c_int64 := hid (fun w1 h1 => text_int64 n (by omega) (by omega) Tn tn w1 h1)
  have r_int64 := hid (fun w1 => face_int64 Tn (itoa_size tn (by omega)) n 0 (who_text tn (by show (-9223372036854775808 : Int) ≤ _; omega) (by show _ ≤ (9223372036854775807 : Int); omega)) w1)
  have c_uint8 := hid (fun w1 h1 => text_uint8 (d : Int) (by omega) (by omega) Td td w1 h1)
  have r_uint8 := hid (fun w1 => face_uint8 Td (itoa_size td (by omega)) (d : Int) 0 (who_text td (by show (0 : Int) ≤ _; omega) (by show _ ≤ (255 : Int); omega)) w1)
  have c_uint16 := hid (fun w1 h1 => text_uint16 (f : Int) (by omega) (by omega) Tf tf w1 h1)
  have r_uint16 := hid (fun w1 => face_uint16 Tf (itoa_size tf (by omega)) (f : Int) 0 (who_text tf (by show (0 : Int) ≤ _; omega) (by show _ ≤ (65535 : Int); omega)) w1)
  have c_uint32 := hid (fun w1 h1 => text_uint32 (g : Int) (by omega) (by omega) Tg tg w1 h1)
  have r_uint32 := hid (fun w1 => face_uint32 Tg (itoa_size tg (by omega)) (g : Int) 0 (who_text tg (by show (0 : Int) ≤ _; omega) (by show _ ≤ (4294967295 : Int); omega)) w1)
  have c_uint64 := hid (fun w1 h1 => text_uint64 (u : Int) (by omega) (by omega) Tu tu w1 h1)
  have r_uint64 := hid (fun w1 => face_uint64 Tu (itoa_size tu (by omega)) (u : Int) 0 (who_text tu (by show (0 : Int) ≤ _; omega) (by show _ ≤ (18446744073709551615 : Int); omega)) w1)
  have ca := hid (fun w1 => awake12_calls w1)
  have hP0 := hid hP
  clear hn hu hn2 hu2 ra rb rc rf hP tn ta tb tc tu td tf tg
  go_enter Tryz.func5, Tryz.ntmps5
  go_wp2_with fail
  refine Calls.mono (c_int8.out _ hP0.out) ?_
  rintro e w1 ⟨rfl, hb'⟩
  have hP1 := hid (hP0.out.kept hb')
  have b1 := hid hb'
  clear hP0 hb' c_int8
  go_wp2_with fail
  refine Calls.mono (r_int8.out _) ?_
  rintro e w2 ⟨rfl, hb'⟩
  have hP2 := hid (hP1.out.kept hb')
  have b2 := hid (b1.out.trans (hb'.mono b1.out.size))
  clear b1
  clear hP1 hb' r_int8
  go_wp2_with fail
  refine Calls.mono (c_int16.out _ hP2.out) ?_
  rintro e w3 ⟨rfl, hb'⟩
  have hP3 := hid (hP2.out.kept hb')
  have b3 := hid (b2.out.trans (hb'.mono b2.out.size))
  clear b2
  clear hP2 hb' c_int16
  go_wp2_with fail
  refine Calls.mono (r_int16.out _) ?_
  rintro e w4 ⟨rfl, hb'⟩
  have hP4 := hid (hP3.out.kept hb')
  have b4 := hid (b3.out.trans (hb'.mono b3.out.size))
  clear b3
  clear hP3 hb' r_int16
  go_wp2_with fail
  refine Calls.mono (c_int32.out _ hP4.out) ?_
  rintro e w5 ⟨rfl, hb'⟩
  have hP5 := hid (hP4.out.kept hb')
  have b5 := hid (b4.out.trans (hb'.mono b4.out.size))
  clear b4
  clear hP4 hb' c_int32
  go_wp2_with fail
  refine Calls.mono (r_int32.out _) ?_
  rintro e w6 ⟨rfl, hb'⟩
  have hP6 := hid (hP5.out.kept hb')
  have b6 := hid (b5.out.trans (hb'.mono b5.out.size))
  clear b5
  clear hP5 hb' r_int32
  go_wp2_with fail
  refine Calls.mono (c_int64.out _ hP6.out) ?_
  rintro e w7 ⟨rfl, hb'⟩
  have hP7 := hid (hP6.out.kept hb')
  have b7 := hid (b6.out.trans (hb'.mono b6.out.size))
  clear b6
  clear hP6 hb' c_int64
  go_wp2_with fail
  refine Calls.mono (r_int64.out _) ?_
  rintro e w8 ⟨rfl, hb'⟩
  have hP8 := hid (hP7.out.kept hb')
  have b8 := hid (b7.out.trans (hb'.mono b7.out.size))
  clear b7
  clear hP7 hb' r_int64
  go_wp2_with fail
  refine Calls.mono (c_uint8.out _ hP8.out) ?_
  rintro e w9 ⟨rfl, hb'⟩
  have hP9 := hid (hP8.out.kept hb')
  have b9 := hid (b8.out.trans (hb'.mono b8.out.size))
  clear b8
  clear hP8 hb' c_uint8
  go_wp2_with fail
  refine Calls.mono (r_uint8.out _) ?_
  rintro e w10 ⟨rfl, hb'⟩
  have hP10 := hid (hP9.out.kept hb')
  have b10 := hid (b9.out.trans (hb'.mono b9.out.size))
  clear b9
  clear hP9 hb' r_uint8
  go_wp2_with fail
  refine Calls.mono (c_uint16.out _ hP10.out) ?_
  rintro e w11 ⟨rfl, hb'⟩
  have hP11 := hid (hP10.out.kept hb')
  have b11 := hid (b10.out.trans (hb'.mono b10.out.size))
  clear b10
  clear hP10 hb' c_uint16
  go_wp2_with fail
  refine Calls.mono (r_uint16.out _) ?_
  rintro e w12 ⟨rfl, hb'⟩
  have hP12 := hid (hP11.out.kept hb')
  have b12 := hid (b11.out.trans (hb'.mono b11.out.size))
  clear b11
  clear hP11 hb' r_uint16
  go_wp2_with fail
  refine Calls.mono (c_uint32.out _ hP12.out) ?_
  rintro e w13 ⟨rfl, hb'⟩
  have hP13 := hid (hP12.out.kept hb')
  have b13 := hid (b12.out.trans (hb'.mono b12.out.size))
  clear b12
  clear hP12 hb' c_uint32
  go_wp2_with fail
  refine Calls.mono (r_uint32.out _) ?_
  rintro e w14 ⟨rfl, hb'⟩
  have hP14 := hid (hP13.out.kept hb')
  have b14 := hid (b13.out.trans (hb'.mono b13.out.size))
  clear b13
  clear hP13 hb' r_uint32
  go_wp2_with fail
  refine Calls.mono (c_uint64.out _ hP14.out) ?_
  rintro e w15 ⟨rfl, hb'⟩
  have hP15 := hid (hP14.out.kept hb')
  have b15 := hid (b14.out.trans (hb'.mono b14.out.size))
  clear b14
  clear hP14 hb' c_uint64
  go_wp2_with fail
  refine Calls.mono (r_uint64.out _) ?_
  rintro e w16 ⟨rfl, hb'⟩
  have hP16 := hid (hP15.out.kept hb')
  have b16 := hid (b15.out.trans (hb'.mono b15.out.size))
  clear b15
  clear hP15 hb' r_uint64
  go_wp2_with fail
  refine Calls.mono (ca.out _) ?_
  rintro e w17 ⟨rfl, hb'⟩
  have hP17 := hid (hP16.out.kept hb')
  have b17 := hid (b16.out.trans (hb'.mono b16.out.size))
  clear b16
  clear hP16 hb' ca
  go_wp2_with fail
  go_ret
  exact ⟨by first | rfl | simp, b17.out⟩
end Go.Proofs.YtheeonlfbnkhgaaGreatDoor
