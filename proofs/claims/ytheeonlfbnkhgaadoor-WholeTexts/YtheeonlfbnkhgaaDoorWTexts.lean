/-
  The law WholeTexts, walked (by gen_wtexts.py).
-/
import Derived.Test.YtheeonlfbnkhgaaDoorWhlTx
namespace Go.Proofs.YtheeonlfbnkhgaaDoor
open Go.RowKit Go.Shelf

set_option maxRecDepth 10000 in
set_option maxHeartbeats 8000000 in
theorem wholeTexts_walk (n : Int) (hn : (Lit.int .i64 n).wf = true) (u0 : Int) (hu : (Lit.int .u64 u0).wf = true) (w : World) (hP : PowW w) :
    Calls Tryd.prog 4 #[.int .i64 n, .int .u64 u0] w fun e w' => e = .returned (.bool true) ∧ Below w.heap.size w w' := by
  have hn2 : (-9223372036854775808 : Int) ≤ n ∧ n ≤ (9223372036854775807 : Int) := by simpa [Lit.wf, IntKind.min, IntKind.max, IntKind.signed, IntKind.bits] using hn
  have hu2 : (0 : Int) ≤ u0 ∧ u0 ≤ (18446744073709551615 : Int) := by simpa [Lit.wf, IntKind.min, IntKind.max, IntKind.signed, IntKind.bits] using hu
  obtain ⟨u, rfl⟩ : ∃ u : Nat, u0 = (u : Int) := ⟨u0.toNat, by omega⟩
  obtain ⟨a, ha⟩ : ∃ a, IntKind.i8.wrap n = a := ⟨_, rfl⟩
  obtain ⟨b, hb⟩ : ∃ b, IntKind.i16.wrap n = b := ⟨_, rfl⟩
  obtain ⟨c, hc⟩ : ∃ c, wrap32 n = c := ⟨_, rfl⟩
  have ra : (-128 : Int) ≤ a ∧ a ≤ (127 : Int) := by rw [← ha]; exact kw_range .i8 n
  have rb : (-32768 : Int) ≤ b ∧ b ≤ (32767 : Int) := by rw [← hb]; exact kw_range .i16 n
  have rc : (-2147483648 : Int) ≤ c ∧ c ≤ (2147483647 : Int) := by rw [← hc, ← kW_i32]; exact kw_range .i32 n
  obtain ⟨d, hd⟩ : ∃ d : Nat, ((u : Int)) % 256 = (d : Int) := ⟨u % 256, by omega⟩
  obtain ⟨f, hf⟩ : ∃ f : Nat, IntKind.u16.wrap (u : Int) = (f : Int) := ⟨(IntKind.u16.wrap (u : Int)).toNat, by have := (kw_range .u16 (u : Int)).1; have h : (0 : Int) ≤ IntKind.u16.wrap (u : Int) := this; omega⟩
  obtain ⟨g, hg⟩ : ∃ g : Nat, ((u : Int)) % 4294967296 = (g : Int) := ⟨u % 4294967296, by omega⟩
  have rf : (f : Int) ≤ (65535 : Int) := by rw [← hf]; exact (kw_range .u16 (u : Int)).2
  have wa : wrap64 a = a := by rw [wrap64]; omega
  have wb : wrap64 b = b := by rw [wrap64]; omega
  have wc : wrap64 c = c := by rw [wrap64]; omega
  have wd : IntKind.u64.wrap (d : Int) = (d : Int) := kw_id .u64 _ (by show (0 : Int) ≤ _; omega) (by show _ ≤ (18446744073709551615 : Int); omega)
  have wf : IntKind.u64.wrap (f : Int) = (f : Int) := kw_id .u64 _ (by show (0 : Int) ≤ _; omega) (by show _ ≤ (18446744073709551615 : Int); omega)
  have wg : IntKind.u64.wrap (g : Int) = (g : Int) := kw_id .u64 _ (by show (0 : Int) ≤ _; omega) (by show _ ≤ (18446744073709551615 : Int); omega)
  obtain ⟨Tn, tn⟩ : ∃ T, Hid ((⟨(Lib.itoa n).toArray⟩ : ByteArray) = T) := ⟨_, rfl⟩
  obtain ⟨Ta, ta⟩ : ∃ T, Hid ((⟨(Lib.itoa a).toArray⟩ : ByteArray) = T) := ⟨_, rfl⟩
  obtain ⟨Tb, tb⟩ : ∃ T, Hid ((⟨(Lib.itoa b).toArray⟩ : ByteArray) = T) := ⟨_, rfl⟩
  obtain ⟨Tc, tc⟩ : ∃ T, Hid ((⟨(Lib.itoa c).toArray⟩ : ByteArray) = T) := ⟨_, rfl⟩
  obtain ⟨Tu, tu⟩ : ∃ T, Hid ((⟨(Lib.itoa (u : Int)).toArray⟩ : ByteArray) = T) := ⟨_, rfl⟩
  obtain ⟨Td, td⟩ : ∃ T, Hid ((⟨(Lib.itoa (d : Int)).toArray⟩ : ByteArray) = T) := ⟨_, rfl⟩
  obtain ⟨Tf, tf⟩ : ∃ T, Hid ((⟨(Lib.itoa (f : Int)).toArray⟩ : ByteArray) = T) := ⟨_, rfl⟩
  obtain ⟨Tg, tg⟩ : ∃ T, Hid ((⟨(Lib.itoa (g : Int)).toArray⟩ : ByteArray) = T) := ⟨_, rfl⟩
  have c_text_int64 := hid (fun w1 h1 => text_int64 n (by omega) (by omega) Tn tn w1 h1)
  have c_In := hid (fun w1 h1 => fmtI_calls n (by omega) (by omega) w1 h1)
  rw [tn.out] at c_In
  have c_text_int := hid (fun w1 h1 => text_int n (by omega) (by omega) Tn tn w1 h1)
  have c_text_uint64 := hid (fun w1 h1 => text_uint64 (u : Int) (by omega) (by omega) Tu tu w1 h1)
  have c_Uu := hid (fun w1 h1 => fmtU_calls u (by omega) w1 h1)
  rw [← Lib.itoa_nonneg, tu.out] at c_Uu
  have c_text_uint := hid (fun w1 h1 => text_uint (u : Int) (by omega) (by omega) Tu tu w1 h1)
  have c_text_int8 := hid (fun w1 h1 => text_int8 a (by omega) (by omega) Ta ta w1 h1)
  have c_Ia := hid (fun w1 h1 => fmtI_calls a (by omega) (by omega) w1 h1)
  rw [ta.out] at c_Ia
  have c_text_int16 := hid (fun w1 h1 => text_int16 b (by omega) (by omega) Tb tb w1 h1)
  have c_Ib := hid (fun w1 h1 => fmtI_calls b (by omega) (by omega) w1 h1)
  rw [tb.out] at c_Ib
  have c_text_int32 := hid (fun w1 h1 => text_int32 c (by omega) (by omega) Tc tc w1 h1)
  have c_Ic := hid (fun w1 h1 => fmtI_calls c (by omega) (by omega) w1 h1)
  rw [tc.out] at c_Ic
  have c_text_Small := hid (fun w1 h1 => text_Small a (by omega) (by omega) Ta ta w1 h1)
  have c_text_uint8 := hid (fun w1 h1 => text_uint8 (d : Int) (by omega) (by omega) Td td w1 h1)
  have c_Ud := hid (fun w1 h1 => fmtU_calls d (by omega) w1 h1)
  rw [← Lib.itoa_nonneg, td.out] at c_Ud
  have c_text_uint16 := hid (fun w1 h1 => text_uint16 (f : Int) (by omega) (by omega) Tf tf w1 h1)
  have c_Uf := hid (fun w1 h1 => fmtU_calls f (by omega) w1 h1)
  rw [← Lib.itoa_nonneg, tf.out] at c_Uf
  have c_text_uint32 := hid (fun w1 h1 => text_uint32 (g : Int) (by omega) (by omega) Tg tg w1 h1)
  have c_Ug := hid (fun w1 h1 => fmtU_calls g (by omega) w1 h1)
  rw [← Lib.itoa_nonneg, tg.out] at c_Ug
  have c_text_Long := hid (fun w1 h1 => text_Long (u : Int) (by omega) (by omega) Tu tu w1 h1)
  have hP0 := hid hP
  clear hn hu hn2 hu2 ra rb rc rf hP tn ta tb tc tu td tf tg
  go_enter Tryd.func4, Tryd.ntmps4
  go_wp2_with fail
  refine Calls.mono (c_text_int64.out _ hP0.out) ?_
  rintro e w1 ⟨rfl, hb'⟩
  have hP1 := hid (hP0.out.kept hb')
  have b1 := hid hb'
  clear hP0 hb'
  go_wp2_with fail
  refine Calls.mono (c_In.out _ hP1.out) ?_
  rintro e w2 ⟨rfl, hb'⟩
  have hP2 := hid (hP1.out.kept hb')
  have b2 := hid (b1.out.trans (hb'.mono b1.out.size))
  clear b1
  clear hP1 hb'
  go_wp2_with fail
  refine Calls.mono (c_text_int.out _ hP2.out) ?_
  rintro e w3 ⟨rfl, hb'⟩
  have hP3 := hid (hP2.out.kept hb')
  have b3 := hid (b2.out.trans (hb'.mono b2.out.size))
  clear b2
  clear hP2 hb'
  go_wp2_with fail
  refine Calls.mono (c_In.out _ hP3.out) ?_
  rintro e w4 ⟨rfl, hb'⟩
  have hP4 := hid (hP3.out.kept hb')
  have b4 := hid (b3.out.trans (hb'.mono b3.out.size))
  clear b3
  clear hP3 hb'
  go_wp2_with fail
  refine Calls.mono (c_text_uint64.out _ hP4.out) ?_
  rintro e w5 ⟨rfl, hb'⟩
  have hP5 := hid (hP4.out.kept hb')
  have b5 := hid (b4.out.trans (hb'.mono b4.out.size))
  clear b4
  clear hP4 hb'
  go_wp2_with fail
  refine Calls.mono (c_Uu.out _ hP5.out) ?_
  rintro e w6 ⟨rfl, hb'⟩
  have hP6 := hid (hP5.out.kept hb')
  have b6 := hid (b5.out.trans (hb'.mono b5.out.size))
  clear b5
  clear hP5 hb'
  go_wp2_with fail
  refine Calls.mono (c_text_uint.out _ hP6.out) ?_
  rintro e w7 ⟨rfl, hb'⟩
  have hP7 := hid (hP6.out.kept hb')
  have b7 := hid (b6.out.trans (hb'.mono b6.out.size))
  clear b6
  clear hP6 hb'
  go_wp2_with fail
  refine Calls.mono (c_Uu.out _ hP7.out) ?_
  rintro e w8 ⟨rfl, hb'⟩
  have hP8 := hid (hP7.out.kept hb')
  have b8 := hid (b7.out.trans (hb'.mono b7.out.size))
  clear b7
  clear hP7 hb'
  go_wp2_with fail
  refine Calls.mono (c_text_int8.out _ hP8.out) ?_
  rintro e w9 ⟨rfl, hb'⟩
  have hP9 := hid (hP8.out.kept hb')
  have b9 := hid (b8.out.trans (hb'.mono b8.out.size))
  clear b8
  clear hP8 hb'
  go_wp2_with fail
  refine Calls.mono (c_Ia.out _ hP9.out) ?_
  rintro e w10 ⟨rfl, hb'⟩
  have hP10 := hid (hP9.out.kept hb')
  have b10 := hid (b9.out.trans (hb'.mono b9.out.size))
  clear b9
  clear hP9 hb'
  go_wp2_with fail
  refine Calls.mono (c_text_int16.out _ hP10.out) ?_
  rintro e w11 ⟨rfl, hb'⟩
  have hP11 := hid (hP10.out.kept hb')
  have b11 := hid (b10.out.trans (hb'.mono b10.out.size))
  clear b10
  clear hP10 hb'
  go_wp2_with fail
  refine Calls.mono (c_Ib.out _ hP11.out) ?_
  rintro e w12 ⟨rfl, hb'⟩
  have hP12 := hid (hP11.out.kept hb')
  have b12 := hid (b11.out.trans (hb'.mono b11.out.size))
  clear b11
  clear hP11 hb'
  go_wp2_with fail
  refine Calls.mono (c_text_int32.out _ hP12.out) ?_
  rintro e w13 ⟨rfl, hb'⟩
  have hP13 := hid (hP12.out.kept hb')
  have b13 := hid (b12.out.trans (hb'.mono b12.out.size))
  clear b12
  clear hP12 hb'
  go_wp2_with fail
  refine Calls.mono (c_Ic.out _ hP13.out) ?_
  rintro e w14 ⟨rfl, hb'⟩
  have hP14 := hid (hP13.out.kept hb')
  have b14 := hid (b13.out.trans (hb'.mono b13.out.size))
  clear b13
  clear hP13 hb'
  go_wp2_with fail
  refine Calls.mono (c_text_Small.out _ hP14.out) ?_
  rintro e w15 ⟨rfl, hb'⟩
  have hP15 := hid (hP14.out.kept hb')
  have b15 := hid (b14.out.trans (hb'.mono b14.out.size))
  clear b14
  clear hP14 hb'
  go_wp2_with fail
  refine Calls.mono (c_Ia.out _ hP15.out) ?_
  rintro e w16 ⟨rfl, hb'⟩
  have hP16 := hid (hP15.out.kept hb')
  have b16 := hid (b15.out.trans (hb'.mono b15.out.size))
  clear b15
  clear hP15 hb'
  go_wp2_with fail
  refine Calls.mono (c_text_uint8.out _ hP16.out) ?_
  rintro e w17 ⟨rfl, hb'⟩
  have hP17 := hid (hP16.out.kept hb')
  have b17 := hid (b16.out.trans (hb'.mono b16.out.size))
  clear b16
  clear hP16 hb'
  go_wp2_with fail
  refine Calls.mono (c_Ud.out _ hP17.out) ?_
  rintro e w18 ⟨rfl, hb'⟩
  have hP18 := hid (hP17.out.kept hb')
  have b18 := hid (b17.out.trans (hb'.mono b17.out.size))
  clear b17
  clear hP17 hb'
  go_wp2_with fail
  refine Calls.mono (c_text_uint16.out _ hP18.out) ?_
  rintro e w19 ⟨rfl, hb'⟩
  have hP19 := hid (hP18.out.kept hb')
  have b19 := hid (b18.out.trans (hb'.mono b18.out.size))
  clear b18
  clear hP18 hb'
  go_wp2_with fail
  refine Calls.mono (c_Uf.out _ hP19.out) ?_
  rintro e w20 ⟨rfl, hb'⟩
  have hP20 := hid (hP19.out.kept hb')
  have b20 := hid (b19.out.trans (hb'.mono b19.out.size))
  clear b19
  clear hP19 hb'
  go_wp2_with fail
  refine Calls.mono (c_text_uint32.out _ hP20.out) ?_
  rintro e w21 ⟨rfl, hb'⟩
  have hP21 := hid (hP20.out.kept hb')
  have b21 := hid (b20.out.trans (hb'.mono b20.out.size))
  clear b20
  clear hP20 hb'
  go_wp2_with fail
  refine Calls.mono (c_Ug.out _ hP21.out) ?_
  rintro e w22 ⟨rfl, hb'⟩
  have hP22 := hid (hP21.out.kept hb')
  have b22 := hid (b21.out.trans (hb'.mono b21.out.size))
  clear b21
  clear hP21 hb'
  go_wp2_with fail
  refine Calls.mono (c_text_Long.out _ hP22.out) ?_
  rintro e w23 ⟨rfl, hb'⟩
  have hP23 := hid (hP22.out.kept hb')
  have b23 := hid (b22.out.trans (hb'.mono b22.out.size))
  clear b22
  clear hP22 hb'
  go_wp2_with fail
  refine Calls.mono (c_Uu.out _ hP23.out) ?_
  rintro e w24 ⟨rfl, hb'⟩
  have hP24 := hid (hP23.out.kept hb')
  have b24 := hid (b23.out.trans (hb'.mono b23.out.size))
  clear b23
  clear hP23 hb'
  go_wp2_with fail
  go_ret
  exact ⟨by first | rfl | simp, b24.out⟩
end Go.Proofs.YtheeonlfbnkhgaaDoor
