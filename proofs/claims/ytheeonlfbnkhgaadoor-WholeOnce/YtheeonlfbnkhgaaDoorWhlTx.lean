/-
  What whole.Text answers, type by type (by gen_tx.py).
-/
import Derived.Test.YtheeonlfbnkhgaaDoorWhlFmt
import Derived.Test.YtheeonlfbnkhgaaDoorWhlStep
namespace Go.Proofs.YtheeonlfbnkhgaaDoor
open Go.RowKit Go.Shelf

set_option maxRecDepth 10000 in
theorem text_int8 (n : Int) (h0 : (-128 : Int) ≤ n) (h1 : n ≤ (127 : Int)) (T : ByteArray) (hT : Hid ((⟨(Lib.itoa n).toArray⟩ : ByteArray) = T)) (w : World) (hP : PowW w) :
    Calls Tryd.prog 17 #[.int .i8 n] w fun e w' => e = .returned (.string T) ∧ Below w.heap.size w w' := by
  by_cases hn : n < 0
  · have e1 : decide (n < 0) = true := by simpa using hn
    have e2 : wrap64 n = n := by rw [wrap64]; omega
    have hc := hid (fmtI_calls n (by omega) (by omega) w hP)
    rw [hT.out] at hc
    clear hn h0 h1 hT hP
    go_enter Tryd.func17, Tryd.ntmps17
    go_wp2_with fail
    refine Calls.mono hc.out ?_
    rintro e w1 ⟨rfl, hb⟩
    go_wp2
    go_ret
    exact ⟨rfl, hb⟩
  · obtain ⟨u, rfl⟩ : ∃ u : Nat, n = (u : Int) := ⟨n.toNat, by omega⟩
    have e1 : decide ((u : Int) < 0) = false := by simp
    have e3 : IntKind.u64.wrap (u : Int) = (u : Int) := kw_id .u64 _ (by show (0 : Int) ≤ _; omega) (by show _ ≤ (18446744073709551615 : Int); omega)
    have hc := hid (fmtU_calls u (by omega) w hP)
    rw [Lib.itoa_nonneg] at hT
    rw [hT.out] at hc
    clear hn h0 h1 hT hP
    go_enter Tryd.func17, Tryd.ntmps17
    go_wp2_with fail
    refine Calls.mono hc.out ?_
    rintro e w1 ⟨rfl, hb⟩
    go_wp2
    go_ret
    exact ⟨rfl, hb⟩
set_option maxRecDepth 10000 in
theorem text_Small (n : Int) (h0 : (-128 : Int) ≤ n) (h1 : n ≤ (127 : Int)) (T : ByteArray) (hT : Hid ((⟨(Lib.itoa n).toArray⟩ : ByteArray) = T)) (w : World) (hP : PowW w) :
    Calls Tryd.prog 20 #[.int .i8 n] w fun e w' => e = .returned (.string T) ∧ Below w.heap.size w w' := by
  by_cases hn : n < 0
  · have e1 : decide (n < 0) = true := by simpa using hn
    have e2 : wrap64 n = n := by rw [wrap64]; omega
    have hc := hid (fmtI_calls n (by omega) (by omega) w hP)
    rw [hT.out] at hc
    clear hn h0 h1 hT hP
    go_enter Tryd.func20, Tryd.ntmps20
    go_wp2_with fail
    refine Calls.mono hc.out ?_
    rintro e w1 ⟨rfl, hb⟩
    go_wp2
    go_ret
    exact ⟨rfl, hb⟩
  · obtain ⟨u, rfl⟩ : ∃ u : Nat, n = (u : Int) := ⟨n.toNat, by omega⟩
    have e1 : decide ((u : Int) < 0) = false := by simp
    have e3 : IntKind.u64.wrap (u : Int) = (u : Int) := kw_id .u64 _ (by show (0 : Int) ≤ _; omega) (by show _ ≤ (18446744073709551615 : Int); omega)
    have hc := hid (fmtU_calls u (by omega) w hP)
    rw [Lib.itoa_nonneg] at hT
    rw [hT.out] at hc
    clear hn h0 h1 hT hP
    go_enter Tryd.func20, Tryd.ntmps20
    go_wp2_with fail
    refine Calls.mono hc.out ?_
    rintro e w1 ⟨rfl, hb⟩
    go_wp2
    go_ret
    exact ⟨rfl, hb⟩
set_option maxRecDepth 10000 in
theorem text_int16 (n : Int) (h0 : (-32768 : Int) ≤ n) (h1 : n ≤ (32767 : Int)) (T : ByteArray) (hT : Hid ((⟨(Lib.itoa n).toArray⟩ : ByteArray) = T)) (w : World) (hP : PowW w) :
    Calls Tryd.prog 18 #[.int .i16 n] w fun e w' => e = .returned (.string T) ∧ Below w.heap.size w w' := by
  by_cases hn : n < 0
  · have e1 : decide (n < 0) = true := by simpa using hn
    have e2 : wrap64 n = n := by rw [wrap64]; omega
    have hc := hid (fmtI_calls n (by omega) (by omega) w hP)
    rw [hT.out] at hc
    clear hn h0 h1 hT hP
    go_enter Tryd.func18, Tryd.ntmps18
    go_wp2_with fail
    refine Calls.mono hc.out ?_
    rintro e w1 ⟨rfl, hb⟩
    go_wp2
    go_ret
    exact ⟨rfl, hb⟩
  · obtain ⟨u, rfl⟩ : ∃ u : Nat, n = (u : Int) := ⟨n.toNat, by omega⟩
    have e1 : decide ((u : Int) < 0) = false := by simp
    have e3 : IntKind.u64.wrap (u : Int) = (u : Int) := kw_id .u64 _ (by show (0 : Int) ≤ _; omega) (by show _ ≤ (18446744073709551615 : Int); omega)
    have hc := hid (fmtU_calls u (by omega) w hP)
    rw [Lib.itoa_nonneg] at hT
    rw [hT.out] at hc
    clear hn h0 h1 hT hP
    go_enter Tryd.func18, Tryd.ntmps18
    go_wp2_with fail
    refine Calls.mono hc.out ?_
    rintro e w1 ⟨rfl, hb⟩
    go_wp2
    go_ret
    exact ⟨rfl, hb⟩
set_option maxRecDepth 10000 in
theorem text_int32 (n : Int) (h0 : (-2147483648 : Int) ≤ n) (h1 : n ≤ (2147483647 : Int)) (T : ByteArray) (hT : Hid ((⟨(Lib.itoa n).toArray⟩ : ByteArray) = T)) (w : World) (hP : PowW w) :
    Calls Tryd.prog 19 #[.int .i32 n] w fun e w' => e = .returned (.string T) ∧ Below w.heap.size w w' := by
  by_cases hn : n < 0
  · have e1 : decide (n < 0) = true := by simpa using hn
    have e2 : wrap64 n = n := by rw [wrap64]; omega
    have hc := hid (fmtI_calls n (by omega) (by omega) w hP)
    rw [hT.out] at hc
    clear hn h0 h1 hT hP
    go_enter Tryd.func19, Tryd.ntmps19
    go_wp2_with fail
    refine Calls.mono hc.out ?_
    rintro e w1 ⟨rfl, hb⟩
    go_wp2
    go_ret
    exact ⟨rfl, hb⟩
  · obtain ⟨u, rfl⟩ : ∃ u : Nat, n = (u : Int) := ⟨n.toNat, by omega⟩
    have e1 : decide ((u : Int) < 0) = false := by simp
    have e3 : IntKind.u64.wrap (u : Int) = (u : Int) := kw_id .u64 _ (by show (0 : Int) ≤ _; omega) (by show _ ≤ (18446744073709551615 : Int); omega)
    have hc := hid (fmtU_calls u (by omega) w hP)
    rw [Lib.itoa_nonneg] at hT
    rw [hT.out] at hc
    clear hn h0 h1 hT hP
    go_enter Tryd.func19, Tryd.ntmps19
    go_wp2_with fail
    refine Calls.mono hc.out ?_
    rintro e w1 ⟨rfl, hb⟩
    go_wp2
    go_ret
    exact ⟨rfl, hb⟩
set_option maxRecDepth 10000 in
theorem text_int64 (n : Int) (h0 : (-9223372036854775808 : Int) ≤ n) (h1 : n ≤ (9223372036854775807 : Int)) (T : ByteArray) (hT : Hid ((⟨(Lib.itoa n).toArray⟩ : ByteArray) = T)) (w : World) (hP : PowW w) :
    Calls Tryd.prog 11 #[.int .i64 n] w fun e w' => e = .returned (.string T) ∧ Below w.heap.size w w' := by
  by_cases hn : n < 0
  · have e1 : decide (n < 0) = true := by simpa using hn
    have e2 : wrap64 n = n := by rw [wrap64]; omega
    have hc := hid (fmtI_calls n (by omega) (by omega) w hP)
    rw [hT.out] at hc
    clear hn h0 h1 hT hP
    go_enter Tryd.func11, Tryd.ntmps11
    go_wp2_with fail
    refine Calls.mono hc.out ?_
    rintro e w1 ⟨rfl, hb⟩
    go_wp2
    go_ret
    exact ⟨rfl, hb⟩
  · obtain ⟨u, rfl⟩ : ∃ u : Nat, n = (u : Int) := ⟨n.toNat, by omega⟩
    have e1 : decide ((u : Int) < 0) = false := by simp
    have e3 : IntKind.u64.wrap (u : Int) = (u : Int) := kw_id .u64 _ (by show (0 : Int) ≤ _; omega) (by show _ ≤ (18446744073709551615 : Int); omega)
    have hc := hid (fmtU_calls u (by omega) w hP)
    rw [Lib.itoa_nonneg] at hT
    rw [hT.out] at hc
    clear hn h0 h1 hT hP
    go_enter Tryd.func11, Tryd.ntmps11
    go_wp2_with fail
    refine Calls.mono hc.out ?_
    rintro e w1 ⟨rfl, hb⟩
    go_wp2
    go_ret
    exact ⟨rfl, hb⟩
set_option maxRecDepth 10000 in
theorem text_int (n : Int) (h0 : (-9223372036854775808 : Int) ≤ n) (h1 : n ≤ (9223372036854775807 : Int)) (T : ByteArray) (hT : Hid ((⟨(Lib.itoa n).toArray⟩ : ByteArray) = T)) (w : World) (hP : PowW w) :
    Calls Tryd.prog 13 #[.int .i64 n] w fun e w' => e = .returned (.string T) ∧ Below w.heap.size w w' := by
  by_cases hn : n < 0
  · have e1 : decide (n < 0) = true := by simpa using hn
    have e2 : wrap64 n = n := by rw [wrap64]; omega
    have hc := hid (fmtI_calls n (by omega) (by omega) w hP)
    rw [hT.out] at hc
    clear hn h0 h1 hT hP
    go_enter Tryd.func13, Tryd.ntmps13
    go_wp2_with fail
    refine Calls.mono hc.out ?_
    rintro e w1 ⟨rfl, hb⟩
    go_wp2
    go_ret
    exact ⟨rfl, hb⟩
  · obtain ⟨u, rfl⟩ : ∃ u : Nat, n = (u : Int) := ⟨n.toNat, by omega⟩
    have e1 : decide ((u : Int) < 0) = false := by simp
    have e3 : IntKind.u64.wrap (u : Int) = (u : Int) := kw_id .u64 _ (by show (0 : Int) ≤ _; omega) (by show _ ≤ (18446744073709551615 : Int); omega)
    have hc := hid (fmtU_calls u (by omega) w hP)
    rw [Lib.itoa_nonneg] at hT
    rw [hT.out] at hc
    clear hn h0 h1 hT hP
    go_enter Tryd.func13, Tryd.ntmps13
    go_wp2_with fail
    refine Calls.mono hc.out ?_
    rintro e w1 ⟨rfl, hb⟩
    go_wp2
    go_ret
    exact ⟨rfl, hb⟩
set_option maxRecDepth 10000 in
theorem text_uint8 (n : Int) (h0 : (0 : Int) ≤ n) (h1 : n ≤ (255 : Int)) (T : ByteArray) (hT : Hid ((⟨(Lib.itoa n).toArray⟩ : ByteArray) = T)) (w : World) (hP : PowW w) :
    Calls Tryd.prog 21 #[.int .u8 n] w fun e w' => e = .returned (.string T) ∧ Below w.heap.size w w' := by
  obtain ⟨u, rfl⟩ : ∃ u : Nat, n = (u : Int) := ⟨n.toNat, by omega⟩
  have e1 : decide ((u : Int) < 0) = false := by simp
  have e3 : IntKind.u64.wrap (u : Int) = (u : Int) := kw_id .u64 _ (by show (0 : Int) ≤ _; omega) (by show _ ≤ (18446744073709551615 : Int); omega)
  have hc := hid (fmtU_calls u (by omega) w hP)
  rw [Lib.itoa_nonneg] at hT
  rw [hT.out] at hc
  clear h0 h1 hT hP
  go_enter Tryd.func21, Tryd.ntmps21
  go_wp2_with fail
  refine Calls.mono hc.out ?_
  rintro e w1 ⟨rfl, hb⟩
  go_wp2
  go_ret
  exact ⟨rfl, hb⟩
set_option maxRecDepth 10000 in
theorem text_uint16 (n : Int) (h0 : (0 : Int) ≤ n) (h1 : n ≤ (65535 : Int)) (T : ByteArray) (hT : Hid ((⟨(Lib.itoa n).toArray⟩ : ByteArray) = T)) (w : World) (hP : PowW w) :
    Calls Tryd.prog 22 #[.int .u16 n] w fun e w' => e = .returned (.string T) ∧ Below w.heap.size w w' := by
  obtain ⟨u, rfl⟩ : ∃ u : Nat, n = (u : Int) := ⟨n.toNat, by omega⟩
  have e1 : decide ((u : Int) < 0) = false := by simp
  have e3 : IntKind.u64.wrap (u : Int) = (u : Int) := kw_id .u64 _ (by show (0 : Int) ≤ _; omega) (by show _ ≤ (18446744073709551615 : Int); omega)
  have hc := hid (fmtU_calls u (by omega) w hP)
  rw [Lib.itoa_nonneg] at hT
  rw [hT.out] at hc
  clear h0 h1 hT hP
  go_enter Tryd.func22, Tryd.ntmps22
  go_wp2_with fail
  refine Calls.mono hc.out ?_
  rintro e w1 ⟨rfl, hb⟩
  go_wp2
  go_ret
  exact ⟨rfl, hb⟩
set_option maxRecDepth 10000 in
theorem text_uint32 (n : Int) (h0 : (0 : Int) ≤ n) (h1 : n ≤ (4294967295 : Int)) (T : ByteArray) (hT : Hid ((⟨(Lib.itoa n).toArray⟩ : ByteArray) = T)) (w : World) (hP : PowW w) :
    Calls Tryd.prog 23 #[.int .u32 n] w fun e w' => e = .returned (.string T) ∧ Below w.heap.size w w' := by
  obtain ⟨u, rfl⟩ : ∃ u : Nat, n = (u : Int) := ⟨n.toNat, by omega⟩
  have e1 : decide ((u : Int) < 0) = false := by simp
  have e3 : IntKind.u64.wrap (u : Int) = (u : Int) := kw_id .u64 _ (by show (0 : Int) ≤ _; omega) (by show _ ≤ (18446744073709551615 : Int); omega)
  have hc := hid (fmtU_calls u (by omega) w hP)
  rw [Lib.itoa_nonneg] at hT
  rw [hT.out] at hc
  clear h0 h1 hT hP
  go_enter Tryd.func23, Tryd.ntmps23
  go_wp2_with fail
  refine Calls.mono hc.out ?_
  rintro e w1 ⟨rfl, hb⟩
  go_wp2
  go_ret
  exact ⟨rfl, hb⟩
set_option maxRecDepth 10000 in
theorem text_uint64 (n : Int) (h0 : (0 : Int) ≤ n) (h1 : n ≤ (18446744073709551615 : Int)) (T : ByteArray) (hT : Hid ((⟨(Lib.itoa n).toArray⟩ : ByteArray) = T)) (w : World) (hP : PowW w) :
    Calls Tryd.prog 14 #[.int .u64 n] w fun e w' => e = .returned (.string T) ∧ Below w.heap.size w w' := by
  obtain ⟨u, rfl⟩ : ∃ u : Nat, n = (u : Int) := ⟨n.toNat, by omega⟩
  have e1 : decide ((u : Int) < 0) = false := by simp
  have e3 : IntKind.u64.wrap (u : Int) = (u : Int) := kw_id .u64 _ (by show (0 : Int) ≤ _; omega) (by show _ ≤ (18446744073709551615 : Int); omega)
  have hc := hid (fmtU_calls u (by omega) w hP)
  rw [Lib.itoa_nonneg] at hT
  rw [hT.out] at hc
  clear h0 h1 hT hP
  go_enter Tryd.func14, Tryd.ntmps14
  go_wp2_with fail
  refine Calls.mono hc.out ?_
  rintro e w1 ⟨rfl, hb⟩
  go_wp2
  go_ret
  exact ⟨rfl, hb⟩
set_option maxRecDepth 10000 in
theorem text_uint (n : Int) (h0 : (0 : Int) ≤ n) (h1 : n ≤ (18446744073709551615 : Int)) (T : ByteArray) (hT : Hid ((⟨(Lib.itoa n).toArray⟩ : ByteArray) = T)) (w : World) (hP : PowW w) :
    Calls Tryd.prog 16 #[.int .u64 n] w fun e w' => e = .returned (.string T) ∧ Below w.heap.size w w' := by
  obtain ⟨u, rfl⟩ : ∃ u : Nat, n = (u : Int) := ⟨n.toNat, by omega⟩
  have e1 : decide ((u : Int) < 0) = false := by simp
  have e3 : IntKind.u64.wrap (u : Int) = (u : Int) := kw_id .u64 _ (by show (0 : Int) ≤ _; omega) (by show _ ≤ (18446744073709551615 : Int); omega)
  have hc := hid (fmtU_calls u (by omega) w hP)
  rw [Lib.itoa_nonneg] at hT
  rw [hT.out] at hc
  clear h0 h1 hT hP
  go_enter Tryd.func16, Tryd.ntmps16
  go_wp2_with fail
  refine Calls.mono hc.out ?_
  rintro e w1 ⟨rfl, hb⟩
  go_wp2
  go_ret
  exact ⟨rfl, hb⟩
set_option maxRecDepth 10000 in
theorem text_Long (n : Int) (h0 : (0 : Int) ≤ n) (h1 : n ≤ (18446744073709551615 : Int)) (T : ByteArray) (hT : Hid ((⟨(Lib.itoa n).toArray⟩ : ByteArray) = T)) (w : World) (hP : PowW w) :
    Calls Tryd.prog 24 #[.int .u64 n] w fun e w' => e = .returned (.string T) ∧ Below w.heap.size w w' := by
  obtain ⟨u, rfl⟩ : ∃ u : Nat, n = (u : Int) := ⟨n.toNat, by omega⟩
  have e1 : decide ((u : Int) < 0) = false := by simp
  have e3 : IntKind.u64.wrap (u : Int) = (u : Int) := kw_id .u64 _ (by show (0 : Int) ≤ _; omega) (by show _ ≤ (18446744073709551615 : Int); omega)
  have hc := hid (fmtU_calls u (by omega) w hP)
  rw [Lib.itoa_nonneg] at hT
  rw [hT.out] at hc
  clear h0 h1 hT hP
  go_enter Tryd.func24, Tryd.ntmps24
  go_wp2_with fail
  refine Calls.mono hc.out ?_
  rintro e w1 ⟨rfl, hb⟩
  go_wp2
  go_ret
  exact ⟨rfl, hb⟩
end Go.Proofs.YtheeonlfbnkhgaaDoor
