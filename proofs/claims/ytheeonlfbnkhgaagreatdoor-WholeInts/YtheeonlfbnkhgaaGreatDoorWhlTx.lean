/-
  What whole.Text answers, type by type (by gen_tx.py).
-/
import Derived.Test.YtheeonlfbnkhgaaGreatDoorWhlFmt
import Derived.Test.YtheeonlfbnkhgaaGreatDoorWhlStep
namespace Go.Proofs.YtheeonlfbnkhgaaGreatDoor
open Go.RowKit Go.Shelf

set_option maxRecDepth 10000 in
theorem text_int8 (n : Int) (h0 : (-128 : Int) ≤ n) (h1 : n ≤ (127 : Int)) (T : ByteArray) (hT : Hid ((⟨(Lib.itoa n).toArray⟩ : ByteArray) = T)) (w : World) (hP : PowW w) :
    Calls Tryz.prog 25 #[.int .i8 n] w fun e w' => e = .returned (.string T) ∧ Below w.heap.size w w' := by
  by_cases hn : n < 0
  · have e1 : decide (n < 0) = true := by simpa using hn
    have e2 : wrap64 n = n := by rw [wrap64]; omega
    have hc := hid (fmtI_calls n (by omega) (by omega) w hP)
    rw [hT.out] at hc
    clear hn h0 h1 hT hP
    go_enter Tryz.func25, Tryz.ntmps25
    go_wp2_with fail
    refine Calls.mono hc.out ?_
    rintro e w1 ⟨rfl, hb⟩
    go_wp2
    go_ret
    exact ⟨rfl, hb⟩
  · obtain ⟨u, rfl⟩ : ∃ u : Nat, n = (u : Int) := ⟨n.toNat, by omega⟩
    have e1 : decide ((u : Int) < 0) = false := by simp
    have e3 : IntKind.u64.wrap (u : Int) = (u : Int) := kw_id .u64 _ (by show (0 : Int) ≤ _; omega) (by show _ ≤ (18446744073709551615 : Int); omega)
    have hc := hid (fmtU_calls u (by omega) w hP)
    rw [Lib.itoa_nonneg] at hT
    rw [hT.out] at hc
    clear hn h0 h1 hT hP
    go_enter Tryz.func25, Tryz.ntmps25
    go_wp2_with fail
    refine Calls.mono hc.out ?_
    rintro e w1 ⟨rfl, hb⟩
    go_wp2
    go_ret
    exact ⟨rfl, hb⟩
set_option maxRecDepth 10000 in
theorem text_int16 (n : Int) (h0 : (-32768 : Int) ≤ n) (h1 : n ≤ (32767 : Int)) (T : ByteArray) (hT : Hid ((⟨(Lib.itoa n).toArray⟩ : ByteArray) = T)) (w : World) (hP : PowW w) :
    Calls Tryz.prog 26 #[.int .i16 n] w fun e w' => e = .returned (.string T) ∧ Below w.heap.size w w' := by
  by_cases hn : n < 0
  · have e1 : decide (n < 0) = true := by simpa using hn
    have e2 : wrap64 n = n := by rw [wrap64]; omega
    have hc := hid (fmtI_calls n (by omega) (by omega) w hP)
    rw [hT.out] at hc
    clear hn h0 h1 hT hP
    go_enter Tryz.func26, Tryz.ntmps26
    go_wp2_with fail
    refine Calls.mono hc.out ?_
    rintro e w1 ⟨rfl, hb⟩
    go_wp2
    go_ret
    exact ⟨rfl, hb⟩
  · obtain ⟨u, rfl⟩ : ∃ u : Nat, n = (u : Int) := ⟨n.toNat, by omega⟩
    have e1 : decide ((u : Int) < 0) = false := by simp
    have e3 : IntKind.u64.wrap (u : Int) = (u : Int) := kw_id .u64 _ (by show (0 : Int) ≤ _; omega) (by show _ ≤ (18446744073709551615 : Int); omega)
    have hc := hid (fmtU_calls u (by omega) w hP)
    rw [Lib.itoa_nonneg] at hT
    rw [hT.out] at hc
    clear hn h0 h1 hT hP
    go_enter Tryz.func26, Tryz.ntmps26
    go_wp2_with fail
    refine Calls.mono hc.out ?_
    rintro e w1 ⟨rfl, hb⟩
    go_wp2
    go_ret
    exact ⟨rfl, hb⟩
set_option maxRecDepth 10000 in
theorem text_int32 (n : Int) (h0 : (-2147483648 : Int) ≤ n) (h1 : n ≤ (2147483647 : Int)) (T : ByteArray) (hT : Hid ((⟨(Lib.itoa n).toArray⟩ : ByteArray) = T)) (w : World) (hP : PowW w) :
    Calls Tryz.prog 27 #[.int .i32 n] w fun e w' => e = .returned (.string T) ∧ Below w.heap.size w w' := by
  by_cases hn : n < 0
  · have e1 : decide (n < 0) = true := by simpa using hn
    have e2 : wrap64 n = n := by rw [wrap64]; omega
    have hc := hid (fmtI_calls n (by omega) (by omega) w hP)
    rw [hT.out] at hc
    clear hn h0 h1 hT hP
    go_enter Tryz.func27, Tryz.ntmps27
    go_wp2_with fail
    refine Calls.mono hc.out ?_
    rintro e w1 ⟨rfl, hb⟩
    go_wp2
    go_ret
    exact ⟨rfl, hb⟩
  · obtain ⟨u, rfl⟩ : ∃ u : Nat, n = (u : Int) := ⟨n.toNat, by omega⟩
    have e1 : decide ((u : Int) < 0) = false := by simp
    have e3 : IntKind.u64.wrap (u : Int) = (u : Int) := kw_id .u64 _ (by show (0 : Int) ≤ _; omega) (by show _ ≤ (18446744073709551615 : Int); omega)
    have hc := hid (fmtU_calls u (by omega) w hP)
    rw [Lib.itoa_nonneg] at hT
    rw [hT.out] at hc
    clear hn h0 h1 hT hP
    go_enter Tryz.func27, Tryz.ntmps27
    go_wp2_with fail
    refine Calls.mono hc.out ?_
    rintro e w1 ⟨rfl, hb⟩
    go_wp2
    go_ret
    exact ⟨rfl, hb⟩
set_option maxRecDepth 10000 in
theorem text_int64 (n : Int) (h0 : (-9223372036854775808 : Int) ≤ n) (h1 : n ≤ (9223372036854775807 : Int)) (T : ByteArray) (hT : Hid ((⟨(Lib.itoa n).toArray⟩ : ByteArray) = T)) (w : World) (hP : PowW w) :
    Calls Tryz.prog 28 #[.int .i64 n] w fun e w' => e = .returned (.string T) ∧ Below w.heap.size w w' := by
  by_cases hn : n < 0
  · have e1 : decide (n < 0) = true := by simpa using hn
    have e2 : wrap64 n = n := by rw [wrap64]; omega
    have hc := hid (fmtI_calls n (by omega) (by omega) w hP)
    rw [hT.out] at hc
    clear hn h0 h1 hT hP
    go_enter Tryz.func28, Tryz.ntmps28
    go_wp2_with fail
    refine Calls.mono hc.out ?_
    rintro e w1 ⟨rfl, hb⟩
    go_wp2
    go_ret
    exact ⟨rfl, hb⟩
  · obtain ⟨u, rfl⟩ : ∃ u : Nat, n = (u : Int) := ⟨n.toNat, by omega⟩
    have e1 : decide ((u : Int) < 0) = false := by simp
    have e3 : IntKind.u64.wrap (u : Int) = (u : Int) := kw_id .u64 _ (by show (0 : Int) ≤ _; omega) (by show _ ≤ (18446744073709551615 : Int); omega)
    have hc := hid (fmtU_calls u (by omega) w hP)
    rw [Lib.itoa_nonneg] at hT
    rw [hT.out] at hc
    clear hn h0 h1 hT hP
    go_enter Tryz.func28, Tryz.ntmps28
    go_wp2_with fail
    refine Calls.mono hc.out ?_
    rintro e w1 ⟨rfl, hb⟩
    go_wp2
    go_ret
    exact ⟨rfl, hb⟩
set_option maxRecDepth 10000 in
theorem text_uint8 (n : Int) (h0 : (0 : Int) ≤ n) (h1 : n ≤ (255 : Int)) (T : ByteArray) (hT : Hid ((⟨(Lib.itoa n).toArray⟩ : ByteArray) = T)) (w : World) (hP : PowW w) :
    Calls Tryz.prog 29 #[.int .u8 n] w fun e w' => e = .returned (.string T) ∧ Below w.heap.size w w' := by
  obtain ⟨u, rfl⟩ : ∃ u : Nat, n = (u : Int) := ⟨n.toNat, by omega⟩
  have e1 : decide ((u : Int) < 0) = false := by simp
  have e3 : IntKind.u64.wrap (u : Int) = (u : Int) := kw_id .u64 _ (by show (0 : Int) ≤ _; omega) (by show _ ≤ (18446744073709551615 : Int); omega)
  have hc := hid (fmtU_calls u (by omega) w hP)
  rw [Lib.itoa_nonneg] at hT
  rw [hT.out] at hc
  clear h0 h1 hT hP
  go_enter Tryz.func29, Tryz.ntmps29
  go_wp2_with fail
  refine Calls.mono hc.out ?_
  rintro e w1 ⟨rfl, hb⟩
  go_wp2
  go_ret
  exact ⟨rfl, hb⟩
set_option maxRecDepth 10000 in
theorem text_uint16 (n : Int) (h0 : (0 : Int) ≤ n) (h1 : n ≤ (65535 : Int)) (T : ByteArray) (hT : Hid ((⟨(Lib.itoa n).toArray⟩ : ByteArray) = T)) (w : World) (hP : PowW w) :
    Calls Tryz.prog 30 #[.int .u16 n] w fun e w' => e = .returned (.string T) ∧ Below w.heap.size w w' := by
  obtain ⟨u, rfl⟩ : ∃ u : Nat, n = (u : Int) := ⟨n.toNat, by omega⟩
  have e1 : decide ((u : Int) < 0) = false := by simp
  have e3 : IntKind.u64.wrap (u : Int) = (u : Int) := kw_id .u64 _ (by show (0 : Int) ≤ _; omega) (by show _ ≤ (18446744073709551615 : Int); omega)
  have hc := hid (fmtU_calls u (by omega) w hP)
  rw [Lib.itoa_nonneg] at hT
  rw [hT.out] at hc
  clear h0 h1 hT hP
  go_enter Tryz.func30, Tryz.ntmps30
  go_wp2_with fail
  refine Calls.mono hc.out ?_
  rintro e w1 ⟨rfl, hb⟩
  go_wp2
  go_ret
  exact ⟨rfl, hb⟩
set_option maxRecDepth 10000 in
theorem text_uint32 (n : Int) (h0 : (0 : Int) ≤ n) (h1 : n ≤ (4294967295 : Int)) (T : ByteArray) (hT : Hid ((⟨(Lib.itoa n).toArray⟩ : ByteArray) = T)) (w : World) (hP : PowW w) :
    Calls Tryz.prog 31 #[.int .u32 n] w fun e w' => e = .returned (.string T) ∧ Below w.heap.size w w' := by
  obtain ⟨u, rfl⟩ : ∃ u : Nat, n = (u : Int) := ⟨n.toNat, by omega⟩
  have e1 : decide ((u : Int) < 0) = false := by simp
  have e3 : IntKind.u64.wrap (u : Int) = (u : Int) := kw_id .u64 _ (by show (0 : Int) ≤ _; omega) (by show _ ≤ (18446744073709551615 : Int); omega)
  have hc := hid (fmtU_calls u (by omega) w hP)
  rw [Lib.itoa_nonneg] at hT
  rw [hT.out] at hc
  clear h0 h1 hT hP
  go_enter Tryz.func31, Tryz.ntmps31
  go_wp2_with fail
  refine Calls.mono hc.out ?_
  rintro e w1 ⟨rfl, hb⟩
  go_wp2
  go_ret
  exact ⟨rfl, hb⟩
set_option maxRecDepth 10000 in
theorem text_uint64 (n : Int) (h0 : (0 : Int) ≤ n) (h1 : n ≤ (18446744073709551615 : Int)) (T : ByteArray) (hT : Hid ((⟨(Lib.itoa n).toArray⟩ : ByteArray) = T)) (w : World) (hP : PowW w) :
    Calls Tryz.prog 32 #[.int .u64 n] w fun e w' => e = .returned (.string T) ∧ Below w.heap.size w w' := by
  obtain ⟨u, rfl⟩ : ∃ u : Nat, n = (u : Int) := ⟨n.toNat, by omega⟩
  have e1 : decide ((u : Int) < 0) = false := by simp
  have e3 : IntKind.u64.wrap (u : Int) = (u : Int) := kw_id .u64 _ (by show (0 : Int) ≤ _; omega) (by show _ ≤ (18446744073709551615 : Int); omega)
  have hc := hid (fmtU_calls u (by omega) w hP)
  rw [Lib.itoa_nonneg] at hT
  rw [hT.out] at hc
  clear h0 h1 hT hP
  go_enter Tryz.func32, Tryz.ntmps32
  go_wp2_with fail
  refine Calls.mono hc.out ?_
  rintro e w1 ⟨rfl, hb⟩
  go_wp2
  go_ret
  exact ⟨rfl, hb⟩
end Go.Proofs.YtheeonlfbnkhgaaGreatDoor
