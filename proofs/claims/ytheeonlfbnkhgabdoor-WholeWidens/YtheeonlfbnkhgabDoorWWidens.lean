/-
  The law WholeWidens, walked (by gen_widens.py).
-/
import Derived.Test.YtheeonlfbnkhgabDoorWhlAwake
import Derived.Test.YtheeonlfbnkhgabDoorWhlIB
import Derived.Test.YtheeonlfbnkhgabDoorWhlIC
import Derived.Test.YtheeonlfbnkhgabDoorWhlID
namespace Go.Proofs.YtheeonlfbnkhgabDoor
open Go.RowKit Go.Shelf

set_option maxRecDepth 10000 in
set_option maxHeartbeats 4000000 in
theorem widens_num (s : ByteArray) (hs : s.size ≤ 281474976710656) (h : (ofS s).2 = 110) (w : World) :
    Calls Tryd.prog 3 #[.string s] w fun e w' => e = .returned (.bool true) ∧ Below w.heap.size w w' := by
  have c_int8 := hid (fun w1 => face_int8 s hs (0) 110 (who_num h _ _) w1)
  have c_int16 := hid (fun w1 => face_int16 s hs (0) 110 (who_num h _ _) w1)
  have c_int32 := hid (fun w1 => face_int32 s hs (0) 110 (who_num h _ _) w1)
  have c_int64 := hid (fun w1 => face_int64 s hs (0) 110 (who_num h _ _) w1)
  have c_uint8 := hid (fun w1 => face_uint8 s hs (0) 110 (who_num h _ _) w1)
  have c_uint16 := hid (fun w1 => face_uint16 s hs (0) 110 (who_num h _ _) w1)
  have c_uint32 := hid (fun w1 => face_uint32 s hs (0) 110 (who_num h _ _) w1)
  have c_uint64 := hid (fun w1 => face_uint64 s hs (0) 110 (who_num h _ _) w1)
  have ca := hid (fun w1 => awake12_calls w1)
  clear h hs
  go_enter Tryd.func3, Tryd.ntmps3
  go_wp2_with fail
  refine Calls.mono (c_int8.out _) ?_
  rintro e w1 ⟨rfl, hb⟩
  have b1 := hid hb
  clear c_int8 hb
  go_wp2_with fail
  refine Calls.mono (c_int16.out _) ?_
  rintro e w2 ⟨rfl, hb⟩
  have b2 := hid (b1.out.trans (hb.mono b1.out.size))
  clear b1
  clear c_int16 hb
  go_wp2_with fail
  refine Calls.mono (c_int32.out _) ?_
  rintro e w3 ⟨rfl, hb⟩
  have b3 := hid (b2.out.trans (hb.mono b2.out.size))
  clear b2
  clear c_int32 hb
  go_wp2_with fail
  refine Calls.mono (c_int64.out _) ?_
  rintro e w4 ⟨rfl, hb⟩
  have b4 := hid (b3.out.trans (hb.mono b3.out.size))
  clear b3
  clear c_int64 hb
  go_wp2_with fail
  refine Calls.mono (c_uint8.out _) ?_
  rintro e w5 ⟨rfl, hb⟩
  have b5 := hid (b4.out.trans (hb.mono b4.out.size))
  clear b4
  clear c_uint8 hb
  go_wp2_with fail
  refine Calls.mono (c_uint16.out _) ?_
  rintro e w6 ⟨rfl, hb⟩
  have b6 := hid (b5.out.trans (hb.mono b5.out.size))
  clear b5
  clear c_uint16 hb
  go_wp2_with fail
  refine Calls.mono (c_uint32.out _) ?_
  rintro e w7 ⟨rfl, hb⟩
  have b7 := hid (b6.out.trans (hb.mono b6.out.size))
  clear b6
  clear c_uint32 hb
  go_wp2_with fail
  refine Calls.mono (c_uint64.out _) ?_
  rintro e w8 ⟨rfl, hb⟩
  have b8 := hid (b7.out.trans (hb.mono b7.out.size))
  clear b7
  clear c_uint64 hb
  go_wp2_with fail
  refine Calls.mono (ca.out _) ?_
  rintro e w9 ⟨rfl, hb⟩
  have b9 := hid (b8.out.trans (hb.mono b8.out.size))
  clear b8 ca hb
  go_wp2
  go_ret
  exact ⟨by first | rfl | simp, b9.out⟩
set_option maxRecDepth 10000 in
set_option maxHeartbeats 4000000 in
theorem widens_frac (s : ByteArray) (hs : s.size ≤ 281474976710656) (h : (ofS s).2 ≠ 110) (hp : hasP s = true) (w : World) :
    Calls Tryd.prog 3 #[.string s] w fun e w' => e = .returned (.bool true) ∧ Below w.heap.size w w' := by
  have c_int8 := hid (fun w1 => face_int8 s hs (0) 120 (who_frac h hp _ _) w1)
  have c_int16 := hid (fun w1 => face_int16 s hs (0) 120 (who_frac h hp _ _) w1)
  have c_int32 := hid (fun w1 => face_int32 s hs (0) 120 (who_frac h hp _ _) w1)
  have c_int64 := hid (fun w1 => face_int64 s hs (0) 120 (who_frac h hp _ _) w1)
  have c_uint8 := hid (fun w1 => face_uint8 s hs (0) 120 (who_frac h hp _ _) w1)
  have c_uint16 := hid (fun w1 => face_uint16 s hs (0) 120 (who_frac h hp _ _) w1)
  have c_uint32 := hid (fun w1 => face_uint32 s hs (0) 120 (who_frac h hp _ _) w1)
  have c_uint64 := hid (fun w1 => face_uint64 s hs (0) 120 (who_frac h hp _ _) w1)
  have ca := hid (fun w1 => awake12_calls w1)
  clear h hp hs
  go_enter Tryd.func3, Tryd.ntmps3
  go_wp2_with fail
  refine Calls.mono (c_int8.out _) ?_
  rintro e w1 ⟨rfl, hb⟩
  have b1 := hid hb
  clear c_int8 hb
  go_wp2_with fail
  refine Calls.mono (c_int16.out _) ?_
  rintro e w2 ⟨rfl, hb⟩
  have b2 := hid (b1.out.trans (hb.mono b1.out.size))
  clear b1
  clear c_int16 hb
  go_wp2_with fail
  refine Calls.mono (c_int32.out _) ?_
  rintro e w3 ⟨rfl, hb⟩
  have b3 := hid (b2.out.trans (hb.mono b2.out.size))
  clear b2
  clear c_int32 hb
  go_wp2_with fail
  refine Calls.mono (c_int64.out _) ?_
  rintro e w4 ⟨rfl, hb⟩
  have b4 := hid (b3.out.trans (hb.mono b3.out.size))
  clear b3
  clear c_int64 hb
  go_wp2_with fail
  refine Calls.mono (c_uint8.out _) ?_
  rintro e w5 ⟨rfl, hb⟩
  have b5 := hid (b4.out.trans (hb.mono b4.out.size))
  clear b4
  clear c_uint8 hb
  go_wp2_with fail
  refine Calls.mono (c_uint16.out _) ?_
  rintro e w6 ⟨rfl, hb⟩
  have b6 := hid (b5.out.trans (hb.mono b5.out.size))
  clear b5
  clear c_uint16 hb
  go_wp2_with fail
  refine Calls.mono (c_uint32.out _) ?_
  rintro e w7 ⟨rfl, hb⟩
  have b7 := hid (b6.out.trans (hb.mono b6.out.size))
  clear b6
  clear c_uint32 hb
  go_wp2_with fail
  refine Calls.mono (c_uint64.out _) ?_
  rintro e w8 ⟨rfl, hb⟩
  have b8 := hid (b7.out.trans (hb.mono b7.out.size))
  clear b7
  clear c_uint64 hb
  go_wp2_with fail
  refine Calls.mono (ca.out _) ?_
  rintro e w9 ⟨rfl, hb⟩
  have b9 := hid (b8.out.trans (hb.mono b8.out.size))
  clear b8 ca hb
  go_wp2
  go_ret
  exact ⟨by first | rfl | simp, b9.out⟩
set_option maxRecDepth 10000 in
set_option maxHeartbeats 4000000 in
theorem widens_0 (s : ByteArray) (hs : s.size ≤ 281474976710656) (h : (ofS s).2 ≠ 110) (hp : hasP s = false) (v : Int) (hv : valS s = v) (h2 : v ≤ (-9223372036854775809 : Int)) (w : World) :
    Calls Tryd.prog 3 #[.string s] w fun e w' => e = .returned (.bool true) ∧ Below w.heap.size w w' := by
  have c_int8 := hid (fun w1 => face_int8 s hs (0) 121 (who_off h hp hv (by show ¬ ((-128 : Int) ≤ v ∧ v ≤ (127 : Int)); omega)) w1)
  have c_int16 := hid (fun w1 => face_int16 s hs (0) 121 (who_off h hp hv (by show ¬ ((-32768 : Int) ≤ v ∧ v ≤ (32767 : Int)); omega)) w1)
  have c_int32 := hid (fun w1 => face_int32 s hs (0) 121 (who_off h hp hv (by show ¬ ((-2147483648 : Int) ≤ v ∧ v ≤ (2147483647 : Int)); omega)) w1)
  have c_int64 := hid (fun w1 => face_int64 s hs (0) 121 (who_off h hp hv (by show ¬ ((-9223372036854775808 : Int) ≤ v ∧ v ≤ (9223372036854775807 : Int)); omega)) w1)
  have c_uint8 := hid (fun w1 => face_uint8 s hs (0) 121 (who_off h hp hv (by show ¬ ((0 : Int) ≤ v ∧ v ≤ (255 : Int)); omega)) w1)
  have c_uint16 := hid (fun w1 => face_uint16 s hs (0) 121 (who_off h hp hv (by show ¬ ((0 : Int) ≤ v ∧ v ≤ (65535 : Int)); omega)) w1)
  have c_uint32 := hid (fun w1 => face_uint32 s hs (0) 121 (who_off h hp hv (by show ¬ ((0 : Int) ≤ v ∧ v ≤ (4294967295 : Int)); omega)) w1)
  have c_uint64 := hid (fun w1 => face_uint64 s hs (0) 121 (who_off h hp hv (by show ¬ ((0 : Int) ≤ v ∧ v ≤ (18446744073709551615 : Int)); omega)) w1)
  have ca := hid (fun w1 => awake12_calls w1)
  clear h hp hv hs h2
  go_enter Tryd.func3, Tryd.ntmps3
  go_wp2_with fail
  refine Calls.mono (c_int8.out _) ?_
  rintro e w1 ⟨rfl, hb⟩
  have b1 := hid hb
  clear c_int8 hb
  go_wp2_with fail
  refine Calls.mono (c_int16.out _) ?_
  rintro e w2 ⟨rfl, hb⟩
  have b2 := hid (b1.out.trans (hb.mono b1.out.size))
  clear b1
  clear c_int16 hb
  go_wp2_with fail
  refine Calls.mono (c_int32.out _) ?_
  rintro e w3 ⟨rfl, hb⟩
  have b3 := hid (b2.out.trans (hb.mono b2.out.size))
  clear b2
  clear c_int32 hb
  go_wp2_with fail
  refine Calls.mono (c_int64.out _) ?_
  rintro e w4 ⟨rfl, hb⟩
  have b4 := hid (b3.out.trans (hb.mono b3.out.size))
  clear b3
  clear c_int64 hb
  go_wp2_with fail
  refine Calls.mono (c_uint8.out _) ?_
  rintro e w5 ⟨rfl, hb⟩
  have b5 := hid (b4.out.trans (hb.mono b4.out.size))
  clear b4
  clear c_uint8 hb
  go_wp2_with fail
  refine Calls.mono (c_uint16.out _) ?_
  rintro e w6 ⟨rfl, hb⟩
  have b6 := hid (b5.out.trans (hb.mono b5.out.size))
  clear b5
  clear c_uint16 hb
  go_wp2_with fail
  refine Calls.mono (c_uint32.out _) ?_
  rintro e w7 ⟨rfl, hb⟩
  have b7 := hid (b6.out.trans (hb.mono b6.out.size))
  clear b6
  clear c_uint32 hb
  go_wp2_with fail
  refine Calls.mono (c_uint64.out _) ?_
  rintro e w8 ⟨rfl, hb⟩
  have b8 := hid (b7.out.trans (hb.mono b7.out.size))
  clear b7
  clear c_uint64 hb
  go_wp2_with fail
  refine Calls.mono (ca.out _) ?_
  rintro e w9 ⟨rfl, hb⟩
  have b9 := hid (b8.out.trans (hb.mono b8.out.size))
  clear b8 ca hb
  go_wp2
  go_ret
  exact ⟨by first | rfl | simp, b9.out⟩
set_option maxRecDepth 10000 in
set_option maxHeartbeats 4000000 in
theorem widens_1 (s : ByteArray) (hs : s.size ≤ 281474976710656) (h : (ofS s).2 ≠ 110) (hp : hasP s = false) (v : Int) (hv : valS s = v) (h1 : (-9223372036854775808 : Int) ≤ v) (h2 : v ≤ (-2147483649 : Int)) (w : World) :
    Calls Tryd.prog 3 #[.string s] w fun e w' => e = .returned (.bool true) ∧ Below w.heap.size w w' := by
  have c_int8 := hid (fun w1 => face_int8 s hs (0) 121 (who_off h hp hv (by show ¬ ((-128 : Int) ≤ v ∧ v ≤ (127 : Int)); omega)) w1)
  have c_int16 := hid (fun w1 => face_int16 s hs (0) 121 (who_off h hp hv (by show ¬ ((-32768 : Int) ≤ v ∧ v ≤ (32767 : Int)); omega)) w1)
  have c_int32 := hid (fun w1 => face_int32 s hs (0) 121 (who_off h hp hv (by show ¬ ((-2147483648 : Int) ≤ v ∧ v ≤ (2147483647 : Int)); omega)) w1)
  have c_int64 := hid (fun w1 => face_int64 s hs (v) 0 (who_fit h hp hv (by show (-9223372036854775808 : Int) ≤ v; omega) (by show v ≤ (9223372036854775807 : Int); omega)) w1)
  have c_uint8 := hid (fun w1 => face_uint8 s hs (0) 121 (who_off h hp hv (by show ¬ ((0 : Int) ≤ v ∧ v ≤ (255 : Int)); omega)) w1)
  have c_uint16 := hid (fun w1 => face_uint16 s hs (0) 121 (who_off h hp hv (by show ¬ ((0 : Int) ≤ v ∧ v ≤ (65535 : Int)); omega)) w1)
  have c_uint32 := hid (fun w1 => face_uint32 s hs (0) 121 (who_off h hp hv (by show ¬ ((0 : Int) ≤ v ∧ v ≤ (4294967295 : Int)); omega)) w1)
  have c_uint64 := hid (fun w1 => face_uint64 s hs (0) 121 (who_off h hp hv (by show ¬ ((0 : Int) ≤ v ∧ v ≤ (18446744073709551615 : Int)); omega)) w1)
  have ca := hid (fun w1 => awake12_calls w1)
  have f0 : wrap64 v = v := by rw [← kW_i64]; exact kw_id .i64 v (by show (-9223372036854775808 : Int) ≤ v; omega) (by show v ≤ (9223372036854775807 : Int); omega)
  clear h hp hv hs h1 h2
  go_enter Tryd.func3, Tryd.ntmps3
  go_wp2_with fail
  refine Calls.mono (c_int8.out _) ?_
  rintro e w1 ⟨rfl, hb⟩
  have b1 := hid hb
  clear c_int8 hb
  go_wp2_with fail
  refine Calls.mono (c_int16.out _) ?_
  rintro e w2 ⟨rfl, hb⟩
  have b2 := hid (b1.out.trans (hb.mono b1.out.size))
  clear b1
  clear c_int16 hb
  go_wp2_with fail
  refine Calls.mono (c_int32.out _) ?_
  rintro e w3 ⟨rfl, hb⟩
  have b3 := hid (b2.out.trans (hb.mono b2.out.size))
  clear b2
  clear c_int32 hb
  go_wp2_with fail
  refine Calls.mono (c_int64.out _) ?_
  rintro e w4 ⟨rfl, hb⟩
  have b4 := hid (b3.out.trans (hb.mono b3.out.size))
  clear b3
  clear c_int64 hb
  go_wp2_with fail
  refine Calls.mono (c_uint8.out _) ?_
  rintro e w5 ⟨rfl, hb⟩
  have b5 := hid (b4.out.trans (hb.mono b4.out.size))
  clear b4
  clear c_uint8 hb
  go_wp2_with fail
  refine Calls.mono (c_uint16.out _) ?_
  rintro e w6 ⟨rfl, hb⟩
  have b6 := hid (b5.out.trans (hb.mono b5.out.size))
  clear b5
  clear c_uint16 hb
  go_wp2_with fail
  refine Calls.mono (c_uint32.out _) ?_
  rintro e w7 ⟨rfl, hb⟩
  have b7 := hid (b6.out.trans (hb.mono b6.out.size))
  clear b6
  clear c_uint32 hb
  go_wp2_with fail
  refine Calls.mono (c_uint64.out _) ?_
  rintro e w8 ⟨rfl, hb⟩
  have b8 := hid (b7.out.trans (hb.mono b7.out.size))
  clear b7
  clear c_uint64 hb
  go_wp2_with fail
  refine Calls.mono (ca.out _) ?_
  rintro e w9 ⟨rfl, hb⟩
  have b9 := hid (b8.out.trans (hb.mono b8.out.size))
  clear b8 ca hb
  go_wp2
  go_ret
  exact ⟨by first | rfl | simp, b9.out⟩
set_option maxRecDepth 10000 in
set_option maxHeartbeats 4000000 in
theorem widens_2 (s : ByteArray) (hs : s.size ≤ 281474976710656) (h : (ofS s).2 ≠ 110) (hp : hasP s = false) (v : Int) (hv : valS s = v) (h1 : (-2147483648 : Int) ≤ v) (h2 : v ≤ (-32769 : Int)) (w : World) :
    Calls Tryd.prog 3 #[.string s] w fun e w' => e = .returned (.bool true) ∧ Below w.heap.size w w' := by
  have c_int8 := hid (fun w1 => face_int8 s hs (0) 121 (who_off h hp hv (by show ¬ ((-128 : Int) ≤ v ∧ v ≤ (127 : Int)); omega)) w1)
  have c_int16 := hid (fun w1 => face_int16 s hs (0) 121 (who_off h hp hv (by show ¬ ((-32768 : Int) ≤ v ∧ v ≤ (32767 : Int)); omega)) w1)
  have c_int32 := hid (fun w1 => face_int32 s hs (v) 0 (who_fit h hp hv (by show (-2147483648 : Int) ≤ v; omega) (by show v ≤ (2147483647 : Int); omega)) w1)
  have c_int64 := hid (fun w1 => face_int64 s hs (v) 0 (who_fit h hp hv (by show (-9223372036854775808 : Int) ≤ v; omega) (by show v ≤ (9223372036854775807 : Int); omega)) w1)
  have c_uint8 := hid (fun w1 => face_uint8 s hs (0) 121 (who_off h hp hv (by show ¬ ((0 : Int) ≤ v ∧ v ≤ (255 : Int)); omega)) w1)
  have c_uint16 := hid (fun w1 => face_uint16 s hs (0) 121 (who_off h hp hv (by show ¬ ((0 : Int) ≤ v ∧ v ≤ (65535 : Int)); omega)) w1)
  have c_uint32 := hid (fun w1 => face_uint32 s hs (0) 121 (who_off h hp hv (by show ¬ ((0 : Int) ≤ v ∧ v ≤ (4294967295 : Int)); omega)) w1)
  have c_uint64 := hid (fun w1 => face_uint64 s hs (0) 121 (who_off h hp hv (by show ¬ ((0 : Int) ≤ v ∧ v ≤ (18446744073709551615 : Int)); omega)) w1)
  have ca := hid (fun w1 => awake12_calls w1)
  have f0 : wrap32 v = v := by rw [← kW_i32]; exact kw_id .i32 v (by show (-2147483648 : Int) ≤ v; omega) (by show v ≤ (2147483647 : Int); omega)
  have f1 : wrap64 v = v := by rw [← kW_i64]; exact kw_id .i64 v (by show (-9223372036854775808 : Int) ≤ v; omega) (by show v ≤ (9223372036854775807 : Int); omega)
  clear h hp hv hs h1 h2
  go_enter Tryd.func3, Tryd.ntmps3
  go_wp2_with fail
  refine Calls.mono (c_int8.out _) ?_
  rintro e w1 ⟨rfl, hb⟩
  have b1 := hid hb
  clear c_int8 hb
  go_wp2_with fail
  refine Calls.mono (c_int16.out _) ?_
  rintro e w2 ⟨rfl, hb⟩
  have b2 := hid (b1.out.trans (hb.mono b1.out.size))
  clear b1
  clear c_int16 hb
  go_wp2_with fail
  refine Calls.mono (c_int32.out _) ?_
  rintro e w3 ⟨rfl, hb⟩
  have b3 := hid (b2.out.trans (hb.mono b2.out.size))
  clear b2
  clear c_int32 hb
  go_wp2_with fail
  refine Calls.mono (c_int64.out _) ?_
  rintro e w4 ⟨rfl, hb⟩
  have b4 := hid (b3.out.trans (hb.mono b3.out.size))
  clear b3
  clear c_int64 hb
  go_wp2_with fail
  refine Calls.mono (c_uint8.out _) ?_
  rintro e w5 ⟨rfl, hb⟩
  have b5 := hid (b4.out.trans (hb.mono b4.out.size))
  clear b4
  clear c_uint8 hb
  go_wp2_with fail
  refine Calls.mono (c_uint16.out _) ?_
  rintro e w6 ⟨rfl, hb⟩
  have b6 := hid (b5.out.trans (hb.mono b5.out.size))
  clear b5
  clear c_uint16 hb
  go_wp2_with fail
  refine Calls.mono (c_uint32.out _) ?_
  rintro e w7 ⟨rfl, hb⟩
  have b7 := hid (b6.out.trans (hb.mono b6.out.size))
  clear b6
  clear c_uint32 hb
  go_wp2_with fail
  refine Calls.mono (c_uint64.out _) ?_
  rintro e w8 ⟨rfl, hb⟩
  have b8 := hid (b7.out.trans (hb.mono b7.out.size))
  clear b7
  clear c_uint64 hb
  go_wp2_with fail
  refine Calls.mono (ca.out _) ?_
  rintro e w9 ⟨rfl, hb⟩
  have b9 := hid (b8.out.trans (hb.mono b8.out.size))
  clear b8 ca hb
  go_wp2
  go_ret
  exact ⟨by first | rfl | simp, b9.out⟩
set_option maxRecDepth 10000 in
set_option maxHeartbeats 4000000 in
theorem widens_3 (s : ByteArray) (hs : s.size ≤ 281474976710656) (h : (ofS s).2 ≠ 110) (hp : hasP s = false) (v : Int) (hv : valS s = v) (h1 : (-32768 : Int) ≤ v) (h2 : v ≤ (-129 : Int)) (w : World) :
    Calls Tryd.prog 3 #[.string s] w fun e w' => e = .returned (.bool true) ∧ Below w.heap.size w w' := by
  have c_int8 := hid (fun w1 => face_int8 s hs (0) 121 (who_off h hp hv (by show ¬ ((-128 : Int) ≤ v ∧ v ≤ (127 : Int)); omega)) w1)
  have c_int16 := hid (fun w1 => face_int16 s hs (v) 0 (who_fit h hp hv (by show (-32768 : Int) ≤ v; omega) (by show v ≤ (32767 : Int); omega)) w1)
  have c_int32 := hid (fun w1 => face_int32 s hs (v) 0 (who_fit h hp hv (by show (-2147483648 : Int) ≤ v; omega) (by show v ≤ (2147483647 : Int); omega)) w1)
  have c_int64 := hid (fun w1 => face_int64 s hs (v) 0 (who_fit h hp hv (by show (-9223372036854775808 : Int) ≤ v; omega) (by show v ≤ (9223372036854775807 : Int); omega)) w1)
  have c_uint8 := hid (fun w1 => face_uint8 s hs (0) 121 (who_off h hp hv (by show ¬ ((0 : Int) ≤ v ∧ v ≤ (255 : Int)); omega)) w1)
  have c_uint16 := hid (fun w1 => face_uint16 s hs (0) 121 (who_off h hp hv (by show ¬ ((0 : Int) ≤ v ∧ v ≤ (65535 : Int)); omega)) w1)
  have c_uint32 := hid (fun w1 => face_uint32 s hs (0) 121 (who_off h hp hv (by show ¬ ((0 : Int) ≤ v ∧ v ≤ (4294967295 : Int)); omega)) w1)
  have c_uint64 := hid (fun w1 => face_uint64 s hs (0) 121 (who_off h hp hv (by show ¬ ((0 : Int) ≤ v ∧ v ≤ (18446744073709551615 : Int)); omega)) w1)
  have ca := hid (fun w1 => awake12_calls w1)
  have f0 : IntKind.i16.wrap v = v := kw_id .i16 v (by show (-32768 : Int) ≤ v; omega) (by show v ≤ (32767 : Int); omega)
  have f1 : wrap32 v = v := by rw [← kW_i32]; exact kw_id .i32 v (by show (-2147483648 : Int) ≤ v; omega) (by show v ≤ (2147483647 : Int); omega)
  have f2 : wrap64 v = v := by rw [← kW_i64]; exact kw_id .i64 v (by show (-9223372036854775808 : Int) ≤ v; omega) (by show v ≤ (9223372036854775807 : Int); omega)
  clear h hp hv hs h1 h2
  go_enter Tryd.func3, Tryd.ntmps3
  go_wp2_with fail
  refine Calls.mono (c_int8.out _) ?_
  rintro e w1 ⟨rfl, hb⟩
  have b1 := hid hb
  clear c_int8 hb
  go_wp2_with fail
  refine Calls.mono (c_int16.out _) ?_
  rintro e w2 ⟨rfl, hb⟩
  have b2 := hid (b1.out.trans (hb.mono b1.out.size))
  clear b1
  clear c_int16 hb
  go_wp2_with fail
  refine Calls.mono (c_int32.out _) ?_
  rintro e w3 ⟨rfl, hb⟩
  have b3 := hid (b2.out.trans (hb.mono b2.out.size))
  clear b2
  clear c_int32 hb
  go_wp2_with fail
  refine Calls.mono (c_int64.out _) ?_
  rintro e w4 ⟨rfl, hb⟩
  have b4 := hid (b3.out.trans (hb.mono b3.out.size))
  clear b3
  clear c_int64 hb
  go_wp2_with fail
  refine Calls.mono (c_uint8.out _) ?_
  rintro e w5 ⟨rfl, hb⟩
  have b5 := hid (b4.out.trans (hb.mono b4.out.size))
  clear b4
  clear c_uint8 hb
  go_wp2_with fail
  refine Calls.mono (c_uint16.out _) ?_
  rintro e w6 ⟨rfl, hb⟩
  have b6 := hid (b5.out.trans (hb.mono b5.out.size))
  clear b5
  clear c_uint16 hb
  go_wp2_with fail
  refine Calls.mono (c_uint32.out _) ?_
  rintro e w7 ⟨rfl, hb⟩
  have b7 := hid (b6.out.trans (hb.mono b6.out.size))
  clear b6
  clear c_uint32 hb
  go_wp2_with fail
  refine Calls.mono (c_uint64.out _) ?_
  rintro e w8 ⟨rfl, hb⟩
  have b8 := hid (b7.out.trans (hb.mono b7.out.size))
  clear b7
  clear c_uint64 hb
  go_wp2_with fail
  refine Calls.mono (ca.out _) ?_
  rintro e w9 ⟨rfl, hb⟩
  have b9 := hid (b8.out.trans (hb.mono b8.out.size))
  clear b8 ca hb
  go_wp2
  go_ret
  exact ⟨by first | rfl | simp, b9.out⟩
set_option maxRecDepth 10000 in
set_option maxHeartbeats 4000000 in
theorem widens_4 (s : ByteArray) (hs : s.size ≤ 281474976710656) (h : (ofS s).2 ≠ 110) (hp : hasP s = false) (v : Int) (hv : valS s = v) (h1 : (-128 : Int) ≤ v) (h2 : v ≤ (-1 : Int)) (w : World) :
    Calls Tryd.prog 3 #[.string s] w fun e w' => e = .returned (.bool true) ∧ Below w.heap.size w w' := by
  have c_int8 := hid (fun w1 => face_int8 s hs (v) 0 (who_fit h hp hv (by show (-128 : Int) ≤ v; omega) (by show v ≤ (127 : Int); omega)) w1)
  have c_int16 := hid (fun w1 => face_int16 s hs (v) 0 (who_fit h hp hv (by show (-32768 : Int) ≤ v; omega) (by show v ≤ (32767 : Int); omega)) w1)
  have c_int32 := hid (fun w1 => face_int32 s hs (v) 0 (who_fit h hp hv (by show (-2147483648 : Int) ≤ v; omega) (by show v ≤ (2147483647 : Int); omega)) w1)
  have c_int64 := hid (fun w1 => face_int64 s hs (v) 0 (who_fit h hp hv (by show (-9223372036854775808 : Int) ≤ v; omega) (by show v ≤ (9223372036854775807 : Int); omega)) w1)
  have c_uint8 := hid (fun w1 => face_uint8 s hs (0) 121 (who_off h hp hv (by show ¬ ((0 : Int) ≤ v ∧ v ≤ (255 : Int)); omega)) w1)
  have c_uint16 := hid (fun w1 => face_uint16 s hs (0) 121 (who_off h hp hv (by show ¬ ((0 : Int) ≤ v ∧ v ≤ (65535 : Int)); omega)) w1)
  have c_uint32 := hid (fun w1 => face_uint32 s hs (0) 121 (who_off h hp hv (by show ¬ ((0 : Int) ≤ v ∧ v ≤ (4294967295 : Int)); omega)) w1)
  have c_uint64 := hid (fun w1 => face_uint64 s hs (0) 121 (who_off h hp hv (by show ¬ ((0 : Int) ≤ v ∧ v ≤ (18446744073709551615 : Int)); omega)) w1)
  have ca := hid (fun w1 => awake12_calls w1)
  have f0 : IntKind.i16.wrap v = v := kw_id .i16 v (by show (-32768 : Int) ≤ v; omega) (by show v ≤ (32767 : Int); omega)
  have f1 : wrap32 v = v := by rw [← kW_i32]; exact kw_id .i32 v (by show (-2147483648 : Int) ≤ v; omega) (by show v ≤ (2147483647 : Int); omega)
  have f2 : wrap64 v = v := by rw [← kW_i64]; exact kw_id .i64 v (by show (-9223372036854775808 : Int) ≤ v; omega) (by show v ≤ (9223372036854775807 : Int); omega)
  clear h hp hv hs h1 h2
  go_enter Tryd.func3, Tryd.ntmps3
  go_wp2_with fail
  refine Calls.mono (c_int8.out _) ?_
  rintro e w1 ⟨rfl, hb⟩
  have b1 := hid hb
  clear c_int8 hb
  go_wp2_with fail
  refine Calls.mono (c_int16.out _) ?_
  rintro e w2 ⟨rfl, hb⟩
  have b2 := hid (b1.out.trans (hb.mono b1.out.size))
  clear b1
  clear c_int16 hb
  go_wp2_with fail
  refine Calls.mono (c_int32.out _) ?_
  rintro e w3 ⟨rfl, hb⟩
  have b3 := hid (b2.out.trans (hb.mono b2.out.size))
  clear b2
  clear c_int32 hb
  go_wp2_with fail
  refine Calls.mono (c_int64.out _) ?_
  rintro e w4 ⟨rfl, hb⟩
  have b4 := hid (b3.out.trans (hb.mono b3.out.size))
  clear b3
  clear c_int64 hb
  go_wp2_with fail
  refine Calls.mono (c_uint8.out _) ?_
  rintro e w5 ⟨rfl, hb⟩
  have b5 := hid (b4.out.trans (hb.mono b4.out.size))
  clear b4
  clear c_uint8 hb
  go_wp2_with fail
  refine Calls.mono (c_uint16.out _) ?_
  rintro e w6 ⟨rfl, hb⟩
  have b6 := hid (b5.out.trans (hb.mono b5.out.size))
  clear b5
  clear c_uint16 hb
  go_wp2_with fail
  refine Calls.mono (c_uint32.out _) ?_
  rintro e w7 ⟨rfl, hb⟩
  have b7 := hid (b6.out.trans (hb.mono b6.out.size))
  clear b6
  clear c_uint32 hb
  go_wp2_with fail
  refine Calls.mono (c_uint64.out _) ?_
  rintro e w8 ⟨rfl, hb⟩
  have b8 := hid (b7.out.trans (hb.mono b7.out.size))
  clear b7
  clear c_uint64 hb
  go_wp2_with fail
  refine Calls.mono (ca.out _) ?_
  rintro e w9 ⟨rfl, hb⟩
  have b9 := hid (b8.out.trans (hb.mono b8.out.size))
  clear b8 ca hb
  go_wp2
  go_ret
  exact ⟨by first | rfl | simp, b9.out⟩
set_option maxRecDepth 10000 in
set_option maxHeartbeats 4000000 in
theorem widens_5 (s : ByteArray) (hs : s.size ≤ 281474976710656) (h : (ofS s).2 ≠ 110) (hp : hasP s = false) (v : Int) (hv : valS s = v) (h1 : (0 : Int) ≤ v) (h2 : v ≤ (127 : Int)) (w : World) :
    Calls Tryd.prog 3 #[.string s] w fun e w' => e = .returned (.bool true) ∧ Below w.heap.size w w' := by
  have c_int8 := hid (fun w1 => face_int8 s hs (v) 0 (who_fit h hp hv (by show (-128 : Int) ≤ v; omega) (by show v ≤ (127 : Int); omega)) w1)
  have c_int16 := hid (fun w1 => face_int16 s hs (v) 0 (who_fit h hp hv (by show (-32768 : Int) ≤ v; omega) (by show v ≤ (32767 : Int); omega)) w1)
  have c_int32 := hid (fun w1 => face_int32 s hs (v) 0 (who_fit h hp hv (by show (-2147483648 : Int) ≤ v; omega) (by show v ≤ (2147483647 : Int); omega)) w1)
  have c_int64 := hid (fun w1 => face_int64 s hs (v) 0 (who_fit h hp hv (by show (-9223372036854775808 : Int) ≤ v; omega) (by show v ≤ (9223372036854775807 : Int); omega)) w1)
  have c_uint8 := hid (fun w1 => face_uint8 s hs (v) 0 (who_fit h hp hv (by show (0 : Int) ≤ v; omega) (by show v ≤ (255 : Int); omega)) w1)
  have c_uint16 := hid (fun w1 => face_uint16 s hs (v) 0 (who_fit h hp hv (by show (0 : Int) ≤ v; omega) (by show v ≤ (65535 : Int); omega)) w1)
  have c_uint32 := hid (fun w1 => face_uint32 s hs (v) 0 (who_fit h hp hv (by show (0 : Int) ≤ v; omega) (by show v ≤ (4294967295 : Int); omega)) w1)
  have c_uint64 := hid (fun w1 => face_uint64 s hs (v) 0 (who_fit h hp hv (by show (0 : Int) ≤ v; omega) (by show v ≤ (18446744073709551615 : Int); omega)) w1)
  have ca := hid (fun w1 => awake12_calls w1)
  have f0 : IntKind.i16.wrap v = v := kw_id .i16 v (by show (-32768 : Int) ≤ v; omega) (by show v ≤ (32767 : Int); omega)
  have f1 : wrap32 v = v := by rw [← kW_i32]; exact kw_id .i32 v (by show (-2147483648 : Int) ≤ v; omega) (by show v ≤ (2147483647 : Int); omega)
  have f2 : wrap64 v = v := by rw [← kW_i64]; exact kw_id .i64 v (by show (-9223372036854775808 : Int) ≤ v; omega) (by show v ≤ (9223372036854775807 : Int); omega)
  have f3 : IntKind.u16.wrap v = v := kw_id .u16 v (by show (0 : Int) ≤ v; omega) (by show v ≤ (65535 : Int); omega)
  have f4 : v % 4294967296 = v := by omega
  have f5 : IntKind.u64.wrap v = v := kw_id .u64 v (by show (0 : Int) ≤ v; omega) (by show v ≤ (18446744073709551615 : Int); omega)
  clear h hp hv hs h1 h2
  go_enter Tryd.func3, Tryd.ntmps3
  go_wp2_with fail
  refine Calls.mono (c_int8.out _) ?_
  rintro e w1 ⟨rfl, hb⟩
  have b1 := hid hb
  clear c_int8 hb
  go_wp2_with fail
  refine Calls.mono (c_int16.out _) ?_
  rintro e w2 ⟨rfl, hb⟩
  have b2 := hid (b1.out.trans (hb.mono b1.out.size))
  clear b1
  clear c_int16 hb
  go_wp2_with fail
  refine Calls.mono (c_int32.out _) ?_
  rintro e w3 ⟨rfl, hb⟩
  have b3 := hid (b2.out.trans (hb.mono b2.out.size))
  clear b2
  clear c_int32 hb
  go_wp2_with fail
  refine Calls.mono (c_int64.out _) ?_
  rintro e w4 ⟨rfl, hb⟩
  have b4 := hid (b3.out.trans (hb.mono b3.out.size))
  clear b3
  clear c_int64 hb
  go_wp2_with fail
  refine Calls.mono (c_uint8.out _) ?_
  rintro e w5 ⟨rfl, hb⟩
  have b5 := hid (b4.out.trans (hb.mono b4.out.size))
  clear b4
  clear c_uint8 hb
  go_wp2_with fail
  refine Calls.mono (c_uint16.out _) ?_
  rintro e w6 ⟨rfl, hb⟩
  have b6 := hid (b5.out.trans (hb.mono b5.out.size))
  clear b5
  clear c_uint16 hb
  go_wp2_with fail
  refine Calls.mono (c_uint32.out _) ?_
  rintro e w7 ⟨rfl, hb⟩
  have b7 := hid (b6.out.trans (hb.mono b6.out.size))
  clear b6
  clear c_uint32 hb
  go_wp2_with fail
  refine Calls.mono (c_uint64.out _) ?_
  rintro e w8 ⟨rfl, hb⟩
  have b8 := hid (b7.out.trans (hb.mono b7.out.size))
  clear b7
  clear c_uint64 hb
  go_wp2_with fail
  refine Calls.mono (ca.out _) ?_
  rintro e w9 ⟨rfl, hb⟩
  have b9 := hid (b8.out.trans (hb.mono b8.out.size))
  clear b8 ca hb
  go_wp2
  go_ret
  exact ⟨by first | rfl | simp, b9.out⟩
set_option maxRecDepth 10000 in
set_option maxHeartbeats 4000000 in
theorem widens_6 (s : ByteArray) (hs : s.size ≤ 281474976710656) (h : (ofS s).2 ≠ 110) (hp : hasP s = false) (v : Int) (hv : valS s = v) (h1 : (128 : Int) ≤ v) (h2 : v ≤ (255 : Int)) (w : World) :
    Calls Tryd.prog 3 #[.string s] w fun e w' => e = .returned (.bool true) ∧ Below w.heap.size w w' := by
  have c_int8 := hid (fun w1 => face_int8 s hs (0) 121 (who_off h hp hv (by show ¬ ((-128 : Int) ≤ v ∧ v ≤ (127 : Int)); omega)) w1)
  have c_int16 := hid (fun w1 => face_int16 s hs (v) 0 (who_fit h hp hv (by show (-32768 : Int) ≤ v; omega) (by show v ≤ (32767 : Int); omega)) w1)
  have c_int32 := hid (fun w1 => face_int32 s hs (v) 0 (who_fit h hp hv (by show (-2147483648 : Int) ≤ v; omega) (by show v ≤ (2147483647 : Int); omega)) w1)
  have c_int64 := hid (fun w1 => face_int64 s hs (v) 0 (who_fit h hp hv (by show (-9223372036854775808 : Int) ≤ v; omega) (by show v ≤ (9223372036854775807 : Int); omega)) w1)
  have c_uint8 := hid (fun w1 => face_uint8 s hs (v) 0 (who_fit h hp hv (by show (0 : Int) ≤ v; omega) (by show v ≤ (255 : Int); omega)) w1)
  have c_uint16 := hid (fun w1 => face_uint16 s hs (v) 0 (who_fit h hp hv (by show (0 : Int) ≤ v; omega) (by show v ≤ (65535 : Int); omega)) w1)
  have c_uint32 := hid (fun w1 => face_uint32 s hs (v) 0 (who_fit h hp hv (by show (0 : Int) ≤ v; omega) (by show v ≤ (4294967295 : Int); omega)) w1)
  have c_uint64 := hid (fun w1 => face_uint64 s hs (v) 0 (who_fit h hp hv (by show (0 : Int) ≤ v; omega) (by show v ≤ (18446744073709551615 : Int); omega)) w1)
  have ca := hid (fun w1 => awake12_calls w1)
  have f0 : IntKind.i16.wrap v = v := kw_id .i16 v (by show (-32768 : Int) ≤ v; omega) (by show v ≤ (32767 : Int); omega)
  have f1 : wrap32 v = v := by rw [← kW_i32]; exact kw_id .i32 v (by show (-2147483648 : Int) ≤ v; omega) (by show v ≤ (2147483647 : Int); omega)
  have f2 : wrap64 v = v := by rw [← kW_i64]; exact kw_id .i64 v (by show (-9223372036854775808 : Int) ≤ v; omega) (by show v ≤ (9223372036854775807 : Int); omega)
  have f3 : IntKind.u16.wrap v = v := kw_id .u16 v (by show (0 : Int) ≤ v; omega) (by show v ≤ (65535 : Int); omega)
  have f4 : v % 4294967296 = v := by omega
  have f5 : IntKind.u64.wrap v = v := kw_id .u64 v (by show (0 : Int) ≤ v; omega) (by show v ≤ (18446744073709551615 : Int); omega)
  clear h hp hv hs h1 h2
  go_enter Tryd.func3, Tryd.ntmps3
  go_wp2_with fail
  refine Calls.mono (c_int8.out _) ?_
  rintro e w1 ⟨rfl, hb⟩
  have b1 := hid hb
  clear c_int8 hb
  go_wp2_with fail
  refine Calls.mono (c_int16.out _) ?_
  rintro e w2 ⟨rfl, hb⟩
  have b2 := hid (b1.out.trans (hb.mono b1.out.size))
  clear b1
  clear c_int16 hb
  go_wp2_with fail
  refine Calls.mono (c_int32.out _) ?_
  rintro e w3 ⟨rfl, hb⟩
  have b3 := hid (b2.out.trans (hb.mono b2.out.size))
  clear b2
  clear c_int32 hb
  go_wp2_with fail
  refine Calls.mono (c_int64.out _) ?_
  rintro e w4 ⟨rfl, hb⟩
  have b4 := hid (b3.out.trans (hb.mono b3.out.size))
  clear b3
  clear c_int64 hb
  go_wp2_with fail
  refine Calls.mono (c_uint8.out _) ?_
  rintro e w5 ⟨rfl, hb⟩
  have b5 := hid (b4.out.trans (hb.mono b4.out.size))
  clear b4
  clear c_uint8 hb
  go_wp2_with fail
  refine Calls.mono (c_uint16.out _) ?_
  rintro e w6 ⟨rfl, hb⟩
  have b6 := hid (b5.out.trans (hb.mono b5.out.size))
  clear b5
  clear c_uint16 hb
  go_wp2_with fail
  refine Calls.mono (c_uint32.out _) ?_
  rintro e w7 ⟨rfl, hb⟩
  have b7 := hid (b6.out.trans (hb.mono b6.out.size))
  clear b6
  clear c_uint32 hb
  go_wp2_with fail
  refine Calls.mono (c_uint64.out _) ?_
  rintro e w8 ⟨rfl, hb⟩
  have b8 := hid (b7.out.trans (hb.mono b7.out.size))
  clear b7
  clear c_uint64 hb
  go_wp2_with fail
  refine Calls.mono (ca.out _) ?_
  rintro e w9 ⟨rfl, hb⟩
  have b9 := hid (b8.out.trans (hb.mono b8.out.size))
  clear b8 ca hb
  go_wp2
  go_ret
  exact ⟨by first | rfl | simp, b9.out⟩
set_option maxRecDepth 10000 in
set_option maxHeartbeats 4000000 in
theorem widens_7 (s : ByteArray) (hs : s.size ≤ 281474976710656) (h : (ofS s).2 ≠ 110) (hp : hasP s = false) (v : Int) (hv : valS s = v) (h1 : (256 : Int) ≤ v) (h2 : v ≤ (32767 : Int)) (w : World) :
    Calls Tryd.prog 3 #[.string s] w fun e w' => e = .returned (.bool true) ∧ Below w.heap.size w w' := by
  have c_int8 := hid (fun w1 => face_int8 s hs (0) 121 (who_off h hp hv (by show ¬ ((-128 : Int) ≤ v ∧ v ≤ (127 : Int)); omega)) w1)
  have c_int16 := hid (fun w1 => face_int16 s hs (v) 0 (who_fit h hp hv (by show (-32768 : Int) ≤ v; omega) (by show v ≤ (32767 : Int); omega)) w1)
  have c_int32 := hid (fun w1 => face_int32 s hs (v) 0 (who_fit h hp hv (by show (-2147483648 : Int) ≤ v; omega) (by show v ≤ (2147483647 : Int); omega)) w1)
  have c_int64 := hid (fun w1 => face_int64 s hs (v) 0 (who_fit h hp hv (by show (-9223372036854775808 : Int) ≤ v; omega) (by show v ≤ (9223372036854775807 : Int); omega)) w1)
  have c_uint8 := hid (fun w1 => face_uint8 s hs (0) 121 (who_off h hp hv (by show ¬ ((0 : Int) ≤ v ∧ v ≤ (255 : Int)); omega)) w1)
  have c_uint16 := hid (fun w1 => face_uint16 s hs (v) 0 (who_fit h hp hv (by show (0 : Int) ≤ v; omega) (by show v ≤ (65535 : Int); omega)) w1)
  have c_uint32 := hid (fun w1 => face_uint32 s hs (v) 0 (who_fit h hp hv (by show (0 : Int) ≤ v; omega) (by show v ≤ (4294967295 : Int); omega)) w1)
  have c_uint64 := hid (fun w1 => face_uint64 s hs (v) 0 (who_fit h hp hv (by show (0 : Int) ≤ v; omega) (by show v ≤ (18446744073709551615 : Int); omega)) w1)
  have ca := hid (fun w1 => awake12_calls w1)
  have f0 : IntKind.i16.wrap v = v := kw_id .i16 v (by show (-32768 : Int) ≤ v; omega) (by show v ≤ (32767 : Int); omega)
  have f1 : wrap32 v = v := by rw [← kW_i32]; exact kw_id .i32 v (by show (-2147483648 : Int) ≤ v; omega) (by show v ≤ (2147483647 : Int); omega)
  have f2 : wrap64 v = v := by rw [← kW_i64]; exact kw_id .i64 v (by show (-9223372036854775808 : Int) ≤ v; omega) (by show v ≤ (9223372036854775807 : Int); omega)
  have f3 : IntKind.u16.wrap v = v := kw_id .u16 v (by show (0 : Int) ≤ v; omega) (by show v ≤ (65535 : Int); omega)
  have f4 : v % 4294967296 = v := by omega
  have f5 : IntKind.u64.wrap v = v := kw_id .u64 v (by show (0 : Int) ≤ v; omega) (by show v ≤ (18446744073709551615 : Int); omega)
  clear h hp hv hs h1 h2
  go_enter Tryd.func3, Tryd.ntmps3
  go_wp2_with fail
  refine Calls.mono (c_int8.out _) ?_
  rintro e w1 ⟨rfl, hb⟩
  have b1 := hid hb
  clear c_int8 hb
  go_wp2_with fail
  refine Calls.mono (c_int16.out _) ?_
  rintro e w2 ⟨rfl, hb⟩
  have b2 := hid (b1.out.trans (hb.mono b1.out.size))
  clear b1
  clear c_int16 hb
  go_wp2_with fail
  refine Calls.mono (c_int32.out _) ?_
  rintro e w3 ⟨rfl, hb⟩
  have b3 := hid (b2.out.trans (hb.mono b2.out.size))
  clear b2
  clear c_int32 hb
  go_wp2_with fail
  refine Calls.mono (c_int64.out _) ?_
  rintro e w4 ⟨rfl, hb⟩
  have b4 := hid (b3.out.trans (hb.mono b3.out.size))
  clear b3
  clear c_int64 hb
  go_wp2_with fail
  refine Calls.mono (c_uint8.out _) ?_
  rintro e w5 ⟨rfl, hb⟩
  have b5 := hid (b4.out.trans (hb.mono b4.out.size))
  clear b4
  clear c_uint8 hb
  go_wp2_with fail
  refine Calls.mono (c_uint16.out _) ?_
  rintro e w6 ⟨rfl, hb⟩
  have b6 := hid (b5.out.trans (hb.mono b5.out.size))
  clear b5
  clear c_uint16 hb
  go_wp2_with fail
  refine Calls.mono (c_uint32.out _) ?_
  rintro e w7 ⟨rfl, hb⟩
  have b7 := hid (b6.out.trans (hb.mono b6.out.size))
  clear b6
  clear c_uint32 hb
  go_wp2_with fail
  refine Calls.mono (c_uint64.out _) ?_
  rintro e w8 ⟨rfl, hb⟩
  have b8 := hid (b7.out.trans (hb.mono b7.out.size))
  clear b7
  clear c_uint64 hb
  go_wp2_with fail
  refine Calls.mono (ca.out _) ?_
  rintro e w9 ⟨rfl, hb⟩
  have b9 := hid (b8.out.trans (hb.mono b8.out.size))
  clear b8 ca hb
  go_wp2
  go_ret
  exact ⟨by first | rfl | simp, b9.out⟩
set_option maxRecDepth 10000 in
set_option maxHeartbeats 4000000 in
theorem widens_8 (s : ByteArray) (hs : s.size ≤ 281474976710656) (h : (ofS s).2 ≠ 110) (hp : hasP s = false) (v : Int) (hv : valS s = v) (h1 : (32768 : Int) ≤ v) (h2 : v ≤ (65535 : Int)) (w : World) :
    Calls Tryd.prog 3 #[.string s] w fun e w' => e = .returned (.bool true) ∧ Below w.heap.size w w' := by
  have c_int8 := hid (fun w1 => face_int8 s hs (0) 121 (who_off h hp hv (by show ¬ ((-128 : Int) ≤ v ∧ v ≤ (127 : Int)); omega)) w1)
  have c_int16 := hid (fun w1 => face_int16 s hs (0) 121 (who_off h hp hv (by show ¬ ((-32768 : Int) ≤ v ∧ v ≤ (32767 : Int)); omega)) w1)
  have c_int32 := hid (fun w1 => face_int32 s hs (v) 0 (who_fit h hp hv (by show (-2147483648 : Int) ≤ v; omega) (by show v ≤ (2147483647 : Int); omega)) w1)
  have c_int64 := hid (fun w1 => face_int64 s hs (v) 0 (who_fit h hp hv (by show (-9223372036854775808 : Int) ≤ v; omega) (by show v ≤ (9223372036854775807 : Int); omega)) w1)
  have c_uint8 := hid (fun w1 => face_uint8 s hs (0) 121 (who_off h hp hv (by show ¬ ((0 : Int) ≤ v ∧ v ≤ (255 : Int)); omega)) w1)
  have c_uint16 := hid (fun w1 => face_uint16 s hs (v) 0 (who_fit h hp hv (by show (0 : Int) ≤ v; omega) (by show v ≤ (65535 : Int); omega)) w1)
  have c_uint32 := hid (fun w1 => face_uint32 s hs (v) 0 (who_fit h hp hv (by show (0 : Int) ≤ v; omega) (by show v ≤ (4294967295 : Int); omega)) w1)
  have c_uint64 := hid (fun w1 => face_uint64 s hs (v) 0 (who_fit h hp hv (by show (0 : Int) ≤ v; omega) (by show v ≤ (18446744073709551615 : Int); omega)) w1)
  have ca := hid (fun w1 => awake12_calls w1)
  have f0 : wrap32 v = v := by rw [← kW_i32]; exact kw_id .i32 v (by show (-2147483648 : Int) ≤ v; omega) (by show v ≤ (2147483647 : Int); omega)
  have f1 : wrap64 v = v := by rw [← kW_i64]; exact kw_id .i64 v (by show (-9223372036854775808 : Int) ≤ v; omega) (by show v ≤ (9223372036854775807 : Int); omega)
  have f2 : IntKind.u16.wrap v = v := kw_id .u16 v (by show (0 : Int) ≤ v; omega) (by show v ≤ (65535 : Int); omega)
  have f3 : v % 4294967296 = v := by omega
  have f4 : IntKind.u64.wrap v = v := kw_id .u64 v (by show (0 : Int) ≤ v; omega) (by show v ≤ (18446744073709551615 : Int); omega)
  clear h hp hv hs h1 h2
  go_enter Tryd.func3, Tryd.ntmps3
  go_wp2_with fail
  refine Calls.mono (c_int8.out _) ?_
  rintro e w1 ⟨rfl, hb⟩
  have b1 := hid hb
  clear c_int8 hb
  go_wp2_with fail
  refine Calls.mono (c_int16.out _) ?_
  rintro e w2 ⟨rfl, hb⟩
  have b2 := hid (b1.out.trans (hb.mono b1.out.size))
  clear b1
  clear c_int16 hb
  go_wp2_with fail
  refine Calls.mono (c_int32.out _) ?_
  rintro e w3 ⟨rfl, hb⟩
  have b3 := hid (b2.out.trans (hb.mono b2.out.size))
  clear b2
  clear c_int32 hb
  go_wp2_with fail
  refine Calls.mono (c_int64.out _) ?_
  rintro e w4 ⟨rfl, hb⟩
  have b4 := hid (b3.out.trans (hb.mono b3.out.size))
  clear b3
  clear c_int64 hb
  go_wp2_with fail
  refine Calls.mono (c_uint8.out _) ?_
  rintro e w5 ⟨rfl, hb⟩
  have b5 := hid (b4.out.trans (hb.mono b4.out.size))
  clear b4
  clear c_uint8 hb
  go_wp2_with fail
  refine Calls.mono (c_uint16.out _) ?_
  rintro e w6 ⟨rfl, hb⟩
  have b6 := hid (b5.out.trans (hb.mono b5.out.size))
  clear b5
  clear c_uint16 hb
  go_wp2_with fail
  refine Calls.mono (c_uint32.out _) ?_
  rintro e w7 ⟨rfl, hb⟩
  have b7 := hid (b6.out.trans (hb.mono b6.out.size))
  clear b6
  clear c_uint32 hb
  go_wp2_with fail
  refine Calls.mono (c_uint64.out _) ?_
  rintro e w8 ⟨rfl, hb⟩
  have b8 := hid (b7.out.trans (hb.mono b7.out.size))
  clear b7
  clear c_uint64 hb
  go_wp2_with fail
  refine Calls.mono (ca.out _) ?_
  rintro e w9 ⟨rfl, hb⟩
  have b9 := hid (b8.out.trans (hb.mono b8.out.size))
  clear b8 ca hb
  go_wp2
  go_ret
  exact ⟨by first | rfl | simp, b9.out⟩
set_option maxRecDepth 10000 in
set_option maxHeartbeats 4000000 in
theorem widens_9 (s : ByteArray) (hs : s.size ≤ 281474976710656) (h : (ofS s).2 ≠ 110) (hp : hasP s = false) (v : Int) (hv : valS s = v) (h1 : (65536 : Int) ≤ v) (h2 : v ≤ (2147483647 : Int)) (w : World) :
    Calls Tryd.prog 3 #[.string s] w fun e w' => e = .returned (.bool true) ∧ Below w.heap.size w w' := by
  have c_int8 := hid (fun w1 => face_int8 s hs (0) 121 (who_off h hp hv (by show ¬ ((-128 : Int) ≤ v ∧ v ≤ (127 : Int)); omega)) w1)
  have c_int16 := hid (fun w1 => face_int16 s hs (0) 121 (who_off h hp hv (by show ¬ ((-32768 : Int) ≤ v ∧ v ≤ (32767 : Int)); omega)) w1)
  have c_int32 := hid (fun w1 => face_int32 s hs (v) 0 (who_fit h hp hv (by show (-2147483648 : Int) ≤ v; omega) (by show v ≤ (2147483647 : Int); omega)) w1)
  have c_int64 := hid (fun w1 => face_int64 s hs (v) 0 (who_fit h hp hv (by show (-9223372036854775808 : Int) ≤ v; omega) (by show v ≤ (9223372036854775807 : Int); omega)) w1)
  have c_uint8 := hid (fun w1 => face_uint8 s hs (0) 121 (who_off h hp hv (by show ¬ ((0 : Int) ≤ v ∧ v ≤ (255 : Int)); omega)) w1)
  have c_uint16 := hid (fun w1 => face_uint16 s hs (0) 121 (who_off h hp hv (by show ¬ ((0 : Int) ≤ v ∧ v ≤ (65535 : Int)); omega)) w1)
  have c_uint32 := hid (fun w1 => face_uint32 s hs (v) 0 (who_fit h hp hv (by show (0 : Int) ≤ v; omega) (by show v ≤ (4294967295 : Int); omega)) w1)
  have c_uint64 := hid (fun w1 => face_uint64 s hs (v) 0 (who_fit h hp hv (by show (0 : Int) ≤ v; omega) (by show v ≤ (18446744073709551615 : Int); omega)) w1)
  have ca := hid (fun w1 => awake12_calls w1)
  have f0 : wrap32 v = v := by rw [← kW_i32]; exact kw_id .i32 v (by show (-2147483648 : Int) ≤ v; omega) (by show v ≤ (2147483647 : Int); omega)
  have f1 : wrap64 v = v := by rw [← kW_i64]; exact kw_id .i64 v (by show (-9223372036854775808 : Int) ≤ v; omega) (by show v ≤ (9223372036854775807 : Int); omega)
  have f2 : v % 4294967296 = v := by omega
  have f3 : IntKind.u64.wrap v = v := kw_id .u64 v (by show (0 : Int) ≤ v; omega) (by show v ≤ (18446744073709551615 : Int); omega)
  clear h hp hv hs h1 h2
  go_enter Tryd.func3, Tryd.ntmps3
  go_wp2_with fail
  refine Calls.mono (c_int8.out _) ?_
  rintro e w1 ⟨rfl, hb⟩
  have b1 := hid hb
  clear c_int8 hb
  go_wp2_with fail
  refine Calls.mono (c_int16.out _) ?_
  rintro e w2 ⟨rfl, hb⟩
  have b2 := hid (b1.out.trans (hb.mono b1.out.size))
  clear b1
  clear c_int16 hb
  go_wp2_with fail
  refine Calls.mono (c_int32.out _) ?_
  rintro e w3 ⟨rfl, hb⟩
  have b3 := hid (b2.out.trans (hb.mono b2.out.size))
  clear b2
  clear c_int32 hb
  go_wp2_with fail
  refine Calls.mono (c_int64.out _) ?_
  rintro e w4 ⟨rfl, hb⟩
  have b4 := hid (b3.out.trans (hb.mono b3.out.size))
  clear b3
  clear c_int64 hb
  go_wp2_with fail
  refine Calls.mono (c_uint8.out _) ?_
  rintro e w5 ⟨rfl, hb⟩
  have b5 := hid (b4.out.trans (hb.mono b4.out.size))
  clear b4
  clear c_uint8 hb
  go_wp2_with fail
  refine Calls.mono (c_uint16.out _) ?_
  rintro e w6 ⟨rfl, hb⟩
  have b6 := hid (b5.out.trans (hb.mono b5.out.size))
  clear b5
  clear c_uint16 hb
  go_wp2_with fail
  refine Calls.mono (c_uint32.out _) ?_
  rintro e w7 ⟨rfl, hb⟩
  have b7 := hid (b6.out.trans (hb.mono b6.out.size))
  clear b6
  clear c_uint32 hb
  go_wp2_with fail
  refine Calls.mono (c_uint64.out _) ?_
  rintro e w8 ⟨rfl, hb⟩
  have b8 := hid (b7.out.trans (hb.mono b7.out.size))
  clear b7
  clear c_uint64 hb
  go_wp2_with fail
  refine Calls.mono (ca.out _) ?_
  rintro e w9 ⟨rfl, hb⟩
  have b9 := hid (b8.out.trans (hb.mono b8.out.size))
  clear b8 ca hb
  go_wp2
  go_ret
  exact ⟨by first | rfl | simp, b9.out⟩
set_option maxRecDepth 10000 in
set_option maxHeartbeats 4000000 in
theorem widens_10 (s : ByteArray) (hs : s.size ≤ 281474976710656) (h : (ofS s).2 ≠ 110) (hp : hasP s = false) (v : Int) (hv : valS s = v) (h1 : (2147483648 : Int) ≤ v) (h2 : v ≤ (4294967295 : Int)) (w : World) :
    Calls Tryd.prog 3 #[.string s] w fun e w' => e = .returned (.bool true) ∧ Below w.heap.size w w' := by
  have c_int8 := hid (fun w1 => face_int8 s hs (0) 121 (who_off h hp hv (by show ¬ ((-128 : Int) ≤ v ∧ v ≤ (127 : Int)); omega)) w1)
  have c_int16 := hid (fun w1 => face_int16 s hs (0) 121 (who_off h hp hv (by show ¬ ((-32768 : Int) ≤ v ∧ v ≤ (32767 : Int)); omega)) w1)
  have c_int32 := hid (fun w1 => face_int32 s hs (0) 121 (who_off h hp hv (by show ¬ ((-2147483648 : Int) ≤ v ∧ v ≤ (2147483647 : Int)); omega)) w1)
  have c_int64 := hid (fun w1 => face_int64 s hs (v) 0 (who_fit h hp hv (by show (-9223372036854775808 : Int) ≤ v; omega) (by show v ≤ (9223372036854775807 : Int); omega)) w1)
  have c_uint8 := hid (fun w1 => face_uint8 s hs (0) 121 (who_off h hp hv (by show ¬ ((0 : Int) ≤ v ∧ v ≤ (255 : Int)); omega)) w1)
  have c_uint16 := hid (fun w1 => face_uint16 s hs (0) 121 (who_off h hp hv (by show ¬ ((0 : Int) ≤ v ∧ v ≤ (65535 : Int)); omega)) w1)
  have c_uint32 := hid (fun w1 => face_uint32 s hs (v) 0 (who_fit h hp hv (by show (0 : Int) ≤ v; omega) (by show v ≤ (4294967295 : Int); omega)) w1)
  have c_uint64 := hid (fun w1 => face_uint64 s hs (v) 0 (who_fit h hp hv (by show (0 : Int) ≤ v; omega) (by show v ≤ (18446744073709551615 : Int); omega)) w1)
  have ca := hid (fun w1 => awake12_calls w1)
  have f0 : wrap64 v = v := by rw [← kW_i64]; exact kw_id .i64 v (by show (-9223372036854775808 : Int) ≤ v; omega) (by show v ≤ (9223372036854775807 : Int); omega)
  have f1 : v % 4294967296 = v := by omega
  have f2 : IntKind.u64.wrap v = v := kw_id .u64 v (by show (0 : Int) ≤ v; omega) (by show v ≤ (18446744073709551615 : Int); omega)
  clear h hp hv hs h1 h2
  go_enter Tryd.func3, Tryd.ntmps3
  go_wp2_with fail
  refine Calls.mono (c_int8.out _) ?_
  rintro e w1 ⟨rfl, hb⟩
  have b1 := hid hb
  clear c_int8 hb
  go_wp2_with fail
  refine Calls.mono (c_int16.out _) ?_
  rintro e w2 ⟨rfl, hb⟩
  have b2 := hid (b1.out.trans (hb.mono b1.out.size))
  clear b1
  clear c_int16 hb
  go_wp2_with fail
  refine Calls.mono (c_int32.out _) ?_
  rintro e w3 ⟨rfl, hb⟩
  have b3 := hid (b2.out.trans (hb.mono b2.out.size))
  clear b2
  clear c_int32 hb
  go_wp2_with fail
  refine Calls.mono (c_int64.out _) ?_
  rintro e w4 ⟨rfl, hb⟩
  have b4 := hid (b3.out.trans (hb.mono b3.out.size))
  clear b3
  clear c_int64 hb
  go_wp2_with fail
  refine Calls.mono (c_uint8.out _) ?_
  rintro e w5 ⟨rfl, hb⟩
  have b5 := hid (b4.out.trans (hb.mono b4.out.size))
  clear b4
  clear c_uint8 hb
  go_wp2_with fail
  refine Calls.mono (c_uint16.out _) ?_
  rintro e w6 ⟨rfl, hb⟩
  have b6 := hid (b5.out.trans (hb.mono b5.out.size))
  clear b5
  clear c_uint16 hb
  go_wp2_with fail
  refine Calls.mono (c_uint32.out _) ?_
  rintro e w7 ⟨rfl, hb⟩
  have b7 := hid (b6.out.trans (hb.mono b6.out.size))
  clear b6
  clear c_uint32 hb
  go_wp2_with fail
  refine Calls.mono (c_uint64.out _) ?_
  rintro e w8 ⟨rfl, hb⟩
  have b8 := hid (b7.out.trans (hb.mono b7.out.size))
  clear b7
  clear c_uint64 hb
  go_wp2_with fail
  refine Calls.mono (ca.out _) ?_
  rintro e w9 ⟨rfl, hb⟩
  have b9 := hid (b8.out.trans (hb.mono b8.out.size))
  clear b8 ca hb
  go_wp2
  go_ret
  exact ⟨by first | rfl | simp, b9.out⟩
set_option maxRecDepth 10000 in
set_option maxHeartbeats 4000000 in
theorem widens_11 (s : ByteArray) (hs : s.size ≤ 281474976710656) (h : (ofS s).2 ≠ 110) (hp : hasP s = false) (v : Int) (hv : valS s = v) (h1 : (4294967296 : Int) ≤ v) (h2 : v ≤ (9223372036854775807 : Int)) (w : World) :
    Calls Tryd.prog 3 #[.string s] w fun e w' => e = .returned (.bool true) ∧ Below w.heap.size w w' := by
  have c_int8 := hid (fun w1 => face_int8 s hs (0) 121 (who_off h hp hv (by show ¬ ((-128 : Int) ≤ v ∧ v ≤ (127 : Int)); omega)) w1)
  have c_int16 := hid (fun w1 => face_int16 s hs (0) 121 (who_off h hp hv (by show ¬ ((-32768 : Int) ≤ v ∧ v ≤ (32767 : Int)); omega)) w1)
  have c_int32 := hid (fun w1 => face_int32 s hs (0) 121 (who_off h hp hv (by show ¬ ((-2147483648 : Int) ≤ v ∧ v ≤ (2147483647 : Int)); omega)) w1)
  have c_int64 := hid (fun w1 => face_int64 s hs (v) 0 (who_fit h hp hv (by show (-9223372036854775808 : Int) ≤ v; omega) (by show v ≤ (9223372036854775807 : Int); omega)) w1)
  have c_uint8 := hid (fun w1 => face_uint8 s hs (0) 121 (who_off h hp hv (by show ¬ ((0 : Int) ≤ v ∧ v ≤ (255 : Int)); omega)) w1)
  have c_uint16 := hid (fun w1 => face_uint16 s hs (0) 121 (who_off h hp hv (by show ¬ ((0 : Int) ≤ v ∧ v ≤ (65535 : Int)); omega)) w1)
  have c_uint32 := hid (fun w1 => face_uint32 s hs (0) 121 (who_off h hp hv (by show ¬ ((0 : Int) ≤ v ∧ v ≤ (4294967295 : Int)); omega)) w1)
  have c_uint64 := hid (fun w1 => face_uint64 s hs (v) 0 (who_fit h hp hv (by show (0 : Int) ≤ v; omega) (by show v ≤ (18446744073709551615 : Int); omega)) w1)
  have ca := hid (fun w1 => awake12_calls w1)
  have f0 : wrap64 v = v := by rw [← kW_i64]; exact kw_id .i64 v (by show (-9223372036854775808 : Int) ≤ v; omega) (by show v ≤ (9223372036854775807 : Int); omega)
  have f1 : IntKind.u64.wrap v = v := kw_id .u64 v (by show (0 : Int) ≤ v; omega) (by show v ≤ (18446744073709551615 : Int); omega)
  clear h hp hv hs h1 h2
  go_enter Tryd.func3, Tryd.ntmps3
  go_wp2_with fail
  refine Calls.mono (c_int8.out _) ?_
  rintro e w1 ⟨rfl, hb⟩
  have b1 := hid hb
  clear c_int8 hb
  go_wp2_with fail
  refine Calls.mono (c_int16.out _) ?_
  rintro e w2 ⟨rfl, hb⟩
  have b2 := hid (b1.out.trans (hb.mono b1.out.size))
  clear b1
  clear c_int16 hb
  go_wp2_with fail
  refine Calls.mono (c_int32.out _) ?_
  rintro e w3 ⟨rfl, hb⟩
  have b3 := hid (b2.out.trans (hb.mono b2.out.size))
  clear b2
  clear c_int32 hb
  go_wp2_with fail
  refine Calls.mono (c_int64.out _) ?_
  rintro e w4 ⟨rfl, hb⟩
  have b4 := hid (b3.out.trans (hb.mono b3.out.size))
  clear b3
  clear c_int64 hb
  go_wp2_with fail
  refine Calls.mono (c_uint8.out _) ?_
  rintro e w5 ⟨rfl, hb⟩
  have b5 := hid (b4.out.trans (hb.mono b4.out.size))
  clear b4
  clear c_uint8 hb
  go_wp2_with fail
  refine Calls.mono (c_uint16.out _) ?_
  rintro e w6 ⟨rfl, hb⟩
  have b6 := hid (b5.out.trans (hb.mono b5.out.size))
  clear b5
  clear c_uint16 hb
  go_wp2_with fail
  refine Calls.mono (c_uint32.out _) ?_
  rintro e w7 ⟨rfl, hb⟩
  have b7 := hid (b6.out.trans (hb.mono b6.out.size))
  clear b6
  clear c_uint32 hb
  go_wp2_with fail
  refine Calls.mono (c_uint64.out _) ?_
  rintro e w8 ⟨rfl, hb⟩
  have b8 := hid (b7.out.trans (hb.mono b7.out.size))
  clear b7
  clear c_uint64 hb
  go_wp2_with fail
  refine Calls.mono (ca.out _) ?_
  rintro e w9 ⟨rfl, hb⟩
  have b9 := hid (b8.out.trans (hb.mono b8.out.size))
  clear b8 ca hb
  go_wp2
  go_ret
  exact ⟨by first | rfl | simp, b9.out⟩
set_option maxRecDepth 10000 in
set_option maxHeartbeats 4000000 in
theorem widens_12 (s : ByteArray) (hs : s.size ≤ 281474976710656) (h : (ofS s).2 ≠ 110) (hp : hasP s = false) (v : Int) (hv : valS s = v) (h1 : (9223372036854775808 : Int) ≤ v) (h2 : v ≤ (18446744073709551615 : Int)) (w : World) :
    Calls Tryd.prog 3 #[.string s] w fun e w' => e = .returned (.bool true) ∧ Below w.heap.size w w' := by
  have c_int8 := hid (fun w1 => face_int8 s hs (0) 121 (who_off h hp hv (by show ¬ ((-128 : Int) ≤ v ∧ v ≤ (127 : Int)); omega)) w1)
  have c_int16 := hid (fun w1 => face_int16 s hs (0) 121 (who_off h hp hv (by show ¬ ((-32768 : Int) ≤ v ∧ v ≤ (32767 : Int)); omega)) w1)
  have c_int32 := hid (fun w1 => face_int32 s hs (0) 121 (who_off h hp hv (by show ¬ ((-2147483648 : Int) ≤ v ∧ v ≤ (2147483647 : Int)); omega)) w1)
  have c_int64 := hid (fun w1 => face_int64 s hs (0) 121 (who_off h hp hv (by show ¬ ((-9223372036854775808 : Int) ≤ v ∧ v ≤ (9223372036854775807 : Int)); omega)) w1)
  have c_uint8 := hid (fun w1 => face_uint8 s hs (0) 121 (who_off h hp hv (by show ¬ ((0 : Int) ≤ v ∧ v ≤ (255 : Int)); omega)) w1)
  have c_uint16 := hid (fun w1 => face_uint16 s hs (0) 121 (who_off h hp hv (by show ¬ ((0 : Int) ≤ v ∧ v ≤ (65535 : Int)); omega)) w1)
  have c_uint32 := hid (fun w1 => face_uint32 s hs (0) 121 (who_off h hp hv (by show ¬ ((0 : Int) ≤ v ∧ v ≤ (4294967295 : Int)); omega)) w1)
  have c_uint64 := hid (fun w1 => face_uint64 s hs (v) 0 (who_fit h hp hv (by show (0 : Int) ≤ v; omega) (by show v ≤ (18446744073709551615 : Int); omega)) w1)
  have ca := hid (fun w1 => awake12_calls w1)
  have f0 : IntKind.u64.wrap v = v := kw_id .u64 v (by show (0 : Int) ≤ v; omega) (by show v ≤ (18446744073709551615 : Int); omega)
  clear h hp hv hs h1 h2
  go_enter Tryd.func3, Tryd.ntmps3
  go_wp2_with fail
  refine Calls.mono (c_int8.out _) ?_
  rintro e w1 ⟨rfl, hb⟩
  have b1 := hid hb
  clear c_int8 hb
  go_wp2_with fail
  refine Calls.mono (c_int16.out _) ?_
  rintro e w2 ⟨rfl, hb⟩
  have b2 := hid (b1.out.trans (hb.mono b1.out.size))
  clear b1
  clear c_int16 hb
  go_wp2_with fail
  refine Calls.mono (c_int32.out _) ?_
  rintro e w3 ⟨rfl, hb⟩
  have b3 := hid (b2.out.trans (hb.mono b2.out.size))
  clear b2
  clear c_int32 hb
  go_wp2_with fail
  refine Calls.mono (c_int64.out _) ?_
  rintro e w4 ⟨rfl, hb⟩
  have b4 := hid (b3.out.trans (hb.mono b3.out.size))
  clear b3
  clear c_int64 hb
  go_wp2_with fail
  refine Calls.mono (c_uint8.out _) ?_
  rintro e w5 ⟨rfl, hb⟩
  have b5 := hid (b4.out.trans (hb.mono b4.out.size))
  clear b4
  clear c_uint8 hb
  go_wp2_with fail
  refine Calls.mono (c_uint16.out _) ?_
  rintro e w6 ⟨rfl, hb⟩
  have b6 := hid (b5.out.trans (hb.mono b5.out.size))
  clear b5
  clear c_uint16 hb
  go_wp2_with fail
  refine Calls.mono (c_uint32.out _) ?_
  rintro e w7 ⟨rfl, hb⟩
  have b7 := hid (b6.out.trans (hb.mono b6.out.size))
  clear b6
  clear c_uint32 hb
  go_wp2_with fail
  refine Calls.mono (c_uint64.out _) ?_
  rintro e w8 ⟨rfl, hb⟩
  have b8 := hid (b7.out.trans (hb.mono b7.out.size))
  clear b7
  clear c_uint64 hb
  go_wp2_with fail
  refine Calls.mono (ca.out _) ?_
  rintro e w9 ⟨rfl, hb⟩
  have b9 := hid (b8.out.trans (hb.mono b8.out.size))
  clear b8 ca hb
  go_wp2
  go_ret
  exact ⟨by first | rfl | simp, b9.out⟩
set_option maxRecDepth 10000 in
set_option maxHeartbeats 4000000 in
theorem widens_13 (s : ByteArray) (hs : s.size ≤ 281474976710656) (h : (ofS s).2 ≠ 110) (hp : hasP s = false) (v : Int) (hv : valS s = v) (h1 : (18446744073709551616 : Int) ≤ v) (w : World) :
    Calls Tryd.prog 3 #[.string s] w fun e w' => e = .returned (.bool true) ∧ Below w.heap.size w w' := by
  have c_int8 := hid (fun w1 => face_int8 s hs (0) 121 (who_off h hp hv (by show ¬ ((-128 : Int) ≤ v ∧ v ≤ (127 : Int)); omega)) w1)
  have c_int16 := hid (fun w1 => face_int16 s hs (0) 121 (who_off h hp hv (by show ¬ ((-32768 : Int) ≤ v ∧ v ≤ (32767 : Int)); omega)) w1)
  have c_int32 := hid (fun w1 => face_int32 s hs (0) 121 (who_off h hp hv (by show ¬ ((-2147483648 : Int) ≤ v ∧ v ≤ (2147483647 : Int)); omega)) w1)
  have c_int64 := hid (fun w1 => face_int64 s hs (0) 121 (who_off h hp hv (by show ¬ ((-9223372036854775808 : Int) ≤ v ∧ v ≤ (9223372036854775807 : Int)); omega)) w1)
  have c_uint8 := hid (fun w1 => face_uint8 s hs (0) 121 (who_off h hp hv (by show ¬ ((0 : Int) ≤ v ∧ v ≤ (255 : Int)); omega)) w1)
  have c_uint16 := hid (fun w1 => face_uint16 s hs (0) 121 (who_off h hp hv (by show ¬ ((0 : Int) ≤ v ∧ v ≤ (65535 : Int)); omega)) w1)
  have c_uint32 := hid (fun w1 => face_uint32 s hs (0) 121 (who_off h hp hv (by show ¬ ((0 : Int) ≤ v ∧ v ≤ (4294967295 : Int)); omega)) w1)
  have c_uint64 := hid (fun w1 => face_uint64 s hs (0) 121 (who_off h hp hv (by show ¬ ((0 : Int) ≤ v ∧ v ≤ (18446744073709551615 : Int)); omega)) w1)
  have ca := hid (fun w1 => awake12_calls w1)
  clear h hp hv hs h1
  go_enter Tryd.func3, Tryd.ntmps3
  go_wp2_with fail
  refine Calls.mono (c_int8.out _) ?_
  rintro e w1 ⟨rfl, hb⟩
  have b1 := hid hb
  clear c_int8 hb
  go_wp2_with fail
  refine Calls.mono (c_int16.out _) ?_
  rintro e w2 ⟨rfl, hb⟩
  have b2 := hid (b1.out.trans (hb.mono b1.out.size))
  clear b1
  clear c_int16 hb
  go_wp2_with fail
  refine Calls.mono (c_int32.out _) ?_
  rintro e w3 ⟨rfl, hb⟩
  have b3 := hid (b2.out.trans (hb.mono b2.out.size))
  clear b2
  clear c_int32 hb
  go_wp2_with fail
  refine Calls.mono (c_int64.out _) ?_
  rintro e w4 ⟨rfl, hb⟩
  have b4 := hid (b3.out.trans (hb.mono b3.out.size))
  clear b3
  clear c_int64 hb
  go_wp2_with fail
  refine Calls.mono (c_uint8.out _) ?_
  rintro e w5 ⟨rfl, hb⟩
  have b5 := hid (b4.out.trans (hb.mono b4.out.size))
  clear b4
  clear c_uint8 hb
  go_wp2_with fail
  refine Calls.mono (c_uint16.out _) ?_
  rintro e w6 ⟨rfl, hb⟩
  have b6 := hid (b5.out.trans (hb.mono b5.out.size))
  clear b5
  clear c_uint16 hb
  go_wp2_with fail
  refine Calls.mono (c_uint32.out _) ?_
  rintro e w7 ⟨rfl, hb⟩
  have b7 := hid (b6.out.trans (hb.mono b6.out.size))
  clear b6
  clear c_uint32 hb
  go_wp2_with fail
  refine Calls.mono (c_uint64.out _) ?_
  rintro e w8 ⟨rfl, hb⟩
  have b8 := hid (b7.out.trans (hb.mono b7.out.size))
  clear b7
  clear c_uint64 hb
  go_wp2_with fail
  refine Calls.mono (ca.out _) ?_
  rintro e w9 ⟨rfl, hb⟩
  have b9 := hid (b8.out.trans (hb.mono b8.out.size))
  clear b8 ca hb
  go_wp2
  go_ret
  exact ⟨by first | rfl | simp, b9.out⟩
theorem wholeWidens_walk (s : ByteArray) (hz : s.size ≤ reachBytes) (w : World) : Calls Tryd.prog 3 #[.string s] w fun e w' => e = .returned (.bool true) ∧ Below w.heap.size w w' := by
  have hs : s.size ≤ 281474976710656 := by have := reachBytes_lt; omega
  by_cases h : (ofS s).2 = 110
  · exact widens_num s hs h w
  · cases hp : hasP s with
    | true => exact widens_frac s hs h hp w
    | false =>
      obtain ⟨v, hv⟩ : ∃ v, valS s = v := ⟨_, rfl⟩
      by_cases g0 : v ≤ (-9223372036854775809 : Int)
      · exact widens_0 s hs h hp v hv g0 w
      by_cases g1 : v ≤ (-2147483649 : Int)
      · exact widens_1 s hs h hp v hv (by omega) g1 w
      by_cases g2 : v ≤ (-32769 : Int)
      · exact widens_2 s hs h hp v hv (by omega) g2 w
      by_cases g3 : v ≤ (-129 : Int)
      · exact widens_3 s hs h hp v hv (by omega) g3 w
      by_cases g4 : v ≤ (-1 : Int)
      · exact widens_4 s hs h hp v hv (by omega) g4 w
      by_cases g5 : v ≤ (127 : Int)
      · exact widens_5 s hs h hp v hv (by omega) g5 w
      by_cases g6 : v ≤ (255 : Int)
      · exact widens_6 s hs h hp v hv (by omega) g6 w
      by_cases g7 : v ≤ (32767 : Int)
      · exact widens_7 s hs h hp v hv (by omega) g7 w
      by_cases g8 : v ≤ (65535 : Int)
      · exact widens_8 s hs h hp v hv (by omega) g8 w
      by_cases g9 : v ≤ (2147483647 : Int)
      · exact widens_9 s hs h hp v hv (by omega) g9 w
      by_cases g10 : v ≤ (4294967295 : Int)
      · exact widens_10 s hs h hp v hv (by omega) g10 w
      by_cases g11 : v ≤ (9223372036854775807 : Int)
      · exact widens_11 s hs h hp v hv (by omega) g11 w
      by_cases g12 : v ≤ (18446744073709551615 : Int)
      · exact widens_12 s hs h hp v hv (by omega) g12 w
      exact widens_13 s hs h hp v hv (by omega) w
end Go.Proofs.YtheeonlfbnkhgabDoor
