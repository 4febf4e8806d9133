/-
  The law WholeOnce, walked (by gen_wonce.py).
-/
import Derived.Test.YtheeonlfbnkhgaaDoorWhlOn
import Derived.Test.YtheeonlfbnkhgaaDoorWhlTx
import Derived.Test.YtheeonlfbnkhgaaDoorWhlIB
import Derived.Test.YtheeonlfbnkhgaaDoorWhlID
namespace Go.Proofs.YtheeonlfbnkhgaaDoor
open Go.RowKit Go.Shelf

theorem dig48 : AllD ⟨#[48]⟩ := fun i hi => by
  have hi2 : i < 1 := hi
  obtain rfl : i = 0 := by omega
  rfl
theorem ds_size {s : ByteArray} (hz : s.size ≤ 281474976710656) : (⟨(ofS s).1.ds.toArray⟩ : ByteArray).size ≤ 4611686018427387904 := by
  rw [Lib.size_mk]
  by_cases h : (readS s 0).2.1 = s.size
  · rw [ofS_same s h]
    show (readS s 0).1.ds.length ≤ _
    unfold readS
    split
    · exact Nat.zero_le _
    · rename_i n hn
      have hsc : scanS s 0 = (some n, (scanS s 0).2) := by rw [← hn]
      have hnum := (num_of hsc (Nat.zero_le _)).1
      split
      · exact Nat.zero_le _
      · rename_i d hd
        unfold worthS at hd
        split at hd
        · cases hd; exact Nat.zero_le _
        · split at hd
          · cases hd
            show (digS n).length ≤ _
            have h1 := trimR_length (allS n) 48
            have h2 := trimL_length (n.wh.data.toList ++ n.be.data.toList) 48
            rw [List.length_append, size_list, size_list] at h2
            have h3 : (digS n).length ≤ (allS n).length := h1
            have h4 : (allS n).length ≤ n.wh.size + n.be.size := h2
            omega
          · cases hd
  · rw [ofS_zero s h]; exact Nat.zero_le _
set_option maxRecDepth 10000 in
set_option maxHeartbeats 8000000 in
theorem once_num (s : ByteArray) (hs : s.size ≤ 281474976710656) (h : (ofS s).2 = 110) (w : World) (hP : PowW w) :
    Calls Tryd.prog 5 #[.string s] w fun e w' => e = .returned (.bool true) ∧ Below w.heap.size w w' := by
  obtain ⟨r, hr⟩ : ∃ r, ofS s = r := ⟨_, rfl⟩
  obtain ⟨⟨dn, dd, dx⟩, er⟩ := r
  have c_o := hid (fun w1 => of_calls s hs w1)
  have hov := hid (show ofV s = .tuple #[.agg #[.bool dn, .string ⟨dd.toArray⟩, .int .i64 dx], .int .i64 (er : Int)] by rw [ofV, hr]; rfl)
  rw [hov.out] at c_o
  generalize (⟨dd.toArray⟩ : ByteArray) = TD at c_o
  obtain rfl : er = 110 := by rw [hr] at h; exact h
  have c_i := hid (fun w1 => face_int64 s hs (0) 110 (who_num h _ _) w1)
  have c_u := hid (fun w1 => face_uint64 s hs (0) 110 (who_num h _ _) w1)
  have ca := hid (fun w1 => awake12_calls w1)
  have hP0 := hid hP
  have b0 := hid (Below.refl w.heap.size w)
  clear h hs hov hr hP
  go_enter Tryd.func5, Tryd.ntmps5
  go_wp2_with fail
  refine Calls.mono (c_i.out _) ?_
  rintro e w1 ⟨rfl, hb'⟩
  have hP1 := hid (hP0.out.kept hb')
  have b1 := hid (b0.out.trans (hb'.mono b0.out.size))
  clear b0 hP0 hb' c_i
  go_wp2_with fail
  refine Calls.mono (c_u.out _) ?_
  rintro e w2 ⟨rfl, hb'⟩
  have hP2 := hid (hP1.out.kept hb')
  have b2 := hid (b1.out.trans (hb'.mono b1.out.size))
  clear b1 hP1 hb' c_u
  go_wp2_with fail
  refine Calls.mono (c_o.out _) ?_
  rintro e w3 ⟨rfl, hb'⟩
  have hP3 := hid (hP2.out.kept hb')
  have b3 := hid (b2.out.trans (hb'.mono b2.out.size))
  clear b2 hP2 hb'
  have A := hid (At.new w3 #[.bool dn, .string TD, .int .i64 dx] 23)
  have b4 := hid (show Below w.heap.size w (w3.alloc (.cells #[.bool dn, .string TD, .int .i64 dx] 23)) from b3.out.alloc b3.out.size _)
  have hP4 := hid (hP3.out.kept (w' := w3.alloc (.cells #[.bool dn, .string TD, .int .i64 dx] 23)) ((Below.refl _ _).alloc (Nat.le_refl _) _))
  clear b3 hP3
  go_upto_region 4 with fail
  generalize w3.heap.size = kA at A ⊢
  generalize w3.alloc (.cells #[.bool dn, .string TD, .int .i64 dx] 23) = w4 at A b4 hP4  ⊢
  go_wp2_with fail
  refine Calls.mono (ca.out _) ?_
  rintro e w5 ⟨rfl, hb'⟩
  have hP5 := hid (hP4.out.kept hb')
  have b5 := hid (b4.out.trans (hb'.mono b4.out.size))
  replace A := hid (A.out.keptAll hb')
  clear b4 hP4 hb' ca
  go_wp2_with fail
  go_ret
  exact ⟨by first | rfl | simp, b5.out⟩
set_option maxRecDepth 10000 in
set_option maxHeartbeats 8000000 in
theorem once_frac (s : ByteArray) (hs : s.size ≤ 281474976710656) (h : (ofS s).2 ≠ 110) (hp : hasP s = true) (w : World) (hP : PowW w) :
    Calls Tryd.prog 5 #[.string s] w fun e w' => e = .returned (.bool true) ∧ Below w.heap.size w w' := by
  obtain ⟨r, hr⟩ : ∃ r, ofS s = r := ⟨_, rfl⟩
  obtain ⟨⟨dn, dd, dx⟩, er⟩ := r
  have c_o := hid (fun w1 => of_calls s hs w1)
  have hov := hid (show ofV s = .tuple #[.agg #[.bool dn, .string ⟨dd.toArray⟩, .int .i64 dx], .int .i64 (er : Int)] by rw [ofV, hr]; rfl)
  rw [hov.out] at c_o
  generalize (⟨dd.toArray⟩ : ByteArray) = TD at c_o
  have hne : er ≠ 110 := by rw [hr] at h; exact h
  have q1 : ((er : Int) == 110) = false := by simp; omega
  have c_i := hid (fun w1 => face_int64 s hs (0) 120 (who_frac h hp _ _) w1)
  have c_u := hid (fun w1 => face_uint64 s hs (0) 120 (who_frac h hp _ _) w1)
  have ca := hid (fun w1 => awake12_calls w1)
  have hP0 := hid hP
  have b0 := hid (Below.refl w.heap.size w)
  clear h hs hov hr hP hp hne
  go_enter Tryd.func5, Tryd.ntmps5
  go_wp2_with fail
  refine Calls.mono (c_i.out _) ?_
  rintro e w1 ⟨rfl, hb'⟩
  have hP1 := hid (hP0.out.kept hb')
  have b1 := hid (b0.out.trans (hb'.mono b0.out.size))
  clear b0 hP0 hb' c_i
  go_wp2_with fail
  refine Calls.mono (c_u.out _) ?_
  rintro e w2 ⟨rfl, hb'⟩
  have hP2 := hid (hP1.out.kept hb')
  have b2 := hid (b1.out.trans (hb'.mono b1.out.size))
  clear b1 hP1 hb' c_u
  go_wp2_with fail
  refine Calls.mono (c_o.out _) ?_
  rintro e w3 ⟨rfl, hb'⟩
  have hP3 := hid (hP2.out.kept hb')
  have b3 := hid (b2.out.trans (hb'.mono b2.out.size))
  clear b2 hP2 hb'
  have A := hid (At.new w3 #[.bool dn, .string TD, .int .i64 dx] 23)
  have b4 := hid (show Below w.heap.size w (w3.alloc (.cells #[.bool dn, .string TD, .int .i64 dx] 23)) from b3.out.alloc b3.out.size _)
  have hP4 := hid (hP3.out.kept (w' := w3.alloc (.cells #[.bool dn, .string TD, .int .i64 dx] 23)) ((Below.refl _ _).alloc (Nat.le_refl _) _))
  clear b3 hP3
  go_upto_region 4 with fail
  generalize w3.heap.size = kA at A ⊢
  generalize w3.alloc (.cells #[.bool dn, .string TD, .int .i64 dx] 23) = w4 at A b4 hP4  ⊢
  go_wp2_with fail
  refine Calls.mono (ca.out _) ?_
  rintro e w5 ⟨rfl, hb'⟩
  have hP5 := hid (hP4.out.kept hb')
  have b5 := hid (b4.out.trans (hb'.mono b4.out.size))
  replace A := hid (A.out.keptAll hb')
  clear b4 hP4 hb' ca
  go_wp2_with fail
  go_ret
  exact ⟨by first | rfl | simp, b5.out⟩
set_option maxRecDepth 10000 in
set_option maxHeartbeats 8000000 in
theorem once_off (s : ByteArray) (hs : s.size ≤ 281474976710656) (h : (ofS s).2 ≠ 110) (hp : hasP s = false) (v : Int) (hv : valS s = v) (h1 : v < (-9223372036854775808 : Int) ∨ (18446744073709551615 : Int) < v) (w : World) (hP : PowW w) :
    Calls Tryd.prog 5 #[.string s] w fun e w' => e = .returned (.bool true) ∧ Below w.heap.size w w' := by
  obtain ⟨r, hr⟩ : ∃ r, ofS s = r := ⟨_, rfl⟩
  obtain ⟨⟨dn, dd, dx⟩, er⟩ := r
  have c_o := hid (fun w1 => of_calls s hs w1)
  have hov := hid (show ofV s = .tuple #[.agg #[.bool dn, .string ⟨dd.toArray⟩, .int .i64 dx], .int .i64 (er : Int)] by rw [ofV, hr]; rfl)
  rw [hov.out] at c_o
  generalize (⟨dd.toArray⟩ : ByteArray) = TD at c_o
  have hne : er ≠ 110 := by rw [hr] at h; exact h
  have q1 : ((er : Int) == 110) = false := by simp; omega
  have c_i := hid (fun w1 => face_int64 s hs (0) 121 (who_off h hp hv (by show ¬ ((-9223372036854775808 : Int) ≤ v ∧ v ≤ (9223372036854775807 : Int)); omega)) w1)
  have c_u := hid (fun w1 => face_uint64 s hs (0) 121 (who_off h hp hv (by show ¬ ((0 : Int) ≤ v ∧ v ≤ (18446744073709551615 : Int)); omega)) w1)
  have ca := hid (fun w1 => awake12_calls w1)
  have hP0 := hid hP
  have b0 := hid (Below.refl w.heap.size w)
  clear h hs hov hr hP hp hne hv h1
  go_enter Tryd.func5, Tryd.ntmps5
  go_wp2_with fail
  refine Calls.mono (c_i.out _) ?_
  rintro e w1 ⟨rfl, hb'⟩
  have hP1 := hid (hP0.out.kept hb')
  have b1 := hid (b0.out.trans (hb'.mono b0.out.size))
  clear b0 hP0 hb' c_i
  go_wp2_with fail
  refine Calls.mono (c_u.out _) ?_
  rintro e w2 ⟨rfl, hb'⟩
  have hP2 := hid (hP1.out.kept hb')
  have b2 := hid (b1.out.trans (hb'.mono b1.out.size))
  clear b1 hP1 hb' c_u
  go_wp2_with fail
  refine Calls.mono (c_o.out _) ?_
  rintro e w3 ⟨rfl, hb'⟩
  have hP3 := hid (hP2.out.kept hb')
  have b3 := hid (b2.out.trans (hb'.mono b2.out.size))
  clear b2 hP2 hb'
  have A := hid (At.new w3 #[.bool dn, .string TD, .int .i64 dx] 23)
  have b4 := hid (show Below w.heap.size w (w3.alloc (.cells #[.bool dn, .string TD, .int .i64 dx] 23)) from b3.out.alloc b3.out.size _)
  have hP4 := hid (hP3.out.kept (w' := w3.alloc (.cells #[.bool dn, .string TD, .int .i64 dx] 23)) ((Below.refl _ _).alloc (Nat.le_refl _) _))
  clear b3 hP3
  go_upto_region 4 with fail
  generalize w3.heap.size = kA at A ⊢
  generalize w3.alloc (.cells #[.bool dn, .string TD, .int .i64 dx] 23) = w4 at A b4 hP4  ⊢
  go_wp2_with fail
  refine Calls.mono (ca.out _) ?_
  rintro e w5 ⟨rfl, hb'⟩
  have hP5 := hid (hP4.out.kept hb')
  have b5 := hid (b4.out.trans (hb'.mono b4.out.size))
  replace A := hid (A.out.keptAll hb')
  clear b4 hP4 hb' ca
  go_wp2_with fail
  go_ret
  exact ⟨by first | rfl | simp, b5.out⟩
set_option maxRecDepth 10000 in
set_option maxHeartbeats 8000000 in
theorem once_neg (s : ByteArray) (hs : s.size ≤ 281474976710656) (h : (ofS s).2 ≠ 110) (hp : hasP s = false) (v : Int) (hv : valS s = v) (h1 : (-9223372036854775808 : Int) ≤ v) (h2 : v ≤ (-1 : Int)) (hno : s ≠ ⟨#[45, 48]⟩) (w : World) (hP : PowW w) :
    Calls Tryd.prog 5 #[.string s] w fun e w' => e = .returned (.bool true) ∧ Below w.heap.size w w' := by
  obtain ⟨B, D, hPl⟩ : ∃ B D, PlainN s B D := ⟨_, _, plain_of h hp⟩
  have hT : Hid ((⟨(Lib.itoa v).toArray⟩ : ByteArray) = s) := by show _ = _; rw [← hv]; exact (plain_text hPl (fun e => by rcases Nat.eq_zero_or_pos (pwN D.data.toList) with h3 | h3; (exact absurd (plain_nought (by rw [← e]; exact hPl) h3) hno); exact h3)).symm
  have hDs : D.size ≤ 1000 := by
      have h3 := canon hPl.dig hPl.lead hPl.pos
      have h4 : pwN D.data.toList < 18446744073709551616 := by have h5 := hPl.val_eq; rw [hv] at h5; cases B <;> simp at h5 <;> omega
      have h6 := dec_len _ h4
      rw [← h3, size_list] at h6
      omega
  obtain ⟨e0, e1, e2⟩ := of_small hPl hDs
  have hdz := ds_size hs
  obtain ⟨r, hr⟩ : ∃ r, ofS s = r := ⟨_, rfl⟩
  obtain ⟨⟨dn, dd, dx⟩, er⟩ := r
  have c_o := hid (fun w1 => of_calls s hs w1)
  have hov := hid (show ofV s = .tuple #[.agg #[.bool dn, .string ⟨dd.toArray⟩, .int .i64 dx], .int .i64 (er : Int)] by rw [ofV, hr]; rfl)
  rw [hov.out] at c_o
  rw [hr] at e0 e1 e2 hdz
  dsimp only at e0 e1 e2 hdz
  obtain rfl : er = 0 := e0
  have c_w := hid (fun w1 => wholeD_calls dn ⟨dd.toArray⟩ dx hdz e1 e2 w1)
  generalize (⟨dd.toArray⟩ : ByteArray) = TD at c_o c_w
  have c_m := hid c_o.out
  have he := eqDec dn TD dx
  have q2 : (s.toList == [45, 48]) = false := beq_eq_false_iff_ne.2 fun e => hno (ba_list (by rw [← Lib.toList_data, e]))
  have c_i := hid (fun w1 => face_int64 s hs (v) 0 (who_fit h hp hv (by show (-9223372036854775808 : Int) ≤ v; omega) (by show v ≤ (9223372036854775807 : Int); omega)) w1)
  have c_u := hid (fun w1 => face_uint64 s hs (0) 121 (who_off h hp hv (by show ¬ ((0 : Int) ≤ v ∧ v ≤ (18446744073709551615 : Int)); omega)) w1)
  have ca := hid (fun w1 => awake12_calls w1)
  have hP0 := hid hP
  have b0 := hid (Below.refl w.heap.size w)
  have c_t := hid (fun w1 h1 => text_int64 (v) (by omega) (by omega) s (by first | exact hT | (show _ = _; rfl)) w1 h1)
  clear h hs hov hr hP hp hv h1 h2 hT hPl hDs e1 e2 hdz hno
  go_enter Tryd.func5, Tryd.ntmps5
  go_wp2_with fail
  refine Calls.mono (c_i.out _) ?_
  rintro e w1 ⟨rfl, hb'⟩
  have hP1 := hid (hP0.out.kept hb')
  have b1 := hid (b0.out.trans (hb'.mono b0.out.size))
  clear b0 hP0 hb' c_i
  go_wp2_with fail
  refine Calls.mono (c_u.out _) ?_
  rintro e w2 ⟨rfl, hb'⟩
  have hP2 := hid (hP1.out.kept hb')
  have b2 := hid (b1.out.trans (hb'.mono b1.out.size))
  clear b1 hP1 hb' c_u
  go_wp2_with fail
  refine Calls.mono (c_o.out _) ?_
  rintro e w3 ⟨rfl, hb'⟩
  have hP3 := hid (hP2.out.kept hb')
  have b3 := hid (b2.out.trans (hb'.mono b2.out.size))
  clear b2 hP2 hb'
  have A := hid (At.new w3 #[.bool dn, .string TD, .int .i64 dx] 23)
  have b4 := hid (show Below w.heap.size w (w3.alloc (.cells #[.bool dn, .string TD, .int .i64 dx] 23)) from b3.out.alloc b3.out.size _)
  have hP4 := hid (hP3.out.kept (w' := w3.alloc (.cells #[.bool dn, .string TD, .int .i64 dx] 23)) ((Below.refl _ _).alloc (Nat.le_refl _) _))
  clear b3 hP3
  go_upto_region 4 with fail
  generalize w3.heap.size = kA at A ⊢
  generalize w3.alloc (.cells #[.bool dn, .string TD, .int .i64 dx] 23) = w4 at A b4 hP4  ⊢
  go_wp2_with fail
  refine Calls.mono (c_t.out _ hP4.out) ?_
  rintro e w5 ⟨rfl, hb'⟩
  have hP5 := hid (hP4.out.kept hb')
  have b5 := hid (b4.out.trans (hb'.mono b4.out.size))
  replace A := hid (A.out.keptAll hb')
  clear b4 hP4 hb'
  go_wp2_with fail
  refine Calls.mono (c_m.out _) ?_
  rintro e w6 ⟨rfl, hb'⟩
  have hP6 := hid (hP5.out.kept hb')
  have b6 := hid (b5.out.trans (hb'.mono b5.out.size))
  replace A := hid (A.out.keptAll hb')
  clear b5 hP5 hb'
  have M := hid (At.new w6 #[.bool dn, .string TD, .int .i64 dx] 23)
  replace A := hid (A.out.alloc (.cells #[.bool dn, .string TD, .int .i64 dx] 23))
  have b7 := hid (show Below w.heap.size w (w6.alloc (.cells #[.bool dn, .string TD, .int .i64 dx] 23)) from b6.out.alloc b6.out.size _)
  have hP7 := hid (hP6.out.kept (w' := w6.alloc (.cells #[.bool dn, .string TD, .int .i64 dx] 23)) ((Below.refl _ _).alloc (Nat.le_refl _) _))
  clear b6 hP6
  go_upto_region 6 with fail
  generalize w6.heap.size = kM at M ⊢
  generalize w6.alloc (.cells #[.bool dn, .string TD, .int .i64 dx] 23) = w7 at M b7 hP7 A ⊢
  obtain ⟨A0, A1, A2⟩ : w7.cell? ⟨kA, 0, none⟩ = some (.bool dn) ∧ w7.cell? ⟨kA, 1, none⟩ = some (.string TD) ∧ w7.cell? ⟨kA, 2, none⟩ = some (.int .i64 dx) := ⟨A.out.cell 0, A.out.cell 1, A.out.cell 2⟩
  obtain ⟨M0, M1, M2⟩ : w7.cell? ⟨kM, 0, none⟩ = some (.bool dn) ∧ w7.cell? ⟨kM, 1, none⟩ = some (.string TD) ∧ w7.cell? ⟨kM, 2, none⟩ = some (.int .i64 dx) := ⟨M.out.cell 0, M.out.cell 1, M.out.cell 2⟩
  go_wp2_with fail
  clear A0 A1 A2
  clear M0 M1 M2
  refine Calls.mono (c_t.out _ hP7.out) ?_
  rintro e w8 ⟨rfl, hb'⟩
  have hP8 := hid (hP7.out.kept hb')
  have b8 := hid (b7.out.trans (hb'.mono b7.out.size))
  replace A := hid (A.out.keptAll hb')
  replace M := hid (M.out.keptAll hb')
  clear b7 hP7 hb'
  obtain ⟨A0, A1, A2⟩ : w8.cell? ⟨kA, 0, none⟩ = some (.bool dn) ∧ w8.cell? ⟨kA, 1, none⟩ = some (.string TD) ∧ w8.cell? ⟨kA, 2, none⟩ = some (.int .i64 dx) := ⟨A.out.cell 0, A.out.cell 1, A.out.cell 2⟩
  obtain ⟨M0, M1, M2⟩ : w8.cell? ⟨kM, 0, none⟩ = some (.bool dn) ∧ w8.cell? ⟨kM, 1, none⟩ = some (.string TD) ∧ w8.cell? ⟨kM, 2, none⟩ = some (.int .i64 dx) := ⟨M.out.cell 0, M.out.cell 1, M.out.cell 2⟩
  go_wp2_with fail
  clear A0 A1 A2
  clear M0 M1 M2
  refine Calls.mono (c_w.out _) ?_
  rintro e w9 ⟨rfl, hb'⟩
  have hP9 := hid (hP8.out.kept hb')
  have b9 := hid (b8.out.trans (hb'.mono b8.out.size))
  replace A := hid (A.out.keptAll hb')
  replace M := hid (M.out.keptAll hb')
  clear b8 hP8 hb'
  obtain ⟨A0, A1, A2⟩ : w9.cell? ⟨kA, 0, none⟩ = some (.bool dn) ∧ w9.cell? ⟨kA, 1, none⟩ = some (.string TD) ∧ w9.cell? ⟨kA, 2, none⟩ = some (.int .i64 dx) := ⟨A.out.cell 0, A.out.cell 1, A.out.cell 2⟩
  obtain ⟨M0, M1, M2⟩ : w9.cell? ⟨kM, 0, none⟩ = some (.bool dn) ∧ w9.cell? ⟨kM, 1, none⟩ = some (.string TD) ∧ w9.cell? ⟨kM, 2, none⟩ = some (.int .i64 dx) := ⟨M.out.cell 0, M.out.cell 1, M.out.cell 2⟩
  go_wp2_with fail
  clear A0 A1 A2
  clear M0 M1 M2
  refine Calls.mono (ca.out _) ?_
  rintro e w10 ⟨rfl, hb'⟩
  have hP10 := hid (hP9.out.kept hb')
  have b10 := hid (b9.out.trans (hb'.mono b9.out.size))
  replace A := hid (A.out.keptAll hb')
  replace M := hid (M.out.keptAll hb')
  clear b9 hP9 hb' ca
  go_wp2_with fail
  go_ret
  exact ⟨by first | rfl | simp, b10.out⟩
set_option maxRecDepth 10000 in
set_option maxHeartbeats 8000000 in
theorem once_both (s : ByteArray) (hs : s.size ≤ 281474976710656) (h : (ofS s).2 ≠ 110) (hp : hasP s = false) (v : Int) (hv : valS s = v) (h1 : (0 : Int) ≤ v) (h2 : v ≤ (9223372036854775807 : Int)) (hno : s ≠ ⟨#[45, 48]⟩) (w : World) (hP : PowW w) :
    Calls Tryd.prog 5 #[.string s] w fun e w' => e = .returned (.bool true) ∧ Below w.heap.size w w' := by
  obtain ⟨B, D, hPl⟩ : ∃ B D, PlainN s B D := ⟨_, _, plain_of h hp⟩
  have hT : Hid ((⟨(Lib.itoa v).toArray⟩ : ByteArray) = s) := by show _ = _; rw [← hv]; exact (plain_text hPl (fun e => by rcases Nat.eq_zero_or_pos (pwN D.data.toList) with h3 | h3; (exact absurd (plain_nought (by rw [← e]; exact hPl) h3) hno); exact h3)).symm
  have hDs : D.size ≤ 1000 := by
      have h3 := canon hPl.dig hPl.lead hPl.pos
      have h4 : pwN D.data.toList < 18446744073709551616 := by have h5 := hPl.val_eq; rw [hv] at h5; cases B <;> simp at h5 <;> omega
      have h6 := dec_len _ h4
      rw [← h3, size_list] at h6
      omega
  obtain ⟨e0, e1, e2⟩ := of_small hPl hDs
  have hdz := ds_size hs
  obtain ⟨r, hr⟩ : ∃ r, ofS s = r := ⟨_, rfl⟩
  obtain ⟨⟨dn, dd, dx⟩, er⟩ := r
  have c_o := hid (fun w1 => of_calls s hs w1)
  have hov := hid (show ofV s = .tuple #[.agg #[.bool dn, .string ⟨dd.toArray⟩, .int .i64 dx], .int .i64 (er : Int)] by rw [ofV, hr]; rfl)
  rw [hov.out] at c_o
  rw [hr] at e0 e1 e2 hdz
  dsimp only at e0 e1 e2 hdz
  obtain rfl : er = 0 := e0
  have c_w := hid (fun w1 => wholeD_calls dn ⟨dd.toArray⟩ dx hdz e1 e2 w1)
  generalize (⟨dd.toArray⟩ : ByteArray) = TD at c_o c_w
  have c_m := hid c_o.out
  have he := eqDec dn TD dx
  have q2 : (s.toList == [45, 48]) = false := beq_eq_false_iff_ne.2 fun e => hno (ba_list (by rw [← Lib.toList_data, e]))
  have c_i := hid (fun w1 => face_int64 s hs (v) 0 (who_fit h hp hv (by show (-9223372036854775808 : Int) ≤ v; omega) (by show v ≤ (9223372036854775807 : Int); omega)) w1)
  have c_u := hid (fun w1 => face_uint64 s hs (v) 0 (who_fit h hp hv (by show (0 : Int) ≤ v; omega) (by show v ≤ (18446744073709551615 : Int); omega)) w1)
  have ca := hid (fun w1 => awake12_calls w1)
  have hP0 := hid hP
  have b0 := hid (Below.refl w.heap.size w)
  have c_t := hid (fun w1 h1 => text_int64 (v) (by omega) (by omega) s (by first | exact hT | (show _ = _; rfl)) w1 h1)
  have c_v := hid (fun w1 h1 => text_uint64 (v) (by omega) (by omega) s (by first | exact hT | (show _ = _; rfl)) w1 h1)
  clear h hs hov hr hP hp hv h1 h2 hT hPl hDs e1 e2 hdz hno
  go_enter Tryd.func5, Tryd.ntmps5
  go_wp2_with fail
  refine Calls.mono (c_i.out _) ?_
  rintro e w1 ⟨rfl, hb'⟩
  have hP1 := hid (hP0.out.kept hb')
  have b1 := hid (b0.out.trans (hb'.mono b0.out.size))
  clear b0 hP0 hb' c_i
  go_wp2_with fail
  refine Calls.mono (c_u.out _) ?_
  rintro e w2 ⟨rfl, hb'⟩
  have hP2 := hid (hP1.out.kept hb')
  have b2 := hid (b1.out.trans (hb'.mono b1.out.size))
  clear b1 hP1 hb' c_u
  go_wp2_with fail
  refine Calls.mono (c_o.out _) ?_
  rintro e w3 ⟨rfl, hb'⟩
  have hP3 := hid (hP2.out.kept hb')
  have b3 := hid (b2.out.trans (hb'.mono b2.out.size))
  clear b2 hP2 hb'
  have A := hid (At.new w3 #[.bool dn, .string TD, .int .i64 dx] 23)
  have b4 := hid (show Below w.heap.size w (w3.alloc (.cells #[.bool dn, .string TD, .int .i64 dx] 23)) from b3.out.alloc b3.out.size _)
  have hP4 := hid (hP3.out.kept (w' := w3.alloc (.cells #[.bool dn, .string TD, .int .i64 dx] 23)) ((Below.refl _ _).alloc (Nat.le_refl _) _))
  clear b3 hP3
  go_upto_region 4 with fail
  generalize w3.heap.size = kA at A ⊢
  generalize w3.alloc (.cells #[.bool dn, .string TD, .int .i64 dx] 23) = w4 at A b4 hP4  ⊢
  go_wp2_with fail
  refine Calls.mono (c_t.out _ hP4.out) ?_
  rintro e w5 ⟨rfl, hb'⟩
  have hP5 := hid (hP4.out.kept hb')
  have b5 := hid (b4.out.trans (hb'.mono b4.out.size))
  replace A := hid (A.out.keptAll hb')
  clear b4 hP4 hb'
  go_wp2_with fail
  refine Calls.mono (c_m.out _) ?_
  rintro e w6 ⟨rfl, hb'⟩
  have hP6 := hid (hP5.out.kept hb')
  have b6 := hid (b5.out.trans (hb'.mono b5.out.size))
  replace A := hid (A.out.keptAll hb')
  clear b5 hP5 hb'
  have M := hid (At.new w6 #[.bool dn, .string TD, .int .i64 dx] 23)
  replace A := hid (A.out.alloc (.cells #[.bool dn, .string TD, .int .i64 dx] 23))
  have b7 := hid (show Below w.heap.size w (w6.alloc (.cells #[.bool dn, .string TD, .int .i64 dx] 23)) from b6.out.alloc b6.out.size _)
  have hP7 := hid (hP6.out.kept (w' := w6.alloc (.cells #[.bool dn, .string TD, .int .i64 dx] 23)) ((Below.refl _ _).alloc (Nat.le_refl _) _))
  clear b6 hP6
  go_upto_region 6 with fail
  generalize w6.heap.size = kM at M ⊢
  generalize w6.alloc (.cells #[.bool dn, .string TD, .int .i64 dx] 23) = w7 at M b7 hP7 A ⊢
  obtain ⟨A0, A1, A2⟩ : w7.cell? ⟨kA, 0, none⟩ = some (.bool dn) ∧ w7.cell? ⟨kA, 1, none⟩ = some (.string TD) ∧ w7.cell? ⟨kA, 2, none⟩ = some (.int .i64 dx) := ⟨A.out.cell 0, A.out.cell 1, A.out.cell 2⟩
  obtain ⟨M0, M1, M2⟩ : w7.cell? ⟨kM, 0, none⟩ = some (.bool dn) ∧ w7.cell? ⟨kM, 1, none⟩ = some (.string TD) ∧ w7.cell? ⟨kM, 2, none⟩ = some (.int .i64 dx) := ⟨M.out.cell 0, M.out.cell 1, M.out.cell 2⟩
  go_wp2_with fail
  clear A0 A1 A2
  clear M0 M1 M2
  refine Calls.mono (c_t.out _ hP7.out) ?_
  rintro e w8 ⟨rfl, hb'⟩
  have hP8 := hid (hP7.out.kept hb')
  have b8 := hid (b7.out.trans (hb'.mono b7.out.size))
  replace A := hid (A.out.keptAll hb')
  replace M := hid (M.out.keptAll hb')
  clear b7 hP7 hb'
  obtain ⟨A0, A1, A2⟩ : w8.cell? ⟨kA, 0, none⟩ = some (.bool dn) ∧ w8.cell? ⟨kA, 1, none⟩ = some (.string TD) ∧ w8.cell? ⟨kA, 2, none⟩ = some (.int .i64 dx) := ⟨A.out.cell 0, A.out.cell 1, A.out.cell 2⟩
  obtain ⟨M0, M1, M2⟩ : w8.cell? ⟨kM, 0, none⟩ = some (.bool dn) ∧ w8.cell? ⟨kM, 1, none⟩ = some (.string TD) ∧ w8.cell? ⟨kM, 2, none⟩ = some (.int .i64 dx) := ⟨M.out.cell 0, M.out.cell 1, M.out.cell 2⟩
  go_wp2_with fail
  clear A0 A1 A2
  clear M0 M1 M2
  refine Calls.mono (c_w.out _) ?_
  rintro e w9 ⟨rfl, hb'⟩
  have hP9 := hid (hP8.out.kept hb')
  have b9 := hid (b8.out.trans (hb'.mono b8.out.size))
  replace A := hid (A.out.keptAll hb')
  replace M := hid (M.out.keptAll hb')
  clear b8 hP8 hb'
  obtain ⟨A0, A1, A2⟩ : w9.cell? ⟨kA, 0, none⟩ = some (.bool dn) ∧ w9.cell? ⟨kA, 1, none⟩ = some (.string TD) ∧ w9.cell? ⟨kA, 2, none⟩ = some (.int .i64 dx) := ⟨A.out.cell 0, A.out.cell 1, A.out.cell 2⟩
  obtain ⟨M0, M1, M2⟩ : w9.cell? ⟨kM, 0, none⟩ = some (.bool dn) ∧ w9.cell? ⟨kM, 1, none⟩ = some (.string TD) ∧ w9.cell? ⟨kM, 2, none⟩ = some (.int .i64 dx) := ⟨M.out.cell 0, M.out.cell 1, M.out.cell 2⟩
  go_wp2_with fail
  clear A0 A1 A2
  clear M0 M1 M2
  refine Calls.mono (c_v.out _ hP9.out) ?_
  rintro e w10 ⟨rfl, hb'⟩
  have hP10 := hid (hP9.out.kept hb')
  have b10 := hid (b9.out.trans (hb'.mono b9.out.size))
  replace A := hid (A.out.keptAll hb')
  replace M := hid (M.out.keptAll hb')
  clear b9 hP9 hb'
  go_wp2_with fail
  refine Calls.mono (c_m.out _) ?_
  rintro e w11 ⟨rfl, hb'⟩
  have hP11 := hid (hP10.out.kept hb')
  have b11 := hid (b10.out.trans (hb'.mono b10.out.size))
  replace A := hid (A.out.keptAll hb')
  replace M := hid (M.out.keptAll hb')
  clear b10 hP10 hb'
  have N := hid (At.new w11 #[.bool dn, .string TD, .int .i64 dx] 23)
  replace A := hid (A.out.alloc (.cells #[.bool dn, .string TD, .int .i64 dx] 23))
  replace M := hid (M.out.alloc (.cells #[.bool dn, .string TD, .int .i64 dx] 23))
  have b12 := hid (show Below w.heap.size w (w11.alloc (.cells #[.bool dn, .string TD, .int .i64 dx] 23)) from b11.out.alloc b11.out.size _)
  have hP12 := hid (hP11.out.kept (w' := w11.alloc (.cells #[.bool dn, .string TD, .int .i64 dx] 23)) ((Below.refl _ _).alloc (Nat.le_refl _) _))
  clear b11 hP11
  go_upto_region 10 with fail
  generalize w11.heap.size = kN at N ⊢
  generalize w11.alloc (.cells #[.bool dn, .string TD, .int .i64 dx] 23) = w12 at N b12 hP12 A M ⊢
  obtain ⟨A0, A1, A2⟩ : w12.cell? ⟨kA, 0, none⟩ = some (.bool dn) ∧ w12.cell? ⟨kA, 1, none⟩ = some (.string TD) ∧ w12.cell? ⟨kA, 2, none⟩ = some (.int .i64 dx) := ⟨A.out.cell 0, A.out.cell 1, A.out.cell 2⟩
  obtain ⟨M0, M1, M2⟩ : w12.cell? ⟨kM, 0, none⟩ = some (.bool dn) ∧ w12.cell? ⟨kM, 1, none⟩ = some (.string TD) ∧ w12.cell? ⟨kM, 2, none⟩ = some (.int .i64 dx) := ⟨M.out.cell 0, M.out.cell 1, M.out.cell 2⟩
  obtain ⟨N0, N1, N2⟩ : w12.cell? ⟨kN, 0, none⟩ = some (.bool dn) ∧ w12.cell? ⟨kN, 1, none⟩ = some (.string TD) ∧ w12.cell? ⟨kN, 2, none⟩ = some (.int .i64 dx) := ⟨N.out.cell 0, N.out.cell 1, N.out.cell 2⟩
  go_wp2_with fail
  clear A0 A1 A2
  clear M0 M1 M2
  clear N0 N1 N2
  refine Calls.mono (c_v.out _ hP12.out) ?_
  rintro e w13 ⟨rfl, hb'⟩
  have hP13 := hid (hP12.out.kept hb')
  have b13 := hid (b12.out.trans (hb'.mono b12.out.size))
  replace A := hid (A.out.keptAll hb')
  replace M := hid (M.out.keptAll hb')
  replace N := hid (N.out.keptAll hb')
  clear b12 hP12 hb'
  obtain ⟨A0, A1, A2⟩ : w13.cell? ⟨kA, 0, none⟩ = some (.bool dn) ∧ w13.cell? ⟨kA, 1, none⟩ = some (.string TD) ∧ w13.cell? ⟨kA, 2, none⟩ = some (.int .i64 dx) := ⟨A.out.cell 0, A.out.cell 1, A.out.cell 2⟩
  obtain ⟨M0, M1, M2⟩ : w13.cell? ⟨kM, 0, none⟩ = some (.bool dn) ∧ w13.cell? ⟨kM, 1, none⟩ = some (.string TD) ∧ w13.cell? ⟨kM, 2, none⟩ = some (.int .i64 dx) := ⟨M.out.cell 0, M.out.cell 1, M.out.cell 2⟩
  obtain ⟨N0, N1, N2⟩ : w13.cell? ⟨kN, 0, none⟩ = some (.bool dn) ∧ w13.cell? ⟨kN, 1, none⟩ = some (.string TD) ∧ w13.cell? ⟨kN, 2, none⟩ = some (.int .i64 dx) := ⟨N.out.cell 0, N.out.cell 1, N.out.cell 2⟩
  go_wp2_with fail
  clear A0 A1 A2
  clear M0 M1 M2
  clear N0 N1 N2
  refine Calls.mono (c_w.out _) ?_
  rintro e w14 ⟨rfl, hb'⟩
  have hP14 := hid (hP13.out.kept hb')
  have b14 := hid (b13.out.trans (hb'.mono b13.out.size))
  replace A := hid (A.out.keptAll hb')
  replace M := hid (M.out.keptAll hb')
  replace N := hid (N.out.keptAll hb')
  clear b13 hP13 hb'
  obtain ⟨A0, A1, A2⟩ : w14.cell? ⟨kA, 0, none⟩ = some (.bool dn) ∧ w14.cell? ⟨kA, 1, none⟩ = some (.string TD) ∧ w14.cell? ⟨kA, 2, none⟩ = some (.int .i64 dx) := ⟨A.out.cell 0, A.out.cell 1, A.out.cell 2⟩
  obtain ⟨M0, M1, M2⟩ : w14.cell? ⟨kM, 0, none⟩ = some (.bool dn) ∧ w14.cell? ⟨kM, 1, none⟩ = some (.string TD) ∧ w14.cell? ⟨kM, 2, none⟩ = some (.int .i64 dx) := ⟨M.out.cell 0, M.out.cell 1, M.out.cell 2⟩
  obtain ⟨N0, N1, N2⟩ : w14.cell? ⟨kN, 0, none⟩ = some (.bool dn) ∧ w14.cell? ⟨kN, 1, none⟩ = some (.string TD) ∧ w14.cell? ⟨kN, 2, none⟩ = some (.int .i64 dx) := ⟨N.out.cell 0, N.out.cell 1, N.out.cell 2⟩
  go_wp2_with fail
  clear A0 A1 A2
  clear M0 M1 M2
  clear N0 N1 N2
  refine Calls.mono (ca.out _) ?_
  rintro e w15 ⟨rfl, hb'⟩
  have hP15 := hid (hP14.out.kept hb')
  have b15 := hid (b14.out.trans (hb'.mono b14.out.size))
  replace A := hid (A.out.keptAll hb')
  replace M := hid (M.out.keptAll hb')
  replace N := hid (N.out.keptAll hb')
  clear b14 hP14 hb' ca
  go_wp2_with fail
  go_ret
  exact ⟨by first | rfl | simp, b15.out⟩
set_option maxRecDepth 10000 in
set_option maxHeartbeats 8000000 in
theorem once_big (s : ByteArray) (hs : s.size ≤ 281474976710656) (h : (ofS s).2 ≠ 110) (hp : hasP s = false) (v : Int) (hv : valS s = v) (h1 : (9223372036854775808 : Int) ≤ v) (h2 : v ≤ (18446744073709551615 : Int)) (hno : s ≠ ⟨#[45, 48]⟩) (w : World) (hP : PowW w) :
    Calls Tryd.prog 5 #[.string s] w fun e w' => e = .returned (.bool true) ∧ Below w.heap.size w w' := by
  obtain ⟨B, D, hPl⟩ : ∃ B D, PlainN s B D := ⟨_, _, plain_of h hp⟩
  have hT : Hid ((⟨(Lib.itoa v).toArray⟩ : ByteArray) = s) := by show _ = _; rw [← hv]; exact (plain_text hPl (fun e => by rcases Nat.eq_zero_or_pos (pwN D.data.toList) with h3 | h3; (exact absurd (plain_nought (by rw [← e]; exact hPl) h3) hno); exact h3)).symm
  have hDs : D.size ≤ 1000 := by
      have h3 := canon hPl.dig hPl.lead hPl.pos
      have h4 : pwN D.data.toList < 18446744073709551616 := by have h5 := hPl.val_eq; rw [hv] at h5; cases B <;> simp at h5 <;> omega
      have h6 := dec_len _ h4
      rw [← h3, size_list] at h6
      omega
  obtain ⟨e0, e1, e2⟩ := of_small hPl hDs
  have hdz := ds_size hs
  obtain ⟨r, hr⟩ : ∃ r, ofS s = r := ⟨_, rfl⟩
  obtain ⟨⟨dn, dd, dx⟩, er⟩ := r
  have c_o := hid (fun w1 => of_calls s hs w1)
  have hov := hid (show ofV s = .tuple #[.agg #[.bool dn, .string ⟨dd.toArray⟩, .int .i64 dx], .int .i64 (er : Int)] by rw [ofV, hr]; rfl)
  rw [hov.out] at c_o
  rw [hr] at e0 e1 e2 hdz
  dsimp only at e0 e1 e2 hdz
  obtain rfl : er = 0 := e0
  have c_w := hid (fun w1 => wholeD_calls dn ⟨dd.toArray⟩ dx hdz e1 e2 w1)
  generalize (⟨dd.toArray⟩ : ByteArray) = TD at c_o c_w
  have c_m := hid c_o.out
  have he := eqDec dn TD dx
  have q2 : (s.toList == [45, 48]) = false := beq_eq_false_iff_ne.2 fun e => hno (ba_list (by rw [← Lib.toList_data, e]))
  have c_i := hid (fun w1 => face_int64 s hs (0) 121 (who_off h hp hv (by show ¬ ((-9223372036854775808 : Int) ≤ v ∧ v ≤ (9223372036854775807 : Int)); omega)) w1)
  have c_u := hid (fun w1 => face_uint64 s hs (v) 0 (who_fit h hp hv (by show (0 : Int) ≤ v; omega) (by show v ≤ (18446744073709551615 : Int); omega)) w1)
  have ca := hid (fun w1 => awake12_calls w1)
  have hP0 := hid hP
  have b0 := hid (Below.refl w.heap.size w)
  have c_v := hid (fun w1 h1 => text_uint64 (v) (by omega) (by omega) s (by first | exact hT | (show _ = _; rfl)) w1 h1)
  clear h hs hov hr hP hp hv h1 h2 hT hPl hDs e1 e2 hdz hno
  go_enter Tryd.func5, Tryd.ntmps5
  go_wp2_with fail
  refine Calls.mono (c_i.out _) ?_
  rintro e w1 ⟨rfl, hb'⟩
  have hP1 := hid (hP0.out.kept hb')
  have b1 := hid (b0.out.trans (hb'.mono b0.out.size))
  clear b0 hP0 hb' c_i
  go_wp2_with fail
  refine Calls.mono (c_u.out _) ?_
  rintro e w2 ⟨rfl, hb'⟩
  have hP2 := hid (hP1.out.kept hb')
  have b2 := hid (b1.out.trans (hb'.mono b1.out.size))
  clear b1 hP1 hb' c_u
  go_wp2_with fail
  refine Calls.mono (c_o.out _) ?_
  rintro e w3 ⟨rfl, hb'⟩
  have hP3 := hid (hP2.out.kept hb')
  have b3 := hid (b2.out.trans (hb'.mono b2.out.size))
  clear b2 hP2 hb'
  have A := hid (At.new w3 #[.bool dn, .string TD, .int .i64 dx] 23)
  have b4 := hid (show Below w.heap.size w (w3.alloc (.cells #[.bool dn, .string TD, .int .i64 dx] 23)) from b3.out.alloc b3.out.size _)
  have hP4 := hid (hP3.out.kept (w' := w3.alloc (.cells #[.bool dn, .string TD, .int .i64 dx] 23)) ((Below.refl _ _).alloc (Nat.le_refl _) _))
  clear b3 hP3
  go_upto_region 4 with fail
  generalize w3.heap.size = kA at A ⊢
  generalize w3.alloc (.cells #[.bool dn, .string TD, .int .i64 dx] 23) = w4 at A b4 hP4  ⊢
  go_wp2_with fail
  refine Calls.mono (c_v.out _ hP4.out) ?_
  rintro e w5 ⟨rfl, hb'⟩
  have hP5 := hid (hP4.out.kept hb')
  have b5 := hid (b4.out.trans (hb'.mono b4.out.size))
  replace A := hid (A.out.keptAll hb')
  clear b4 hP4 hb'
  go_wp2_with fail
  refine Calls.mono (c_m.out _) ?_
  rintro e w6 ⟨rfl, hb'⟩
  have hP6 := hid (hP5.out.kept hb')
  have b6 := hid (b5.out.trans (hb'.mono b5.out.size))
  replace A := hid (A.out.keptAll hb')
  clear b5 hP5 hb'
  have N := hid (At.new w6 #[.bool dn, .string TD, .int .i64 dx] 23)
  replace A := hid (A.out.alloc (.cells #[.bool dn, .string TD, .int .i64 dx] 23))
  have b7 := hid (show Below w.heap.size w (w6.alloc (.cells #[.bool dn, .string TD, .int .i64 dx] 23)) from b6.out.alloc b6.out.size _)
  have hP7 := hid (hP6.out.kept (w' := w6.alloc (.cells #[.bool dn, .string TD, .int .i64 dx] 23)) ((Below.refl _ _).alloc (Nat.le_refl _) _))
  clear b6 hP6
  go_upto_region 10 with fail
  generalize w6.heap.size = kN at N ⊢
  generalize w6.alloc (.cells #[.bool dn, .string TD, .int .i64 dx] 23) = w7 at N b7 hP7 A ⊢
  obtain ⟨A0, A1, A2⟩ : w7.cell? ⟨kA, 0, none⟩ = some (.bool dn) ∧ w7.cell? ⟨kA, 1, none⟩ = some (.string TD) ∧ w7.cell? ⟨kA, 2, none⟩ = some (.int .i64 dx) := ⟨A.out.cell 0, A.out.cell 1, A.out.cell 2⟩
  obtain ⟨N0, N1, N2⟩ : w7.cell? ⟨kN, 0, none⟩ = some (.bool dn) ∧ w7.cell? ⟨kN, 1, none⟩ = some (.string TD) ∧ w7.cell? ⟨kN, 2, none⟩ = some (.int .i64 dx) := ⟨N.out.cell 0, N.out.cell 1, N.out.cell 2⟩
  go_wp2_with fail
  clear A0 A1 A2
  clear N0 N1 N2
  refine Calls.mono (c_v.out _ hP7.out) ?_
  rintro e w8 ⟨rfl, hb'⟩
  have hP8 := hid (hP7.out.kept hb')
  have b8 := hid (b7.out.trans (hb'.mono b7.out.size))
  replace A := hid (A.out.keptAll hb')
  replace N := hid (N.out.keptAll hb')
  clear b7 hP7 hb'
  obtain ⟨A0, A1, A2⟩ : w8.cell? ⟨kA, 0, none⟩ = some (.bool dn) ∧ w8.cell? ⟨kA, 1, none⟩ = some (.string TD) ∧ w8.cell? ⟨kA, 2, none⟩ = some (.int .i64 dx) := ⟨A.out.cell 0, A.out.cell 1, A.out.cell 2⟩
  obtain ⟨N0, N1, N2⟩ : w8.cell? ⟨kN, 0, none⟩ = some (.bool dn) ∧ w8.cell? ⟨kN, 1, none⟩ = some (.string TD) ∧ w8.cell? ⟨kN, 2, none⟩ = some (.int .i64 dx) := ⟨N.out.cell 0, N.out.cell 1, N.out.cell 2⟩
  go_wp2_with fail
  clear A0 A1 A2
  clear N0 N1 N2
  refine Calls.mono (c_w.out _) ?_
  rintro e w9 ⟨rfl, hb'⟩
  have hP9 := hid (hP8.out.kept hb')
  have b9 := hid (b8.out.trans (hb'.mono b8.out.size))
  replace A := hid (A.out.keptAll hb')
  replace N := hid (N.out.keptAll hb')
  clear b8 hP8 hb'
  obtain ⟨A0, A1, A2⟩ : w9.cell? ⟨kA, 0, none⟩ = some (.bool dn) ∧ w9.cell? ⟨kA, 1, none⟩ = some (.string TD) ∧ w9.cell? ⟨kA, 2, none⟩ = some (.int .i64 dx) := ⟨A.out.cell 0, A.out.cell 1, A.out.cell 2⟩
  obtain ⟨N0, N1, N2⟩ : w9.cell? ⟨kN, 0, none⟩ = some (.bool dn) ∧ w9.cell? ⟨kN, 1, none⟩ = some (.string TD) ∧ w9.cell? ⟨kN, 2, none⟩ = some (.int .i64 dx) := ⟨N.out.cell 0, N.out.cell 1, N.out.cell 2⟩
  go_wp2_with fail
  clear A0 A1 A2
  clear N0 N1 N2
  refine Calls.mono (ca.out _) ?_
  rintro e w10 ⟨rfl, hb'⟩
  have hP10 := hid (hP9.out.kept hb')
  have b10 := hid (b9.out.trans (hb'.mono b9.out.size))
  replace A := hid (A.out.keptAll hb')
  replace N := hid (N.out.keptAll hb')
  clear b9 hP9 hb' ca
  go_wp2_with fail
  go_ret
  exact ⟨by first | rfl | simp, b10.out⟩
set_option maxRecDepth 10000 in
set_option maxHeartbeats 8000000 in
theorem once_nought (s : ByteArray) (hs : s.size ≤ 281474976710656) (hno : s = ⟨#[45, 48]⟩) (w : World) (hP : PowW w) :
    Calls Tryd.prog 5 #[.string s] w fun e w' => e = .returned (.bool true) ∧ Below w.heap.size w w' := by
  have hPl : PlainN ⟨#[45, 48]⟩ true ⟨#[48]⟩ := ⟨rfl, by decide, dig48, fun _ => rfl⟩
  have hP2 : PlainN ⟨#[48]⟩ false ⟨#[48]⟩ := ⟨rfl, by decide, dig48, fun _ => rfl⟩
  subst hno
  have hv : valS ⟨#[45, 48]⟩ = 0 := by rw [hPl.val_eq]; rfl
  have h := hPl.of
  have hp := hPl.noP
  have c_o := hid (fun w1 => of_calls ⟨#[45, 48]⟩ hs w1)
  have hov : ofV ⟨#[45, 48]⟩ = .tuple #[.agg #[.bool true, .string ⟨#[]⟩, .int .i64 0], .int .i64 0] := by rw [ofV, ofS, readS, hPl.scan]; rfl
  rw [hov] at c_o
  have c_m := hid (fun w1 => of_calls ⟨#[48]⟩ (by decide) w1)
  have hov2 : ofV ⟨#[48]⟩ = .tuple #[.agg #[.bool false, .string ⟨#[]⟩, .int .i64 0], .int .i64 0] := by rw [ofV, ofS, readS, hP2.scan]; rfl
  rw [hov2] at c_m
  have c_w := hid (fun w1 => wholeD_calls true ⟨#[]⟩ 0 (by decide) (by show _ = _; rfl) (by show (0 : Int) ≤ 0; decide) w1)
  have hT : Hid ((⟨(Lib.itoa 0).toArray⟩ : ByteArray) = ⟨#[48]⟩) := by show _ = _; rw [Lib.itoa, if_neg (by decide), Lib.decDigits, dif_pos (by decide)]; rfl
  have c_i := hid (fun w1 => face_int64 ⟨#[45, 48]⟩ hs (0) 0 (who_fit h hp hv (by decide) (by decide)) w1)
  have c_u := hid (fun w1 => face_uint64 ⟨#[45, 48]⟩ hs (0) 0 (who_fit h hp hv (by decide) (by decide)) w1)
  have ca := hid (fun w1 => awake12_calls w1)
  have hP0 := hid hP
  have b0 := hid (Below.refl w.heap.size w)
  have c_t := hid (fun w1 h1 => text_int64 (0) (by omega) (by omega) ⟨#[48]⟩ (by first | exact hT | (show _ = _; rfl)) w1 h1)
  have c_v := hid (fun w1 h1 => text_uint64 (0) (by omega) (by omega) ⟨#[48]⟩ (by first | exact hT | (show _ = _; rfl)) w1 h1)
  clear h hs hP hp hv hPl hP2 hov hov2 hT
  go_enter Tryd.func5, Tryd.ntmps5
  go_wp2_with fail
  refine Calls.mono (c_i.out _) ?_
  rintro e w1 ⟨rfl, hb'⟩
  have hP1 := hid (hP0.out.kept hb')
  have b1 := hid (b0.out.trans (hb'.mono b0.out.size))
  clear b0 hP0 hb' c_i
  go_wp2_with fail
  refine Calls.mono (c_u.out _) ?_
  rintro e w2 ⟨rfl, hb'⟩
  have hP2 := hid (hP1.out.kept hb')
  have b2 := hid (b1.out.trans (hb'.mono b1.out.size))
  clear b1 hP1 hb' c_u
  go_wp2_with fail
  refine Calls.mono (c_o.out _) ?_
  rintro e w3 ⟨rfl, hb'⟩
  have hP3 := hid (hP2.out.kept hb')
  have b3 := hid (b2.out.trans (hb'.mono b2.out.size))
  clear b2 hP2 hb'
  have A := hid (At.new w3 #[.bool true, .string ⟨#[]⟩, .int .i64 0] 23)
  have b4 := hid (show Below w.heap.size w (w3.alloc (.cells #[.bool true, .string ⟨#[]⟩, .int .i64 0] 23)) from b3.out.alloc b3.out.size _)
  have hP4 := hid (hP3.out.kept (w' := w3.alloc (.cells #[.bool true, .string ⟨#[]⟩, .int .i64 0] 23)) ((Below.refl _ _).alloc (Nat.le_refl _) _))
  clear b3 hP3
  go_upto_region 4 with fail
  generalize w3.heap.size = kA at A ⊢
  generalize w3.alloc (.cells #[.bool true, .string ⟨#[]⟩, .int .i64 0] 23) = w4 at A b4 hP4  ⊢
  go_wp2_with fail
  refine Calls.mono (c_t.out _ hP4.out) ?_
  rintro e w5 ⟨rfl, hb'⟩
  have hP5 := hid (hP4.out.kept hb')
  have b5 := hid (b4.out.trans (hb'.mono b4.out.size))
  replace A := hid (A.out.keptAll hb')
  clear b4 hP4 hb'
  go_wp2_with fail
  refine Calls.mono (c_m.out _) ?_
  rintro e w6 ⟨rfl, hb'⟩
  have hP6 := hid (hP5.out.kept hb')
  have b6 := hid (b5.out.trans (hb'.mono b5.out.size))
  replace A := hid (A.out.keptAll hb')
  clear b5 hP5 hb'
  have M := hid (At.new w6 #[.bool false, .string ⟨#[]⟩, .int .i64 0] 23)
  replace A := hid (A.out.alloc (.cells #[.bool false, .string ⟨#[]⟩, .int .i64 0] 23))
  have b7 := hid (show Below w.heap.size w (w6.alloc (.cells #[.bool false, .string ⟨#[]⟩, .int .i64 0] 23)) from b6.out.alloc b6.out.size _)
  have hP7 := hid (hP6.out.kept (w' := w6.alloc (.cells #[.bool false, .string ⟨#[]⟩, .int .i64 0] 23)) ((Below.refl _ _).alloc (Nat.le_refl _) _))
  clear b6 hP6
  go_upto_region 6 with fail
  generalize w6.heap.size = kM at M ⊢
  generalize w6.alloc (.cells #[.bool false, .string ⟨#[]⟩, .int .i64 0] 23) = w7 at M b7 hP7 A ⊢
  obtain ⟨A0, A1, A2⟩ : w7.cell? ⟨kA, 0, none⟩ = some (.bool true) ∧ w7.cell? ⟨kA, 1, none⟩ = some (.string ⟨#[]⟩) ∧ w7.cell? ⟨kA, 2, none⟩ = some (.int .i64 0) := ⟨A.out.cell 0, A.out.cell 1, A.out.cell 2⟩
  obtain ⟨M0, M1, M2⟩ : w7.cell? ⟨kM, 0, none⟩ = some (.bool false) ∧ w7.cell? ⟨kM, 1, none⟩ = some (.string ⟨#[]⟩) ∧ w7.cell? ⟨kM, 2, none⟩ = some (.int .i64 0) := ⟨M.out.cell 0, M.out.cell 1, M.out.cell 2⟩
  go_wp2_with fail
  clear A0 A1 A2
  clear M0 M1 M2
  refine Calls.mono (c_t.out _ hP7.out) ?_
  rintro e w8 ⟨rfl, hb'⟩
  have hP8 := hid (hP7.out.kept hb')
  have b8 := hid (b7.out.trans (hb'.mono b7.out.size))
  replace A := hid (A.out.keptAll hb')
  replace M := hid (M.out.keptAll hb')
  clear b7 hP7 hb'
  obtain ⟨A0, A1, A2⟩ : w8.cell? ⟨kA, 0, none⟩ = some (.bool true) ∧ w8.cell? ⟨kA, 1, none⟩ = some (.string ⟨#[]⟩) ∧ w8.cell? ⟨kA, 2, none⟩ = some (.int .i64 0) := ⟨A.out.cell 0, A.out.cell 1, A.out.cell 2⟩
  obtain ⟨M0, M1, M2⟩ : w8.cell? ⟨kM, 0, none⟩ = some (.bool false) ∧ w8.cell? ⟨kM, 1, none⟩ = some (.string ⟨#[]⟩) ∧ w8.cell? ⟨kM, 2, none⟩ = some (.int .i64 0) := ⟨M.out.cell 0, M.out.cell 1, M.out.cell 2⟩
  go_wp2_with fail
  clear A0 A1 A2
  clear M0 M1 M2
  refine Calls.mono (c_w.out _) ?_
  rintro e w9 ⟨rfl, hb'⟩
  have hP9 := hid (hP8.out.kept hb')
  have b9 := hid (b8.out.trans (hb'.mono b8.out.size))
  replace A := hid (A.out.keptAll hb')
  replace M := hid (M.out.keptAll hb')
  clear b8 hP8 hb'
  obtain ⟨A0, A1, A2⟩ : w9.cell? ⟨kA, 0, none⟩ = some (.bool true) ∧ w9.cell? ⟨kA, 1, none⟩ = some (.string ⟨#[]⟩) ∧ w9.cell? ⟨kA, 2, none⟩ = some (.int .i64 0) := ⟨A.out.cell 0, A.out.cell 1, A.out.cell 2⟩
  obtain ⟨M0, M1, M2⟩ : w9.cell? ⟨kM, 0, none⟩ = some (.bool false) ∧ w9.cell? ⟨kM, 1, none⟩ = some (.string ⟨#[]⟩) ∧ w9.cell? ⟨kM, 2, none⟩ = some (.int .i64 0) := ⟨M.out.cell 0, M.out.cell 1, M.out.cell 2⟩
  go_wp2_with fail
  clear A0 A1 A2
  clear M0 M1 M2
  refine Calls.mono (c_v.out _ hP9.out) ?_
  rintro e w10 ⟨rfl, hb'⟩
  have hP10 := hid (hP9.out.kept hb')
  have b10 := hid (b9.out.trans (hb'.mono b9.out.size))
  replace A := hid (A.out.keptAll hb')
  replace M := hid (M.out.keptAll hb')
  clear b9 hP9 hb'
  go_wp2_with fail
  refine Calls.mono (c_m.out _) ?_
  rintro e w11 ⟨rfl, hb'⟩
  have hP11 := hid (hP10.out.kept hb')
  have b11 := hid (b10.out.trans (hb'.mono b10.out.size))
  replace A := hid (A.out.keptAll hb')
  replace M := hid (M.out.keptAll hb')
  clear b10 hP10 hb'
  have N := hid (At.new w11 #[.bool false, .string ⟨#[]⟩, .int .i64 0] 23)
  replace A := hid (A.out.alloc (.cells #[.bool false, .string ⟨#[]⟩, .int .i64 0] 23))
  replace M := hid (M.out.alloc (.cells #[.bool false, .string ⟨#[]⟩, .int .i64 0] 23))
  have b12 := hid (show Below w.heap.size w (w11.alloc (.cells #[.bool false, .string ⟨#[]⟩, .int .i64 0] 23)) from b11.out.alloc b11.out.size _)
  have hP12 := hid (hP11.out.kept (w' := w11.alloc (.cells #[.bool false, .string ⟨#[]⟩, .int .i64 0] 23)) ((Below.refl _ _).alloc (Nat.le_refl _) _))
  clear b11 hP11
  go_upto_region 10 with fail
  generalize w11.heap.size = kN at N ⊢
  generalize w11.alloc (.cells #[.bool false, .string ⟨#[]⟩, .int .i64 0] 23) = w12 at N b12 hP12 A M ⊢
  obtain ⟨A0, A1, A2⟩ : w12.cell? ⟨kA, 0, none⟩ = some (.bool true) ∧ w12.cell? ⟨kA, 1, none⟩ = some (.string ⟨#[]⟩) ∧ w12.cell? ⟨kA, 2, none⟩ = some (.int .i64 0) := ⟨A.out.cell 0, A.out.cell 1, A.out.cell 2⟩
  obtain ⟨M0, M1, M2⟩ : w12.cell? ⟨kM, 0, none⟩ = some (.bool false) ∧ w12.cell? ⟨kM, 1, none⟩ = some (.string ⟨#[]⟩) ∧ w12.cell? ⟨kM, 2, none⟩ = some (.int .i64 0) := ⟨M.out.cell 0, M.out.cell 1, M.out.cell 2⟩
  obtain ⟨N0, N1, N2⟩ : w12.cell? ⟨kN, 0, none⟩ = some (.bool false) ∧ w12.cell? ⟨kN, 1, none⟩ = some (.string ⟨#[]⟩) ∧ w12.cell? ⟨kN, 2, none⟩ = some (.int .i64 0) := ⟨N.out.cell 0, N.out.cell 1, N.out.cell 2⟩
  go_wp2_with fail
  clear A0 A1 A2
  clear M0 M1 M2
  clear N0 N1 N2
  refine Calls.mono (c_v.out _ hP12.out) ?_
  rintro e w13 ⟨rfl, hb'⟩
  have hP13 := hid (hP12.out.kept hb')
  have b13 := hid (b12.out.trans (hb'.mono b12.out.size))
  replace A := hid (A.out.keptAll hb')
  replace M := hid (M.out.keptAll hb')
  replace N := hid (N.out.keptAll hb')
  clear b12 hP12 hb'
  obtain ⟨A0, A1, A2⟩ : w13.cell? ⟨kA, 0, none⟩ = some (.bool true) ∧ w13.cell? ⟨kA, 1, none⟩ = some (.string ⟨#[]⟩) ∧ w13.cell? ⟨kA, 2, none⟩ = some (.int .i64 0) := ⟨A.out.cell 0, A.out.cell 1, A.out.cell 2⟩
  obtain ⟨M0, M1, M2⟩ : w13.cell? ⟨kM, 0, none⟩ = some (.bool false) ∧ w13.cell? ⟨kM, 1, none⟩ = some (.string ⟨#[]⟩) ∧ w13.cell? ⟨kM, 2, none⟩ = some (.int .i64 0) := ⟨M.out.cell 0, M.out.cell 1, M.out.cell 2⟩
  obtain ⟨N0, N1, N2⟩ : w13.cell? ⟨kN, 0, none⟩ = some (.bool false) ∧ w13.cell? ⟨kN, 1, none⟩ = some (.string ⟨#[]⟩) ∧ w13.cell? ⟨kN, 2, none⟩ = some (.int .i64 0) := ⟨N.out.cell 0, N.out.cell 1, N.out.cell 2⟩
  go_wp2_with fail
  clear A0 A1 A2
  clear M0 M1 M2
  clear N0 N1 N2
  refine Calls.mono (c_w.out _) ?_
  rintro e w14 ⟨rfl, hb'⟩
  have hP14 := hid (hP13.out.kept hb')
  have b14 := hid (b13.out.trans (hb'.mono b13.out.size))
  replace A := hid (A.out.keptAll hb')
  replace M := hid (M.out.keptAll hb')
  replace N := hid (N.out.keptAll hb')
  clear b13 hP13 hb'
  obtain ⟨A0, A1, A2⟩ : w14.cell? ⟨kA, 0, none⟩ = some (.bool true) ∧ w14.cell? ⟨kA, 1, none⟩ = some (.string ⟨#[]⟩) ∧ w14.cell? ⟨kA, 2, none⟩ = some (.int .i64 0) := ⟨A.out.cell 0, A.out.cell 1, A.out.cell 2⟩
  obtain ⟨M0, M1, M2⟩ : w14.cell? ⟨kM, 0, none⟩ = some (.bool false) ∧ w14.cell? ⟨kM, 1, none⟩ = some (.string ⟨#[]⟩) ∧ w14.cell? ⟨kM, 2, none⟩ = some (.int .i64 0) := ⟨M.out.cell 0, M.out.cell 1, M.out.cell 2⟩
  obtain ⟨N0, N1, N2⟩ : w14.cell? ⟨kN, 0, none⟩ = some (.bool false) ∧ w14.cell? ⟨kN, 1, none⟩ = some (.string ⟨#[]⟩) ∧ w14.cell? ⟨kN, 2, none⟩ = some (.int .i64 0) := ⟨N.out.cell 0, N.out.cell 1, N.out.cell 2⟩
  go_wp2_with fail
  clear A0 A1 A2
  clear M0 M1 M2
  clear N0 N1 N2
  refine Calls.mono (ca.out _) ?_
  rintro e w15 ⟨rfl, hb'⟩
  have hP15 := hid (hP14.out.kept hb')
  have b15 := hid (b14.out.trans (hb'.mono b14.out.size))
  replace A := hid (A.out.keptAll hb')
  replace M := hid (M.out.keptAll hb')
  replace N := hid (N.out.keptAll hb')
  clear b14 hP14 hb' ca
  go_wp2_with fail
  go_ret
  exact ⟨by first | rfl | simp, b15.out⟩
theorem wholeOnce_walk (s : ByteArray) (hz : s.size ≤ reachBytes) (w : World) (hP : PowW w) : Calls Tryd.prog 5 #[.string s] w fun e w' => e = .returned (.bool true) ∧ Below w.heap.size w w' := by
  have hs : s.size ≤ 281474976710656 := by have := reachBytes_lt; omega
  by_cases h : (ofS s).2 = 110
  · exact once_num s hs h w hP
  · cases hp : hasP s with
    | true => exact once_frac s hs h hp w hP
    | false =>
      obtain ⟨v, hv⟩ : ∃ v, valS s = v := ⟨_, rfl⟩
      by_cases hno : s = ⟨#[45, 48]⟩
      · exact once_nought s hs hno w hP
      · by_cases g0 : v < (-9223372036854775808 : Int) ∨ (18446744073709551615 : Int) < v
        · exact once_off s hs h hp v hv g0 w hP
        · by_cases g1 : v ≤ (-1 : Int)
          · exact once_neg s hs h hp v hv (by omega) g1 hno w hP
          · by_cases g2 : v ≤ (9223372036854775807 : Int)
            · exact once_both s hs h hp v hv (by omega) g2 hno w hP
            · exact once_big s hs h hp v hv (by omega) (by omega) hno w hP
end Go.Proofs.YtheeonlfbnkhgaaDoor
