/-
  What the reference's Int answers, width by width (by gen_refint.py).
-/
import Derived.Test.YtheeonlfbnkhgaaGreatDoorWhlRef
import Derived.Test.YtheeonlfbnkhgaaGreatDoorWhlTx
namespace Go.Proofs.YtheeonlfbnkhgaaGreatDoor
open Go.RowKit Go.Shelf

theorem pl_num {s : ByteArray} (h : (ofS s).2 = 110) : plT s = (⟨#[]⟩, false, 110) := by rw [plT, if_pos h]
theorem pl_frac {s : ByteArray} (h : (ofS s).2 ≠ 110) (hp : hasP s = true) : plT s = (⟨#[]⟩, false, 120) := by rw [plT, if_neg h, if_pos hp]
theorem pl_plain {s : ByteArray} (h : (ofS s).2 ≠ 110) (hp : hasP s = false) {B : Bool} {D : ByteArray} (hP : PlainN s B D) : plT s = (D, B, 0) := by rw [plT, if_neg h, if_neg (by rw [hp]; decide), hP.dig_eq, ← hP.lk0]
set_option maxRecDepth 10000 in
set_option maxHeartbeats 4000000 in
theorem refInt8 (s : ByteArray) (hs : s.size ≤ 281474976710656) (X : Int) (E : Nat) (hX : Hid (wholeS IntKind.i8.min IntKind.i8.max s = (X, E))) (w : World) (hP : PowW w) :
    Calls Tryz.prog 7 #[.string s, .int .i64 8] w fun e w' => e = .returned (.tuple #[.int .i64 X, .int .i64 (E : Int)]) ∧ Below w.heap.size w w' := by
  by_cases h : (ofS s).2 = 110
  · have c0 := hid (fun w1 => plain_calls s hs ⟨#[]⟩ false 110 (pl_num h) w1)
    obtain ⟨rfl, rfl⟩ : 0 = X ∧ 110 = E := by have := hX.out; rw [who_num h] at this; simpa using this
    clear h hX
    go_enter Tryz.func7, Tryz.ntmps7
    go_wp2_with fail
    refine Calls.mono (c0.out _) ?_
    rintro e w1 ⟨rfl, hb⟩
    clear c0
    go_wp2
    refine bodyPost_ret (results_tmp2 rfl _ _ _) rfl ?_
    exact ⟨rfl, hb⟩
  · cases hp : hasP s with
    | true =>
      have c0 := hid (fun w1 => plain_calls s hs ⟨#[]⟩ false 120 (pl_frac h hp) w1)
      obtain ⟨rfl, rfl⟩ : 0 = X ∧ 120 = E := by have := hX.out; rw [who_frac h hp] at this; simpa using this
      clear h hX hp
      go_enter Tryz.func7, Tryz.ntmps7
      go_wp2_with fail
      refine Calls.mono (c0.out _) ?_
      rintro e w1 ⟨rfl, hb⟩
      clear c0
      go_wp2
      refine bodyPost_ret (results_tmp2 rfl _ _ _) rfl ?_
      exact ⟨rfl, hb⟩
    | false =>
      have hPl := plain_of h hp
      generalize scNeg s 0 = B at hPl
      generalize s.extract (scA s 0) s.size = D at hPl
      have c0 := hid (fun w1 => plain_calls s hs D B 0 (pl_plain h hp hPl) w1)
      obtain ⟨M, hM⟩ : ∃ M, pwN D.data.toList = M := ⟨_, rfl⟩
      have hv : valS s = if B then -(M : Int) else (M : Int) := by rw [hPl.val_eq, hM]
      have hDs : D.size ≤ 281474976710656 := Nat.le_trans (plain_size hPl) hs
      have hP' := hid hP
      clear hP
      cases B with
      | true =>
        have hv2 : valS s = -(M : Int) := hv
        have cf := hid (fun w1 h1 => fmtU_calls 128 (by decide) w1 h1)
        obtain ⟨R, hR⟩ : ∃ R, abvS D ⟨(Lib.decDigits 128).toArray⟩ = R := ⟨_, rfl⟩
        have cA := hid (fun w1 => above_calls D _ R hR w1)
        rw [abv_pw hPl.dig hPl.lead hPl.pos, hM] at hR
        generalize (⟨(Lib.decDigits 128).toArray⟩ : ByteArray) = TF at cf cA
        cases R with
        | true =>
          have h2 : 128 < M := by simpa using hR
          obtain ⟨rfl, rfl⟩ : 0 = X ∧ 121 = E := by have := hX.out; rw [who_off h hp hv2 (by show ¬ ((-128 : Int) ≤ _ ∧ _ ≤ (127 : Int)); omega)] at this; simpa using this
          clear h hX hp hv hv2 hPl hM hR h2 hDs hs
          go_enter Tryz.func7, Tryz.ntmps7
          go_wp2_with fail
          refine Calls.mono (c0.out _) ?_
          rintro e w1 ⟨rfl, hb1⟩
          clear c0
          go_wp2_with fail
          refine Calls.mono (cf.out _ (hP'.out.kept hb1)) ?_
          rintro e w2 ⟨rfl, hb⟩
          have hb2 := hid (hb1.trans (hb.mono hb1.size))
          clear cf hb hb1
          go_wp2_with fail
          refine Calls.mono (cA.out _) ?_
          rintro e w3 ⟨rfl, hw⟩
          rw [hw]
          clear hw w3 cA
          go_wp2
          refine bodyPost_ret (results_tmp2 rfl _ _ _) rfl ?_
          exact ⟨rfl, hb2.out⟩
        | false =>
          have h2 : M ≤ 128 := by simpa using hR
          obtain ⟨hXv, rfl⟩ : -(M : Int) = X ∧ 0 = E := by have := hX.out; rw [who_fit h hp hv2 (by show (-128 : Int) ≤ _; omega) (by show _ ≤ (127 : Int); omega)] at this; simpa using this
          have cw := hid (fun w1 => worthU_calls D hPl.dig hDs M hM (by show M < 18446744073709551616; omega) w1)
          have hneg : wrap64 (-(wrap64 (M : Int))) = X := by rw [← hXv, wrap64, wrap64]; omega
          clear h hX hp hv hv2 hPl hM hR h2 hDs hs hXv
          go_enter Tryz.func7, Tryz.ntmps7
          go_wp2_with fail
          refine Calls.mono (c0.out _) ?_
          rintro e w1 ⟨rfl, hb1⟩
          clear c0
          go_wp2_with fail
          refine Calls.mono (cf.out _ (hP'.out.kept hb1)) ?_
          rintro e w2 ⟨rfl, hb⟩
          have hb2 := hid (hb1.trans (hb.mono hb1.size))
          clear cf hb hb1
          go_wp2_with fail
          refine Calls.mono (cA.out _) ?_
          rintro e w3 ⟨rfl, hw⟩
          rw [hw]
          clear hw w3 cA
          go_wp2_with fail
          refine Calls.mono (cw.out _) ?_
          rintro e w3 ⟨rfl, hw⟩
          rw [hw]
          clear hw w3 cw
          go_wp2
          refine bodyPost_ret (results_tmp2 rfl _ _ _) rfl ?_
          exact ⟨by rw [← hneg]; rfl, hb2.out⟩
      | false =>
        have hv2 : valS s = (M : Int) := hv
        have cf := hid (fun w1 h1 => fmtU_calls 127 (by decide) w1 h1)
        obtain ⟨R, hR⟩ : ∃ R, abvS D ⟨(Lib.decDigits 127).toArray⟩ = R := ⟨_, rfl⟩
        have cA := hid (fun w1 => above_calls D _ R hR w1)
        rw [abv_pw hPl.dig hPl.lead hPl.pos, hM] at hR
        generalize (⟨(Lib.decDigits 127).toArray⟩ : ByteArray) = TF at cf cA
        cases R with
        | true =>
          have h2 : 127 < M := by simpa using hR
          obtain ⟨rfl, rfl⟩ : 0 = X ∧ 121 = E := by have := hX.out; rw [who_off h hp hv2 (by show ¬ ((-128 : Int) ≤ _ ∧ _ ≤ (127 : Int)); omega)] at this; simpa using this
          clear h hX hp hv hv2 hPl hM hR h2 hDs hs
          go_enter Tryz.func7, Tryz.ntmps7
          go_wp2_with fail
          refine Calls.mono (c0.out _) ?_
          rintro e w1 ⟨rfl, hb1⟩
          clear c0
          go_wp2_with fail
          refine Calls.mono (cf.out _ (hP'.out.kept hb1)) ?_
          rintro e w2 ⟨rfl, hb⟩
          have hb2 := hid (hb1.trans (hb.mono hb1.size))
          clear cf hb hb1
          go_wp2_with fail
          refine Calls.mono (cA.out _) ?_
          rintro e w3 ⟨rfl, hw⟩
          rw [hw]
          clear hw w3 cA
          go_wp2
          refine bodyPost_ret (results_tmp2 rfl _ _ _) rfl ?_
          exact ⟨rfl, hb2.out⟩
        | false =>
          have h2 : M ≤ 127 := by simpa using hR
          obtain ⟨hXv, rfl⟩ : (M : Int) = X ∧ 0 = E := by have := hX.out; rw [who_fit h hp hv2 (by show (-128 : Int) ≤ _; omega) (by show _ ≤ (127 : Int); omega)] at this; simpa using this
          have cw := hid (fun w1 => worthU_calls D hPl.dig hDs M hM (by show M < 18446744073709551616; omega) w1)
          have hpos : wrap64 (M : Int) = X := by rw [← hXv, wrap64]; omega
          clear h hX hp hv hv2 hPl hM hR h2 hDs hs hXv
          go_enter Tryz.func7, Tryz.ntmps7
          go_wp2_with fail
          refine Calls.mono (c0.out _) ?_
          rintro e w1 ⟨rfl, hb1⟩
          clear c0
          go_wp2_with fail
          refine Calls.mono (cf.out _ (hP'.out.kept hb1)) ?_
          rintro e w2 ⟨rfl, hb⟩
          have hb2 := hid (hb1.trans (hb.mono hb1.size))
          clear cf hb hb1
          go_wp2_with fail
          refine Calls.mono (cA.out _) ?_
          rintro e w3 ⟨rfl, hw⟩
          rw [hw]
          clear hw w3 cA
          go_wp2_with fail
          refine Calls.mono (cw.out _) ?_
          rintro e w3 ⟨rfl, hw⟩
          rw [hw]
          clear hw w3 cw
          go_wp2
          refine bodyPost_ret (results_tmp2 rfl _ _ _) rfl ?_
          exact ⟨by rw [← hpos]; rfl, hb2.out⟩
set_option maxRecDepth 10000 in
set_option maxHeartbeats 4000000 in
theorem refInt16 (s : ByteArray) (hs : s.size ≤ 281474976710656) (X : Int) (E : Nat) (hX : Hid (wholeS IntKind.i16.min IntKind.i16.max s = (X, E))) (w : World) (hP : PowW w) :
    Calls Tryz.prog 7 #[.string s, .int .i64 16] w fun e w' => e = .returned (.tuple #[.int .i64 X, .int .i64 (E : Int)]) ∧ Below w.heap.size w w' := by
  by_cases h : (ofS s).2 = 110
  · have c0 := hid (fun w1 => plain_calls s hs ⟨#[]⟩ false 110 (pl_num h) w1)
    obtain ⟨rfl, rfl⟩ : 0 = X ∧ 110 = E := by have := hX.out; rw [who_num h] at this; simpa using this
    clear h hX
    go_enter Tryz.func7, Tryz.ntmps7
    go_wp2_with fail
    refine Calls.mono (c0.out _) ?_
    rintro e w1 ⟨rfl, hb⟩
    clear c0
    go_wp2
    refine bodyPost_ret (results_tmp2 rfl _ _ _) rfl ?_
    exact ⟨rfl, hb⟩
  · cases hp : hasP s with
    | true =>
      have c0 := hid (fun w1 => plain_calls s hs ⟨#[]⟩ false 120 (pl_frac h hp) w1)
      obtain ⟨rfl, rfl⟩ : 0 = X ∧ 120 = E := by have := hX.out; rw [who_frac h hp] at this; simpa using this
      clear h hX hp
      go_enter Tryz.func7, Tryz.ntmps7
      go_wp2_with fail
      refine Calls.mono (c0.out _) ?_
      rintro e w1 ⟨rfl, hb⟩
      clear c0
      go_wp2
      refine bodyPost_ret (results_tmp2 rfl _ _ _) rfl ?_
      exact ⟨rfl, hb⟩
    | false =>
      have hPl := plain_of h hp
      generalize scNeg s 0 = B at hPl
      generalize s.extract (scA s 0) s.size = D at hPl
      have c0 := hid (fun w1 => plain_calls s hs D B 0 (pl_plain h hp hPl) w1)
      obtain ⟨M, hM⟩ : ∃ M, pwN D.data.toList = M := ⟨_, rfl⟩
      have hv : valS s = if B then -(M : Int) else (M : Int) := by rw [hPl.val_eq, hM]
      have hDs : D.size ≤ 281474976710656 := Nat.le_trans (plain_size hPl) hs
      have hP' := hid hP
      clear hP
      cases B with
      | true =>
        have hv2 : valS s = -(M : Int) := hv
        have cf := hid (fun w1 h1 => fmtU_calls 32768 (by decide) w1 h1)
        obtain ⟨R, hR⟩ : ∃ R, abvS D ⟨(Lib.decDigits 32768).toArray⟩ = R := ⟨_, rfl⟩
        have cA := hid (fun w1 => above_calls D _ R hR w1)
        rw [abv_pw hPl.dig hPl.lead hPl.pos, hM] at hR
        generalize (⟨(Lib.decDigits 32768).toArray⟩ : ByteArray) = TF at cf cA
        cases R with
        | true =>
          have h2 : 32768 < M := by simpa using hR
          obtain ⟨rfl, rfl⟩ : 0 = X ∧ 121 = E := by have := hX.out; rw [who_off h hp hv2 (by show ¬ ((-32768 : Int) ≤ _ ∧ _ ≤ (32767 : Int)); omega)] at this; simpa using this
          clear h hX hp hv hv2 hPl hM hR h2 hDs hs
          go_enter Tryz.func7, Tryz.ntmps7
          go_wp2_with fail
          refine Calls.mono (c0.out _) ?_
          rintro e w1 ⟨rfl, hb1⟩
          clear c0
          go_wp2_with fail
          refine Calls.mono (cf.out _ (hP'.out.kept hb1)) ?_
          rintro e w2 ⟨rfl, hb⟩
          have hb2 := hid (hb1.trans (hb.mono hb1.size))
          clear cf hb hb1
          go_wp2_with fail
          refine Calls.mono (cA.out _) ?_
          rintro e w3 ⟨rfl, hw⟩
          rw [hw]
          clear hw w3 cA
          go_wp2
          refine bodyPost_ret (results_tmp2 rfl _ _ _) rfl ?_
          exact ⟨rfl, hb2.out⟩
        | false =>
          have h2 : M ≤ 32768 := by simpa using hR
          obtain ⟨hXv, rfl⟩ : -(M : Int) = X ∧ 0 = E := by have := hX.out; rw [who_fit h hp hv2 (by show (-32768 : Int) ≤ _; omega) (by show _ ≤ (32767 : Int); omega)] at this; simpa using this
          have cw := hid (fun w1 => worthU_calls D hPl.dig hDs M hM (by show M < 18446744073709551616; omega) w1)
          have hneg : wrap64 (-(wrap64 (M : Int))) = X := by rw [← hXv, wrap64, wrap64]; omega
          clear h hX hp hv hv2 hPl hM hR h2 hDs hs hXv
          go_enter Tryz.func7, Tryz.ntmps7
          go_wp2_with fail
          refine Calls.mono (c0.out _) ?_
          rintro e w1 ⟨rfl, hb1⟩
          clear c0
          go_wp2_with fail
          refine Calls.mono (cf.out _ (hP'.out.kept hb1)) ?_
          rintro e w2 ⟨rfl, hb⟩
          have hb2 := hid (hb1.trans (hb.mono hb1.size))
          clear cf hb hb1
          go_wp2_with fail
          refine Calls.mono (cA.out _) ?_
          rintro e w3 ⟨rfl, hw⟩
          rw [hw]
          clear hw w3 cA
          go_wp2_with fail
          refine Calls.mono (cw.out _) ?_
          rintro e w3 ⟨rfl, hw⟩
          rw [hw]
          clear hw w3 cw
          go_wp2
          refine bodyPost_ret (results_tmp2 rfl _ _ _) rfl ?_
          exact ⟨by rw [← hneg]; rfl, hb2.out⟩
      | false =>
        have hv2 : valS s = (M : Int) := hv
        have cf := hid (fun w1 h1 => fmtU_calls 32767 (by decide) w1 h1)
        obtain ⟨R, hR⟩ : ∃ R, abvS D ⟨(Lib.decDigits 32767).toArray⟩ = R := ⟨_, rfl⟩
        have cA := hid (fun w1 => above_calls D _ R hR w1)
        rw [abv_pw hPl.dig hPl.lead hPl.pos, hM] at hR
        generalize (⟨(Lib.decDigits 32767).toArray⟩ : ByteArray) = TF at cf cA
        cases R with
        | true =>
          have h2 : 32767 < M := by simpa using hR
          obtain ⟨rfl, rfl⟩ : 0 = X ∧ 121 = E := by have := hX.out; rw [who_off h hp hv2 (by show ¬ ((-32768 : Int) ≤ _ ∧ _ ≤ (32767 : Int)); omega)] at this; simpa using this
          clear h hX hp hv hv2 hPl hM hR h2 hDs hs
          go_enter Tryz.func7, Tryz.ntmps7
          go_wp2_with fail
          refine Calls.mono (c0.out _) ?_
          rintro e w1 ⟨rfl, hb1⟩
          clear c0
          go_wp2_with fail
          refine Calls.mono (cf.out _ (hP'.out.kept hb1)) ?_
          rintro e w2 ⟨rfl, hb⟩
          have hb2 := hid (hb1.trans (hb.mono hb1.size))
          clear cf hb hb1
          go_wp2_with fail
          refine Calls.mono (cA.out _) ?_
          rintro e w3 ⟨rfl, hw⟩
          rw [hw]
          clear hw w3 cA
          go_wp2
          refine bodyPost_ret (results_tmp2 rfl _ _ _) rfl ?_
          exact ⟨rfl, hb2.out⟩
        | false =>
          have h2 : M ≤ 32767 := by simpa using hR
          obtain ⟨hXv, rfl⟩ : (M : Int) = X ∧ 0 = E := by have := hX.out; rw [who_fit h hp hv2 (by show (-32768 : Int) ≤ _; omega) (by show _ ≤ (32767 : Int); omega)] at this; simpa using this
          have cw := hid (fun w1 => worthU_calls D hPl.dig hDs M hM (by show M < 18446744073709551616; omega) w1)
          have hpos : wrap64 (M : Int) = X := by rw [← hXv, wrap64]; omega
          clear h hX hp hv hv2 hPl hM hR h2 hDs hs hXv
          go_enter Tryz.func7, Tryz.ntmps7
          go_wp2_with fail
          refine Calls.mono (c0.out _) ?_
          rintro e w1 ⟨rfl, hb1⟩
          clear c0
          go_wp2_with fail
          refine Calls.mono (cf.out _ (hP'.out.kept hb1)) ?_
          rintro e w2 ⟨rfl, hb⟩
          have hb2 := hid (hb1.trans (hb.mono hb1.size))
          clear cf hb hb1
          go_wp2_with fail
          refine Calls.mono (cA.out _) ?_
          rintro e w3 ⟨rfl, hw⟩
          rw [hw]
          clear hw w3 cA
          go_wp2_with fail
          refine Calls.mono (cw.out _) ?_
          rintro e w3 ⟨rfl, hw⟩
          rw [hw]
          clear hw w3 cw
          go_wp2
          refine bodyPost_ret (results_tmp2 rfl _ _ _) rfl ?_
          exact ⟨by rw [← hpos]; rfl, hb2.out⟩
set_option maxRecDepth 10000 in
set_option maxHeartbeats 4000000 in
theorem refInt32 (s : ByteArray) (hs : s.size ≤ 281474976710656) (X : Int) (E : Nat) (hX : Hid (wholeS IntKind.i32.min IntKind.i32.max s = (X, E))) (w : World) (hP : PowW w) :
    Calls Tryz.prog 7 #[.string s, .int .i64 32] w fun e w' => e = .returned (.tuple #[.int .i64 X, .int .i64 (E : Int)]) ∧ Below w.heap.size w w' := by
  by_cases h : (ofS s).2 = 110
  · have c0 := hid (fun w1 => plain_calls s hs ⟨#[]⟩ false 110 (pl_num h) w1)
    obtain ⟨rfl, rfl⟩ : 0 = X ∧ 110 = E := by have := hX.out; rw [who_num h] at this; simpa using this
    clear h hX
    go_enter Tryz.func7, Tryz.ntmps7
    go_wp2_with fail
    refine Calls.mono (c0.out _) ?_
    rintro e w1 ⟨rfl, hb⟩
    clear c0
    go_wp2
    refine bodyPost_ret (results_tmp2 rfl _ _ _) rfl ?_
    exact ⟨rfl, hb⟩
  · cases hp : hasP s with
    | true =>
      have c0 := hid (fun w1 => plain_calls s hs ⟨#[]⟩ false 120 (pl_frac h hp) w1)
      obtain ⟨rfl, rfl⟩ : 0 = X ∧ 120 = E := by have := hX.out; rw [who_frac h hp] at this; simpa using this
      clear h hX hp
      go_enter Tryz.func7, Tryz.ntmps7
      go_wp2_with fail
      refine Calls.mono (c0.out _) ?_
      rintro e w1 ⟨rfl, hb⟩
      clear c0
      go_wp2
      refine bodyPost_ret (results_tmp2 rfl _ _ _) rfl ?_
      exact ⟨rfl, hb⟩
    | false =>
      have hPl := plain_of h hp
      generalize scNeg s 0 = B at hPl
      generalize s.extract (scA s 0) s.size = D at hPl
      have c0 := hid (fun w1 => plain_calls s hs D B 0 (pl_plain h hp hPl) w1)
      obtain ⟨M, hM⟩ : ∃ M, pwN D.data.toList = M := ⟨_, rfl⟩
      have hv : valS s = if B then -(M : Int) else (M : Int) := by rw [hPl.val_eq, hM]
      have hDs : D.size ≤ 281474976710656 := Nat.le_trans (plain_size hPl) hs
      have hP' := hid hP
      clear hP
      cases B with
      | true =>
        have hv2 : valS s = -(M : Int) := hv
        have cf := hid (fun w1 h1 => fmtU_calls 2147483648 (by decide) w1 h1)
        obtain ⟨R, hR⟩ : ∃ R, abvS D ⟨(Lib.decDigits 2147483648).toArray⟩ = R := ⟨_, rfl⟩
        have cA := hid (fun w1 => above_calls D _ R hR w1)
        rw [abv_pw hPl.dig hPl.lead hPl.pos, hM] at hR
        generalize (⟨(Lib.decDigits 2147483648).toArray⟩ : ByteArray) = TF at cf cA
        cases R with
        | true =>
          have h2 : 2147483648 < M := by simpa using hR
          obtain ⟨rfl, rfl⟩ : 0 = X ∧ 121 = E := by have := hX.out; rw [who_off h hp hv2 (by show ¬ ((-2147483648 : Int) ≤ _ ∧ _ ≤ (2147483647 : Int)); omega)] at this; simpa using this
          clear h hX hp hv hv2 hPl hM hR h2 hDs hs
          go_enter Tryz.func7, Tryz.ntmps7
          go_wp2_with fail
          refine Calls.mono (c0.out _) ?_
          rintro e w1 ⟨rfl, hb1⟩
          clear c0
          go_wp2_with fail
          refine Calls.mono (cf.out _ (hP'.out.kept hb1)) ?_
          rintro e w2 ⟨rfl, hb⟩
          have hb2 := hid (hb1.trans (hb.mono hb1.size))
          clear cf hb hb1
          go_wp2_with fail
          refine Calls.mono (cA.out _) ?_
          rintro e w3 ⟨rfl, hw⟩
          rw [hw]
          clear hw w3 cA
          go_wp2
          refine bodyPost_ret (results_tmp2 rfl _ _ _) rfl ?_
          exact ⟨rfl, hb2.out⟩
        | false =>
          have h2 : M ≤ 2147483648 := by simpa using hR
          obtain ⟨hXv, rfl⟩ : -(M : Int) = X ∧ 0 = E := by have := hX.out; rw [who_fit h hp hv2 (by show (-2147483648 : Int) ≤ _; omega) (by show _ ≤ (2147483647 : Int); omega)] at this; simpa using this
          have cw := hid (fun w1 => worthU_calls D hPl.dig hDs M hM (by show M < 18446744073709551616; omega) w1)
          have hneg : wrap64 (-(wrap64 (M : Int))) = X := by rw [← hXv, wrap64, wrap64]; omega
          clear h hX hp hv hv2 hPl hM hR h2 hDs hs hXv
          go_enter Tryz.func7, Tryz.ntmps7
          go_wp2_with fail
          refine Calls.mono (c0.out _) ?_
          rintro e w1 ⟨rfl, hb1⟩
          clear c0
          go_wp2_with fail
          refine Calls.mono (cf.out _ (hP'.out.kept hb1)) ?_
          rintro e w2 ⟨rfl, hb⟩
          have hb2 := hid (hb1.trans (hb.mono hb1.size))
          clear cf hb hb1
          go_wp2_with fail
          refine Calls.mono (cA.out _) ?_
          rintro e w3 ⟨rfl, hw⟩
          rw [hw]
          clear hw w3 cA
          go_wp2_with fail
          refine Calls.mono (cw.out _) ?_
          rintro e w3 ⟨rfl, hw⟩
          rw [hw]
          clear hw w3 cw
          go_wp2
          refine bodyPost_ret (results_tmp2 rfl _ _ _) rfl ?_
          exact ⟨by rw [← hneg]; rfl, hb2.out⟩
      | false =>
        have hv2 : valS s = (M : Int) := hv
        have cf := hid (fun w1 h1 => fmtU_calls 2147483647 (by decide) w1 h1)
        obtain ⟨R, hR⟩ : ∃ R, abvS D ⟨(Lib.decDigits 2147483647).toArray⟩ = R := ⟨_, rfl⟩
        have cA := hid (fun w1 => above_calls D _ R hR w1)
        rw [abv_pw hPl.dig hPl.lead hPl.pos, hM] at hR
        generalize (⟨(Lib.decDigits 2147483647).toArray⟩ : ByteArray) = TF at cf cA
        cases R with
        | true =>
          have h2 : 2147483647 < M := by simpa using hR
          obtain ⟨rfl, rfl⟩ : 0 = X ∧ 121 = E := by have := hX.out; rw [who_off h hp hv2 (by show ¬ ((-2147483648 : Int) ≤ _ ∧ _ ≤ (2147483647 : Int)); omega)] at this; simpa using this
          clear h hX hp hv hv2 hPl hM hR h2 hDs hs
          go_enter Tryz.func7, Tryz.ntmps7
          go_wp2_with fail
          refine Calls.mono (c0.out _) ?_
          rintro e w1 ⟨rfl, hb1⟩
          clear c0
          go_wp2_with fail
          refine Calls.mono (cf.out _ (hP'.out.kept hb1)) ?_
          rintro e w2 ⟨rfl, hb⟩
          have hb2 := hid (hb1.trans (hb.mono hb1.size))
          clear cf hb hb1
          go_wp2_with fail
          refine Calls.mono (cA.out _) ?_
          rintro e w3 ⟨rfl, hw⟩
          rw [hw]
          clear hw w3 cA
          go_wp2
          refine bodyPost_ret (results_tmp2 rfl _ _ _) rfl ?_
          exact ⟨rfl, hb2.out⟩
        | false =>
          have h2 : M ≤ 2147483647 := by simpa using hR
          obtain ⟨hXv, rfl⟩ : (M : Int) = X ∧ 0 = E := by have := hX.out; rw [who_fit h hp hv2 (by show (-2147483648 : Int) ≤ _; omega) (by show _ ≤ (2147483647 : Int); omega)] at this; simpa using this
          have cw := hid (fun w1 => worthU_calls D hPl.dig hDs M hM (by show M < 18446744073709551616; omega) w1)
          have hpos : wrap64 (M : Int) = X := by rw [← hXv, wrap64]; omega
          clear h hX hp hv hv2 hPl hM hR h2 hDs hs hXv
          go_enter Tryz.func7, Tryz.ntmps7
          go_wp2_with fail
          refine Calls.mono (c0.out _) ?_
          rintro e w1 ⟨rfl, hb1⟩
          clear c0
          go_wp2_with fail
          refine Calls.mono (cf.out _ (hP'.out.kept hb1)) ?_
          rintro e w2 ⟨rfl, hb⟩
          have hb2 := hid (hb1.trans (hb.mono hb1.size))
          clear cf hb hb1
          go_wp2_with fail
          refine Calls.mono (cA.out _) ?_
          rintro e w3 ⟨rfl, hw⟩
          rw [hw]
          clear hw w3 cA
          go_wp2_with fail
          refine Calls.mono (cw.out _) ?_
          rintro e w3 ⟨rfl, hw⟩
          rw [hw]
          clear hw w3 cw
          go_wp2
          refine bodyPost_ret (results_tmp2 rfl _ _ _) rfl ?_
          exact ⟨by rw [← hpos]; rfl, hb2.out⟩
set_option maxRecDepth 10000 in
set_option maxHeartbeats 4000000 in
theorem refInt64 (s : ByteArray) (hs : s.size ≤ 281474976710656) (X : Int) (E : Nat) (hX : Hid (wholeS IntKind.i64.min IntKind.i64.max s = (X, E))) (w : World) (hP : PowW w) :
    Calls Tryz.prog 7 #[.string s, .int .i64 64] w fun e w' => e = .returned (.tuple #[.int .i64 X, .int .i64 (E : Int)]) ∧ Below w.heap.size w w' := by
  by_cases h : (ofS s).2 = 110
  · have c0 := hid (fun w1 => plain_calls s hs ⟨#[]⟩ false 110 (pl_num h) w1)
    obtain ⟨rfl, rfl⟩ : 0 = X ∧ 110 = E := by have := hX.out; rw [who_num h] at this; simpa using this
    clear h hX
    go_enter Tryz.func7, Tryz.ntmps7
    go_wp2_with fail
    refine Calls.mono (c0.out _) ?_
    rintro e w1 ⟨rfl, hb⟩
    clear c0
    go_wp2
    refine bodyPost_ret (results_tmp2 rfl _ _ _) rfl ?_
    exact ⟨rfl, hb⟩
  · cases hp : hasP s with
    | true =>
      have c0 := hid (fun w1 => plain_calls s hs ⟨#[]⟩ false 120 (pl_frac h hp) w1)
      obtain ⟨rfl, rfl⟩ : 0 = X ∧ 120 = E := by have := hX.out; rw [who_frac h hp] at this; simpa using this
      clear h hX hp
      go_enter Tryz.func7, Tryz.ntmps7
      go_wp2_with fail
      refine Calls.mono (c0.out _) ?_
      rintro e w1 ⟨rfl, hb⟩
      clear c0
      go_wp2
      refine bodyPost_ret (results_tmp2 rfl _ _ _) rfl ?_
      exact ⟨rfl, hb⟩
    | false =>
      have hPl := plain_of h hp
      generalize scNeg s 0 = B at hPl
      generalize s.extract (scA s 0) s.size = D at hPl
      have c0 := hid (fun w1 => plain_calls s hs D B 0 (pl_plain h hp hPl) w1)
      obtain ⟨M, hM⟩ : ∃ M, pwN D.data.toList = M := ⟨_, rfl⟩
      have hv : valS s = if B then -(M : Int) else (M : Int) := by rw [hPl.val_eq, hM]
      have hDs : D.size ≤ 281474976710656 := Nat.le_trans (plain_size hPl) hs
      have hP' := hid hP
      clear hP
      cases B with
      | true =>
        have hv2 : valS s = -(M : Int) := hv
        have cf := hid (fun w1 h1 => fmtU_calls 9223372036854775808 (by decide) w1 h1)
        obtain ⟨R, hR⟩ : ∃ R, abvS D ⟨(Lib.decDigits 9223372036854775808).toArray⟩ = R := ⟨_, rfl⟩
        have cA := hid (fun w1 => above_calls D _ R hR w1)
        rw [abv_pw hPl.dig hPl.lead hPl.pos, hM] at hR
        generalize (⟨(Lib.decDigits 9223372036854775808).toArray⟩ : ByteArray) = TF at cf cA
        cases R with
        | true =>
          have h2 : 9223372036854775808 < M := by simpa using hR
          obtain ⟨rfl, rfl⟩ : 0 = X ∧ 121 = E := by have := hX.out; rw [who_off h hp hv2 (by show ¬ ((-9223372036854775808 : Int) ≤ _ ∧ _ ≤ (9223372036854775807 : Int)); omega)] at this; simpa using this
          clear h hX hp hv hv2 hPl hM hR h2 hDs hs
          go_enter Tryz.func7, Tryz.ntmps7
          go_wp2_with fail
          refine Calls.mono (c0.out _) ?_
          rintro e w1 ⟨rfl, hb1⟩
          clear c0
          go_wp2_with fail
          refine Calls.mono (cf.out _ (hP'.out.kept hb1)) ?_
          rintro e w2 ⟨rfl, hb⟩
          have hb2 := hid (hb1.trans (hb.mono hb1.size))
          clear cf hb hb1
          go_wp2_with fail
          refine Calls.mono (cA.out _) ?_
          rintro e w3 ⟨rfl, hw⟩
          rw [hw]
          clear hw w3 cA
          go_wp2
          refine bodyPost_ret (results_tmp2 rfl _ _ _) rfl ?_
          exact ⟨rfl, hb2.out⟩
        | false =>
          have h2 : M ≤ 9223372036854775808 := by simpa using hR
          obtain ⟨hXv, rfl⟩ : -(M : Int) = X ∧ 0 = E := by have := hX.out; rw [who_fit h hp hv2 (by show (-9223372036854775808 : Int) ≤ _; omega) (by show _ ≤ (9223372036854775807 : Int); omega)] at this; simpa using this
          have cw := hid (fun w1 => worthU_calls D hPl.dig hDs M hM (by show M < 18446744073709551616; omega) w1)
          have hneg : wrap64 (-(wrap64 (M : Int))) = X := by rw [← hXv, wrap64, wrap64]; omega
          clear h hX hp hv hv2 hPl hM hR h2 hDs hs hXv
          go_enter Tryz.func7, Tryz.ntmps7
          go_wp2_with fail
          refine Calls.mono (c0.out _) ?_
          rintro e w1 ⟨rfl, hb1⟩
          clear c0
          go_wp2_with fail
          refine Calls.mono (cf.out _ (hP'.out.kept hb1)) ?_
          rintro e w2 ⟨rfl, hb⟩
          have hb2 := hid (hb1.trans (hb.mono hb1.size))
          clear cf hb hb1
          go_wp2_with fail
          refine Calls.mono (cA.out _) ?_
          rintro e w3 ⟨rfl, hw⟩
          rw [hw]
          clear hw w3 cA
          go_wp2_with fail
          refine Calls.mono (cw.out _) ?_
          rintro e w3 ⟨rfl, hw⟩
          rw [hw]
          clear hw w3 cw
          go_wp2
          refine bodyPost_ret (results_tmp2 rfl _ _ _) rfl ?_
          exact ⟨by rw [← hneg]; rfl, hb2.out⟩
      | false =>
        have hv2 : valS s = (M : Int) := hv
        have cf := hid (fun w1 h1 => fmtU_calls 9223372036854775807 (by decide) w1 h1)
        obtain ⟨R, hR⟩ : ∃ R, abvS D ⟨(Lib.decDigits 9223372036854775807).toArray⟩ = R := ⟨_, rfl⟩
        have cA := hid (fun w1 => above_calls D _ R hR w1)
        rw [abv_pw hPl.dig hPl.lead hPl.pos, hM] at hR
        generalize (⟨(Lib.decDigits 9223372036854775807).toArray⟩ : ByteArray) = TF at cf cA
        cases R with
        | true =>
          have h2 : 9223372036854775807 < M := by simpa using hR
          obtain ⟨rfl, rfl⟩ : 0 = X ∧ 121 = E := by have := hX.out; rw [who_off h hp hv2 (by show ¬ ((-9223372036854775808 : Int) ≤ _ ∧ _ ≤ (9223372036854775807 : Int)); omega)] at this; simpa using this
          clear h hX hp hv hv2 hPl hM hR h2 hDs hs
          go_enter Tryz.func7, Tryz.ntmps7
          go_wp2_with fail
          refine Calls.mono (c0.out _) ?_
          rintro e w1 ⟨rfl, hb1⟩
          clear c0
          go_wp2_with fail
          refine Calls.mono (cf.out _ (hP'.out.kept hb1)) ?_
          rintro e w2 ⟨rfl, hb⟩
          have hb2 := hid (hb1.trans (hb.mono hb1.size))
          clear cf hb hb1
          go_wp2_with fail
          refine Calls.mono (cA.out _) ?_
          rintro e w3 ⟨rfl, hw⟩
          rw [hw]
          clear hw w3 cA
          go_wp2
          refine bodyPost_ret (results_tmp2 rfl _ _ _) rfl ?_
          exact ⟨rfl, hb2.out⟩
        | false =>
          have h2 : M ≤ 9223372036854775807 := by simpa using hR
          obtain ⟨hXv, rfl⟩ : (M : Int) = X ∧ 0 = E := by have := hX.out; rw [who_fit h hp hv2 (by show (-9223372036854775808 : Int) ≤ _; omega) (by show _ ≤ (9223372036854775807 : Int); omega)] at this; simpa using this
          have cw := hid (fun w1 => worthU_calls D hPl.dig hDs M hM (by show M < 18446744073709551616; omega) w1)
          have hpos : wrap64 (M : Int) = X := by rw [← hXv, wrap64]; omega
          clear h hX hp hv hv2 hPl hM hR h2 hDs hs hXv
          go_enter Tryz.func7, Tryz.ntmps7
          go_wp2_with fail
          refine Calls.mono (c0.out _) ?_
          rintro e w1 ⟨rfl, hb1⟩
          clear c0
          go_wp2_with fail
          refine Calls.mono (cf.out _ (hP'.out.kept hb1)) ?_
          rintro e w2 ⟨rfl, hb⟩
          have hb2 := hid (hb1.trans (hb.mono hb1.size))
          clear cf hb hb1
          go_wp2_with fail
          refine Calls.mono (cA.out _) ?_
          rintro e w3 ⟨rfl, hw⟩
          rw [hw]
          clear hw w3 cA
          go_wp2_with fail
          refine Calls.mono (cw.out _) ?_
          rintro e w3 ⟨rfl, hw⟩
          rw [hw]
          clear hw w3 cw
          go_wp2
          refine bodyPost_ret (results_tmp2 rfl _ _ _) rfl ?_
          exact ⟨by rw [← hpos]; rfl, hb2.out⟩
end Go.Proofs.YtheeonlfbnkhgaaGreatDoor
