/-
  What the reference's Uint answers, width by width (by gen_refint.py).
-/
import Derived.Test.YtheeonlfbnkhgaaGreatDoorWhlRef
import Derived.Test.YtheeonlfbnkhgaaGreatDoorWhlTx
namespace Go.Proofs.YtheeonlfbnkhgaaGreatDoor
open Go.RowKit Go.Shelf

theorem pl_numU {s : ByteArray} (h : (ofS s).2 = 110) : plT s = (⟨#[]⟩, false, 110) := by rw [plT, if_pos h]
theorem pl_fracU {s : ByteArray} (h : (ofS s).2 ≠ 110) (hp : hasP s = true) : plT s = (⟨#[]⟩, false, 120) := by rw [plT, if_neg h, if_pos hp]
theorem pl_plainU {s : ByteArray} (h : (ofS s).2 ≠ 110) (hp : hasP s = false) {B : Bool} {D : ByteArray} (hP : PlainN s B D) : plT s = (D, B, 0) := by rw [plT, if_neg h, if_neg (by rw [hp]; decide), hP.dig_eq, ← hP.lk0]
theorem dig_zero {D : ByteArray} (hd : AllD D) (hl : lk D 0 = 48 → D.size = 1) (h0 : 0 < D.size) : pwN D.data.toList = 0 ↔ D.toList = [48] := by
  have hD := allD_list hd
  have hlen : D.data.toList.length = D.size := size_list D
  rw [Lib.toList_data]
  constructor
  · intro h
    by_cases h1 : lk D 0 = 48
    · have h2 := hl h1
      cases hc : D.data.toList with
      | nil => rw [hc] at hlen; simp at hlen; omega
      | cons b l =>
        have h3 : l = [] := by
          apply List.eq_nil_of_length_eq_zero
          rw [hc, List.length_cons] at hlen
          omega
        have h4 := (lk_get (t := D) (j := 0) (b := b) (by rw [hc]; rfl)).1
        rw [h1] at h4
        rw [h3, byte_eq h4.symm]
    · exfalso
      have h5 := pw_ge hD (fun e => by rw [e] at hlen; simp at hlen; omega) (fun b hb e => by
        have := (lk_get (t := D) (j := 0) hb).1
        rw [e] at this
        exact h1 this)
      have := Nat.pow_pos (n := D.data.toList.length - 1) (show 0 < 10 by decide)
      omega
  · intro h
    rw [h]
    rfl
set_option maxRecDepth 10000 in
set_option maxHeartbeats 4000000 in
theorem refUint8 (s : ByteArray) (hs : s.size ≤ 281474976710656) (X : Int) (E : Nat) (hX : Hid (wholeS IntKind.u8.min IntKind.u8.max s = (X, E))) (w : World) (hP : PowW w) :
    Calls Tryz.prog 17 #[.string s, .int .i64 8] w fun e w' => e = .returned (.tuple #[.int .u64 X, .int .i64 (E : Int)]) ∧ Below w.heap.size w w' := by
  by_cases h : (ofS s).2 = 110
  · have c0 := hid (fun w1 => plain_calls s hs ⟨#[]⟩ false 110 (pl_numU h) w1)
    obtain ⟨rfl, rfl⟩ : 0 = X ∧ 110 = E := by have := hX.out; rw [who_num h] at this; simpa using this
    clear h hX
    go_enter Tryz.func17, Tryz.ntmps17
    go_wp2_with fail
    refine Calls.mono (c0.out _) ?_
    rintro e w1 ⟨rfl, hb⟩
    clear c0
    go_wp2
    refine bodyPost_ret (results_tmp2 rfl _ _ _) rfl ?_
    exact ⟨rfl, hb⟩
  · cases hp : hasP s with
    | true =>
      have c0 := hid (fun w1 => plain_calls s hs ⟨#[]⟩ false 120 (pl_fracU h hp) w1)
      obtain ⟨rfl, rfl⟩ : 0 = X ∧ 120 = E := by have := hX.out; rw [who_frac h hp] at this; simpa using this
      clear h hX hp
      go_enter Tryz.func17, Tryz.ntmps17
      go_wp2_with fail
      refine Calls.mono (c0.out _) ?_
      rintro e w1 ⟨rfl, hb⟩
      clear c0
      go_wp2
      refine bodyPost_ret (results_tmp2 rfl _ _ _) rfl ?_
      exact ⟨rfl, hb⟩
    | false =>
      have hPl := plain_of h hp
      generalize scNeg s 0 = B at hPl
      generalize s.extract (scA s 0) s.size = D at hPl
      have c0 := hid (fun w1 => plain_calls s hs D B 0 (pl_plainU h hp hPl) w1)
      obtain ⟨M, hM⟩ : ∃ M, pwN D.data.toList = M := ⟨_, rfl⟩
      have hv : valS s = if B then -(M : Int) else (M : Int) := by rw [hPl.val_eq, hM]
      have hDs : D.size ≤ 281474976710656 := Nat.le_trans (plain_size hPl) hs
      have hz := dig_zero hPl.dig hPl.lead hPl.pos
      rw [hM] at hz
      have hP' := hid hP
      clear hP
      have cf := hid (fun w1 h1 => fmtU_calls 255 (by decide) w1 h1)
      obtain ⟨R, hR⟩ : ∃ R, abvS D ⟨(Lib.decDigits 255).toArray⟩ = R := ⟨_, rfl⟩
      have cA := hid (fun w1 => above_calls D _ R hR w1)
      rw [abv_pw hPl.dig hPl.lead hPl.pos, hM] at hR
      generalize (⟨(Lib.decDigits 255).toArray⟩ : ByteArray) = TF at cf cA
      cases B with
      | true =>
        have hv2 : valS s = -(M : Int) := hv
        by_cases h2 : M = 0
        · have hq : (D.toList == [48]) = true := by simpa using hz.1 h2
          obtain rfl : false = R := by rw [← hR, h2]; rfl
          obtain ⟨rfl, rfl⟩ : 0 = X ∧ 0 = E := by have := hX.out; rw [who_fit h hp hv2 (by show (0 : Int) ≤ _; omega) (by show _ ≤ (255 : Int); omega)] at this; rw [h2] at this; simpa using this
          have cw := hid (fun w1 => worthU_calls D hPl.dig hDs 0 (by show _ = _; rw [hM, h2]) (by show 0 < 18446744073709551616; decide) w1)
          clear h hX hp hv hv2 hPl hM hR h2 hDs hs hz
          go_enter Tryz.func17, Tryz.ntmps17
          go_wp2_with fail
          refine Calls.mono (c0.out _) ?_
          rintro e w1 ⟨rfl, hb1⟩
          clear c0
          go_wp2_with fail
          refine Calls.mono (cf.out _ (hP'.out.kept hb1)) ?_
          rintro e w2 ⟨rfl, hb⟩
          have hb2 := hid (hb1.trans (hb.mono hb1.size))
          clear cf hb hb1
          go_wp2_with fail
          refine Calls.mono (cA.out _) ?_
          rintro e w3 ⟨rfl, hw⟩
          rw [hw]
          clear hw w3 cA
          go_wp2_with fail
          refine Calls.mono (cw.out _) ?_
          rintro e w3 ⟨rfl, hw⟩
          rw [hw]
          clear hw w3 cw
          go_wp2
          refine bodyPost_ret (results_tmp2 rfl _ _ _) rfl ?_
          exact ⟨rfl, hb2.out⟩
        · have hq : (D.toList == [48]) = false := beq_eq_false_iff_ne.2 fun e => h2 (hz.2 e)
          obtain ⟨rfl, rfl⟩ : 0 = X ∧ 121 = E := by have := hX.out; rw [who_off h hp hv2 (by show ¬ ((0 : Int) ≤ _ ∧ _ ≤ (255 : Int)); omega)] at this; simpa using this
          clear h hX hp hv hv2 hPl hM hR h2 hDs hs hz cf cA
          go_enter Tryz.func17, Tryz.ntmps17
          go_wp2_with fail
          refine Calls.mono (c0.out _) ?_
          rintro e w1 ⟨rfl, hb1⟩
          clear c0
          go_wp2
          refine bodyPost_ret (results_tmp2 rfl _ _ _) rfl ?_
          exact ⟨rfl, hb1⟩
      | false =>
        have hv2 : valS s = (M : Int) := hv
        cases R with
        | true =>
          have h2 : 255 < M := by simpa using hR
          obtain ⟨rfl, rfl⟩ : 0 = X ∧ 121 = E := by have := hX.out; rw [who_off h hp hv2 (by show ¬ ((0 : Int) ≤ _ ∧ _ ≤ (255 : Int)); omega)] at this; simpa using this
          clear h hX hp hv hv2 hPl hM hR h2 hDs hs hz
          go_enter Tryz.func17, Tryz.ntmps17
          go_wp2_with fail
          refine Calls.mono (c0.out _) ?_
          rintro e w1 ⟨rfl, hb1⟩
          clear c0
          go_wp2_with fail
          refine Calls.mono (cf.out _ (hP'.out.kept hb1)) ?_
          rintro e w2 ⟨rfl, hb⟩
          have hb2 := hid (hb1.trans (hb.mono hb1.size))
          clear cf hb hb1
          go_wp2_with fail
          refine Calls.mono (cA.out _) ?_
          rintro e w3 ⟨rfl, hw⟩
          rw [hw]
          clear hw w3 cA
          go_wp2
          refine bodyPost_ret (results_tmp2 rfl _ _ _) rfl ?_
          exact ⟨rfl, hb2.out⟩
        | false =>
          have h2 : M ≤ 255 := by simpa using hR
          obtain ⟨rfl, rfl⟩ : (M : Int) = X ∧ 0 = E := by have := hX.out; rw [who_fit h hp hv2 (by show (0 : Int) ≤ _; omega) (by show _ ≤ (255 : Int); omega)] at this; simpa using this
          have cw := hid (fun w1 => worthU_calls D hPl.dig hDs M hM (by show M < 18446744073709551616; omega) w1)
          clear h hX hp hv hv2 hPl hM hR h2 hDs hs hz
          go_enter Tryz.func17, Tryz.ntmps17
          go_wp2_with fail
          refine Calls.mono (c0.out _) ?_
          rintro e w1 ⟨rfl, hb1⟩
          clear c0
          go_wp2_with fail
          refine Calls.mono (cf.out _ (hP'.out.kept hb1)) ?_
          rintro e w2 ⟨rfl, hb⟩
          have hb2 := hid (hb1.trans (hb.mono hb1.size))
          clear cf hb hb1
          go_wp2_with fail
          refine Calls.mono (cA.out _) ?_
          rintro e w3 ⟨rfl, hw⟩
          rw [hw]
          clear hw w3 cA
          go_wp2_with fail
          refine Calls.mono (cw.out _) ?_
          rintro e w3 ⟨rfl, hw⟩
          rw [hw]
          clear hw w3 cw
          go_wp2
          refine bodyPost_ret (results_tmp2 rfl _ _ _) rfl ?_
          exact ⟨rfl, hb2.out⟩
set_option maxRecDepth 10000 in
set_option maxHeartbeats 4000000 in
theorem refUint16 (s : ByteArray) (hs : s.size ≤ 281474976710656) (X : Int) (E : Nat) (hX : Hid (wholeS IntKind.u16.min IntKind.u16.max s = (X, E))) (w : World) (hP : PowW w) :
    Calls Tryz.prog 17 #[.string s, .int .i64 16] w fun e w' => e = .returned (.tuple #[.int .u64 X, .int .i64 (E : Int)]) ∧ Below w.heap.size w w' := by
  by_cases h : (ofS s).2 = 110
  · have c0 := hid (fun w1 => plain_calls s hs ⟨#[]⟩ false 110 (pl_numU h) w1)
    obtain ⟨rfl, rfl⟩ : 0 = X ∧ 110 = E := by have := hX.out; rw [who_num h] at this; simpa using this
    clear h hX
    go_enter Tryz.func17, Tryz.ntmps17
    go_wp2_with fail
    refine Calls.mono (c0.out _) ?_
    rintro e w1 ⟨rfl, hb⟩
    clear c0
    go_wp2
    refine bodyPost_ret (results_tmp2 rfl _ _ _) rfl ?_
    exact ⟨rfl, hb⟩
  · cases hp : hasP s with
    | true =>
      have c0 := hid (fun w1 => plain_calls s hs ⟨#[]⟩ false 120 (pl_fracU h hp) w1)
      obtain ⟨rfl, rfl⟩ : 0 = X ∧ 120 = E := by have := hX.out; rw [who_frac h hp] at this; simpa using this
      clear h hX hp
      go_enter Tryz.func17, Tryz.ntmps17
      go_wp2_with fail
      refine Calls.mono (c0.out _) ?_
      rintro e w1 ⟨rfl, hb⟩
      clear c0
      go_wp2
      refine bodyPost_ret (results_tmp2 rfl _ _ _) rfl ?_
      exact ⟨rfl, hb⟩
    | false =>
      have hPl := plain_of h hp
      generalize scNeg s 0 = B at hPl
      generalize s.extract (scA s 0) s.size = D at hPl
      have c0 := hid (fun w1 => plain_calls s hs D B 0 (pl_plainU h hp hPl) w1)
      obtain ⟨M, hM⟩ : ∃ M, pwN D.data.toList = M := ⟨_, rfl⟩
      have hv : valS s = if B then -(M : Int) else (M : Int) := by rw [hPl.val_eq, hM]
      have hDs : D.size ≤ 281474976710656 := Nat.le_trans (plain_size hPl) hs
      have hz := dig_zero hPl.dig hPl.lead hPl.pos
      rw [hM] at hz
      have hP' := hid hP
      clear hP
      have cf := hid (fun w1 h1 => fmtU_calls 65535 (by decide) w1 h1)
      obtain ⟨R, hR⟩ : ∃ R, abvS D ⟨(Lib.decDigits 65535).toArray⟩ = R := ⟨_, rfl⟩
      have cA := hid (fun w1 => above_calls D _ R hR w1)
      rw [abv_pw hPl.dig hPl.lead hPl.pos, hM] at hR
      generalize (⟨(Lib.decDigits 65535).toArray⟩ : ByteArray) = TF at cf cA
      cases B with
      | true =>
        have hv2 : valS s = -(M : Int) := hv
        by_cases h2 : M = 0
        · have hq : (D.toList == [48]) = true := by simpa using hz.1 h2
          obtain rfl : false = R := by rw [← hR, h2]; rfl
          obtain ⟨rfl, rfl⟩ : 0 = X ∧ 0 = E := by have := hX.out; rw [who_fit h hp hv2 (by show (0 : Int) ≤ _; omega) (by show _ ≤ (65535 : Int); omega)] at this; rw [h2] at this; simpa using this
          have cw := hid (fun w1 => worthU_calls D hPl.dig hDs 0 (by show _ = _; rw [hM, h2]) (by show 0 < 18446744073709551616; decide) w1)
          clear h hX hp hv hv2 hPl hM hR h2 hDs hs hz
          go_enter Tryz.func17, Tryz.ntmps17
          go_wp2_with fail
          refine Calls.mono (c0.out _) ?_
          rintro e w1 ⟨rfl, hb1⟩
          clear c0
          go_wp2_with fail
          refine Calls.mono (cf.out _ (hP'.out.kept hb1)) ?_
          rintro e w2 ⟨rfl, hb⟩
          have hb2 := hid (hb1.trans (hb.mono hb1.size))
          clear cf hb hb1
          go_wp2_with fail
          refine Calls.mono (cA.out _) ?_
          rintro e w3 ⟨rfl, hw⟩
          rw [hw]
          clear hw w3 cA
          go_wp2_with fail
          refine Calls.mono (cw.out _) ?_
          rintro e w3 ⟨rfl, hw⟩
          rw [hw]
          clear hw w3 cw
          go_wp2
          refine bodyPost_ret (results_tmp2 rfl _ _ _) rfl ?_
          exact ⟨rfl, hb2.out⟩
        · have hq : (D.toList == [48]) = false := beq_eq_false_iff_ne.2 fun e => h2 (hz.2 e)
          obtain ⟨rfl, rfl⟩ : 0 = X ∧ 121 = E := by have := hX.out; rw [who_off h hp hv2 (by show ¬ ((0 : Int) ≤ _ ∧ _ ≤ (65535 : Int)); omega)] at this; simpa using this
          clear h hX hp hv hv2 hPl hM hR h2 hDs hs hz cf cA
          go_enter Tryz.func17, Tryz.ntmps17
          go_wp2_with fail
          refine Calls.mono (c0.out _) ?_
          rintro e w1 ⟨rfl, hb1⟩
          clear c0
          go_wp2
          refine bodyPost_ret (results_tmp2 rfl _ _ _) rfl ?_
          exact ⟨rfl, hb1⟩
      | false =>
        have hv2 : valS s = (M : Int) := hv
        cases R with
        | true =>
          have h2 : 65535 < M := by simpa using hR
          obtain ⟨rfl, rfl⟩ : 0 = X ∧ 121 = E := by have := hX.out; rw [who_off h hp hv2 (by show ¬ ((0 : Int) ≤ _ ∧ _ ≤ (65535 : Int)); omega)] at this; simpa using this
          clear h hX hp hv hv2 hPl hM hR h2 hDs hs hz
          go_enter Tryz.func17, Tryz.ntmps17
          go_wp2_with fail
          refine Calls.mono (c0.out _) ?_
          rintro e w1 ⟨rfl, hb1⟩
          clear c0
          go_wp2_with fail
          refine Calls.mono (cf.out _ (hP'.out.kept hb1)) ?_
          rintro e w2 ⟨rfl, hb⟩
          have hb2 := hid (hb1.trans (hb.mono hb1.size))
          clear cf hb hb1
          go_wp2_with fail
          refine Calls.mono (cA.out _) ?_
          rintro e w3 ⟨rfl, hw⟩
          rw [hw]
          clear hw w3 cA
          go_wp2
          refine bodyPost_ret (results_tmp2 rfl _ _ _) rfl ?_
          exact ⟨rfl, hb2.out⟩
        | false =>
          have h2 : M ≤ 65535 := by simpa using hR
          obtain ⟨rfl, rfl⟩ : (M : Int) = X ∧ 0 = E := by have := hX.out; rw [who_fit h hp hv2 (by show (0 : Int) ≤ _; omega) (by show _ ≤ (65535 : Int); omega)] at this; simpa using this
          have cw := hid (fun w1 => worthU_calls D hPl.dig hDs M hM (by show M < 18446744073709551616; omega) w1)
          clear h hX hp hv hv2 hPl hM hR h2 hDs hs hz
          go_enter Tryz.func17, Tryz.ntmps17
          go_wp2_with fail
          refine Calls.mono (c0.out _) ?_
          rintro e w1 ⟨rfl, hb1⟩
          clear c0
          go_wp2_with fail
          refine Calls.mono (cf.out _ (hP'.out.kept hb1)) ?_
          rintro e w2 ⟨rfl, hb⟩
          have hb2 := hid (hb1.trans (hb.mono hb1.size))
          clear cf hb hb1
          go_wp2_with fail
          refine Calls.mono (cA.out _) ?_
          rintro e w3 ⟨rfl, hw⟩
          rw [hw]
          clear hw w3 cA
          go_wp2_with fail
          refine Calls.mono (cw.out _) ?_
          rintro e w3 ⟨rfl, hw⟩
          rw [hw]
          clear hw w3 cw
          go_wp2
          refine bodyPost_ret (results_tmp2 rfl _ _ _) rfl ?_
          exact ⟨rfl, hb2.out⟩
set_option maxRecDepth 10000 in
set_option maxHeartbeats 4000000 in
theorem refUint32 (s : ByteArray) (hs : s.size ≤ 281474976710656) (X : Int) (E : Nat) (hX : Hid (wholeS IntKind.u32.min IntKind.u32.max s = (X, E))) (w : World) (hP : PowW w) :
    Calls Tryz.prog 17 #[.string s, .int .i64 32] w fun e w' => e = .returned (.tuple #[.int .u64 X, .int .i64 (E : Int)]) ∧ Below w.heap.size w w' := by
  by_cases h : (ofS s).2 = 110
  · have c0 := hid (fun w1 => plain_calls s hs ⟨#[]⟩ false 110 (pl_numU h) w1)
    obtain ⟨rfl, rfl⟩ : 0 = X ∧ 110 = E := by have := hX.out; rw [who_num h] at this; simpa using this
    clear h hX
    go_enter Tryz.func17, Tryz.ntmps17
    go_wp2_with fail
    refine Calls.mono (c0.out _) ?_
    rintro e w1 ⟨rfl, hb⟩
    clear c0
    go_wp2
    refine bodyPost_ret (results_tmp2 rfl _ _ _) rfl ?_
    exact ⟨rfl, hb⟩
  · cases hp : hasP s with
    | true =>
      have c0 := hid (fun w1 => plain_calls s hs ⟨#[]⟩ false 120 (pl_fracU h hp) w1)
      obtain ⟨rfl, rfl⟩ : 0 = X ∧ 120 = E := by have := hX.out; rw [who_frac h hp] at this; simpa using this
      clear h hX hp
      go_enter Tryz.func17, Tryz.ntmps17
      go_wp2_with fail
      refine Calls.mono (c0.out _) ?_
      rintro e w1 ⟨rfl, hb⟩
      clear c0
      go_wp2
      refine bodyPost_ret (results_tmp2 rfl _ _ _) rfl ?_
      exact ⟨rfl, hb⟩
    | false =>
      have hPl := plain_of h hp
      generalize scNeg s 0 = B at hPl
      generalize s.extract (scA s 0) s.size = D at hPl
      have c0 := hid (fun w1 => plain_calls s hs D B 0 (pl_plainU h hp hPl) w1)
      obtain ⟨M, hM⟩ : ∃ M, pwN D.data.toList = M := ⟨_, rfl⟩
      have hv : valS s = if B then -(M : Int) else (M : Int) := by rw [hPl.val_eq, hM]
      have hDs : D.size ≤ 281474976710656 := Nat.le_trans (plain_size hPl) hs
      have hz := dig_zero hPl.dig hPl.lead hPl.pos
      rw [hM] at hz
      have hP' := hid hP
      clear hP
      have cf := hid (fun w1 h1 => fmtU_calls 4294967295 (by decide) w1 h1)
      obtain ⟨R, hR⟩ : ∃ R, abvS D ⟨(Lib.decDigits 4294967295).toArray⟩ = R := ⟨_, rfl⟩
      have cA := hid (fun w1 => above_calls D _ R hR w1)
      rw [abv_pw hPl.dig hPl.lead hPl.pos, hM] at hR
      generalize (⟨(Lib.decDigits 4294967295).toArray⟩ : ByteArray) = TF at cf cA
      cases B with
      | true =>
        have hv2 : valS s = -(M : Int) := hv
        by_cases h2 : M = 0
        · have hq : (D.toList == [48]) = true := by simpa using hz.1 h2
          obtain rfl : false = R := by rw [← hR, h2]; rfl
          obtain ⟨rfl, rfl⟩ : 0 = X ∧ 0 = E := by have := hX.out; rw [who_fit h hp hv2 (by show (0 : Int) ≤ _; omega) (by show _ ≤ (4294967295 : Int); omega)] at this; rw [h2] at this; simpa using this
          have cw := hid (fun w1 => worthU_calls D hPl.dig hDs 0 (by show _ = _; rw [hM, h2]) (by show 0 < 18446744073709551616; decide) w1)
          clear h hX hp hv hv2 hPl hM hR h2 hDs hs hz
          go_enter Tryz.func17, Tryz.ntmps17
          go_wp2_with fail
          refine Calls.mono (c0.out _) ?_
          rintro e w1 ⟨rfl, hb1⟩
          clear c0
          go_wp2_with fail
          refine Calls.mono (cf.out _ (hP'.out.kept hb1)) ?_
          rintro e w2 ⟨rfl, hb⟩
          have hb2 := hid (hb1.trans (hb.mono hb1.size))
          clear cf hb hb1
          go_wp2_with fail
          refine Calls.mono (cA.out _) ?_
          rintro e w3 ⟨rfl, hw⟩
          rw [hw]
          clear hw w3 cA
          go_wp2_with fail
          refine Calls.mono (cw.out _) ?_
          rintro e w3 ⟨rfl, hw⟩
          rw [hw]
          clear hw w3 cw
          go_wp2
          refine bodyPost_ret (results_tmp2 rfl _ _ _) rfl ?_
          exact ⟨rfl, hb2.out⟩
        · have hq : (D.toList == [48]) = false := beq_eq_false_iff_ne.2 fun e => h2 (hz.2 e)
          obtain ⟨rfl, rfl⟩ : 0 = X ∧ 121 = E := by have := hX.out; rw [who_off h hp hv2 (by show ¬ ((0 : Int) ≤ _ ∧ _ ≤ (4294967295 : Int)); omega)] at this; simpa using this
          clear h hX hp hv hv2 hPl hM hR h2 hDs hs hz cf cA
          go_enter Tryz.func17, Tryz.ntmps17
          go_wp2_with fail
          refine Calls.mono (c0.out _) ?_
          rintro e w1 ⟨rfl, hb1⟩
          clear c0
          go_wp2
          refine bodyPost_ret (results_tmp2 rfl _ _ _) rfl ?_
          exact ⟨rfl, hb1⟩
      | false =>
        have hv2 : valS s = (M : Int) := hv
        cases R with
        | true =>
          have h2 : 4294967295 < M := by simpa using hR
          obtain ⟨rfl, rfl⟩ : 0 = X ∧ 121 = E := by have := hX.out; rw [who_off h hp hv2 (by show ¬ ((0 : Int) ≤ _ ∧ _ ≤ (4294967295 : Int)); omega)] at this; simpa using this
          clear h hX hp hv hv2 hPl hM hR h2 hDs hs hz
          go_enter Tryz.func17, Tryz.ntmps17
          go_wp2_with fail
          refine Calls.mono (c0.out _) ?_
          rintro e w1 ⟨rfl, hb1⟩
          clear c0
          go_wp2_with fail
          refine Calls.mono (cf.out _ (hP'.out.kept hb1)) ?_
          rintro e w2 ⟨rfl, hb⟩
          have hb2 := hid (hb1.trans (hb.mono hb1.size))
          clear cf hb hb1
          go_wp2_with fail
          refine Calls.mono (cA.out _) ?_
          rintro e w3 ⟨rfl, hw⟩
          rw [hw]
          clear hw w3 cA
          go_wp2
          refine bodyPost_ret (results_tmp2 rfl _ _ _) rfl ?_
          exact ⟨rfl, hb2.out⟩
        | false =>
          have h2 : M ≤ 4294967295 := by simpa using hR
          obtain ⟨rfl, rfl⟩ : (M : Int) = X ∧ 0 = E := by have := hX.out; rw [who_fit h hp hv2 (by show (0 : Int) ≤ _; omega) (by show _ ≤ (4294967295 : Int); omega)] at this; simpa using this
          have cw := hid (fun w1 => worthU_calls D hPl.dig hDs M hM (by show M < 18446744073709551616; omega) w1)
          clear h hX hp hv hv2 hPl hM hR h2 hDs hs hz
          go_enter Tryz.func17, Tryz.ntmps17
          go_wp2_with fail
          refine Calls.mono (c0.out _) ?_
          rintro e w1 ⟨rfl, hb1⟩
          clear c0
          go_wp2_with fail
          refine Calls.mono (cf.out _ (hP'.out.kept hb1)) ?_
          rintro e w2 ⟨rfl, hb⟩
          have hb2 := hid (hb1.trans (hb.mono hb1.size))
          clear cf hb hb1
          go_wp2_with fail
          refine Calls.mono (cA.out _) ?_
          rintro e w3 ⟨rfl, hw⟩
          rw [hw]
          clear hw w3 cA
          go_wp2_with fail
          refine Calls.mono (cw.out _) ?_
          rintro e w3 ⟨rfl, hw⟩
          rw [hw]
          clear hw w3 cw
          go_wp2
          refine bodyPost_ret (results_tmp2 rfl _ _ _) rfl ?_
          exact ⟨rfl, hb2.out⟩
set_option maxRecDepth 10000 in
set_option maxHeartbeats 4000000 in
theorem refUint64 (s : ByteArray) (hs : s.size ≤ 281474976710656) (X : Int) (E : Nat) (hX : Hid (wholeS IntKind.u64.min IntKind.u64.max s = (X, E))) (w : World) (hP : PowW w) :
    Calls Tryz.prog 17 #[.string s, .int .i64 64] w fun e w' => e = .returned (.tuple #[.int .u64 X, .int .i64 (E : Int)]) ∧ Below w.heap.size w w' := by
  by_cases h : (ofS s).2 = 110
  · have c0 := hid (fun w1 => plain_calls s hs ⟨#[]⟩ false 110 (pl_numU h) w1)
    obtain ⟨rfl, rfl⟩ : 0 = X ∧ 110 = E := by have := hX.out; rw [who_num h] at this; simpa using this
    clear h hX
    go_enter Tryz.func17, Tryz.ntmps17
    go_wp2_with fail
    refine Calls.mono (c0.out _) ?_
    rintro e w1 ⟨rfl, hb⟩
    clear c0
    go_wp2
    refine bodyPost_ret (results_tmp2 rfl _ _ _) rfl ?_
    exact ⟨rfl, hb⟩
  · cases hp : hasP s with
    | true =>
      have c0 := hid (fun w1 => plain_calls s hs ⟨#[]⟩ false 120 (pl_fracU h hp) w1)
      obtain ⟨rfl, rfl⟩ : 0 = X ∧ 120 = E := by have := hX.out; rw [who_frac h hp] at this; simpa using this
      clear h hX hp
      go_enter Tryz.func17, Tryz.ntmps17
      go_wp2_with fail
      refine Calls.mono (c0.out _) ?_
      rintro e w1 ⟨rfl, hb⟩
      clear c0
      go_wp2
      refine bodyPost_ret (results_tmp2 rfl _ _ _) rfl ?_
      exact ⟨rfl, hb⟩
    | false =>
      have hPl := plain_of h hp
      generalize scNeg s 0 = B at hPl
      generalize s.extract (scA s 0) s.size = D at hPl
      have c0 := hid (fun w1 => plain_calls s hs D B 0 (pl_plainU h hp hPl) w1)
      obtain ⟨M, hM⟩ : ∃ M, pwN D.data.toList = M := ⟨_, rfl⟩
      have hv : valS s = if B then -(M : Int) else (M : Int) := by rw [hPl.val_eq, hM]
      have hDs : D.size ≤ 281474976710656 := Nat.le_trans (plain_size hPl) hs
      have hz := dig_zero hPl.dig hPl.lead hPl.pos
      rw [hM] at hz
      have hP' := hid hP
      clear hP
      have cf := hid (fun w1 h1 => fmtU_calls 18446744073709551615 (by decide) w1 h1)
      obtain ⟨R, hR⟩ : ∃ R, abvS D ⟨(Lib.decDigits 18446744073709551615).toArray⟩ = R := ⟨_, rfl⟩
      have cA := hid (fun w1 => above_calls D _ R hR w1)
      rw [abv_pw hPl.dig hPl.lead hPl.pos, hM] at hR
      generalize (⟨(Lib.decDigits 18446744073709551615).toArray⟩ : ByteArray) = TF at cf cA
      cases B with
      | true =>
        have hv2 : valS s = -(M : Int) := hv
        by_cases h2 : M = 0
        · have hq : (D.toList == [48]) = true := by simpa using hz.1 h2
          obtain rfl : false = R := by rw [← hR, h2]; rfl
          obtain ⟨rfl, rfl⟩ : 0 = X ∧ 0 = E := by have := hX.out; rw [who_fit h hp hv2 (by show (0 : Int) ≤ _; omega) (by show _ ≤ (18446744073709551615 : Int); omega)] at this; rw [h2] at this; simpa using this
          have cw := hid (fun w1 => worthU_calls D hPl.dig hDs 0 (by show _ = _; rw [hM, h2]) (by show 0 < 18446744073709551616; decide) w1)
          clear h hX hp hv hv2 hPl hM hR h2 hDs hs hz
          go_enter Tryz.func17, Tryz.ntmps17
          go_wp2_with fail
          refine Calls.mono (c0.out _) ?_
          rintro e w1 ⟨rfl, hb1⟩
          clear c0
          go_wp2_with fail
          refine Calls.mono (cf.out _ (hP'.out.kept hb1)) ?_
          rintro e w2 ⟨rfl, hb⟩
          have hb2 := hid (hb1.trans (hb.mono hb1.size))
          clear cf hb hb1
          go_wp2_with fail
          refine Calls.mono (cA.out _) ?_
          rintro e w3 ⟨rfl, hw⟩
          rw [hw]
          clear hw w3 cA
          go_wp2_with fail
          refine Calls.mono (cw.out _) ?_
          rintro e w3 ⟨rfl, hw⟩
          rw [hw]
          clear hw w3 cw
          go_wp2
          refine bodyPost_ret (results_tmp2 rfl _ _ _) rfl ?_
          exact ⟨rfl, hb2.out⟩
        · have hq : (D.toList == [48]) = false := beq_eq_false_iff_ne.2 fun e => h2 (hz.2 e)
          obtain ⟨rfl, rfl⟩ : 0 = X ∧ 121 = E := by have := hX.out; rw [who_off h hp hv2 (by show ¬ ((0 : Int) ≤ _ ∧ _ ≤ (18446744073709551615 : Int)); omega)] at this; simpa using this
          clear h hX hp hv hv2 hPl hM hR h2 hDs hs hz cf cA
          go_enter Tryz.func17, Tryz.ntmps17
          go_wp2_with fail
          refine Calls.mono (c0.out _) ?_
          rintro e w1 ⟨rfl, hb1⟩
          clear c0
          go_wp2
          refine bodyPost_ret (results_tmp2 rfl _ _ _) rfl ?_
          exact ⟨rfl, hb1⟩
      | false =>
        have hv2 : valS s = (M : Int) := hv
        cases R with
        | true =>
          have h2 : 18446744073709551615 < M := by simpa using hR
          obtain ⟨rfl, rfl⟩ : 0 = X ∧ 121 = E := by have := hX.out; rw [who_off h hp hv2 (by show ¬ ((0 : Int) ≤ _ ∧ _ ≤ (18446744073709551615 : Int)); omega)] at this; simpa using this
          clear h hX hp hv hv2 hPl hM hR h2 hDs hs hz
          go_enter Tryz.func17, Tryz.ntmps17
          go_wp2_with fail
          refine Calls.mono (c0.out _) ?_
          rintro e w1 ⟨rfl, hb1⟩
          clear c0
          go_wp2_with fail
          refine Calls.mono (cf.out _ (hP'.out.kept hb1)) ?_
          rintro e w2 ⟨rfl, hb⟩
          have hb2 := hid (hb1.trans (hb.mono hb1.size))
          clear cf hb hb1
          go_wp2_with fail
          refine Calls.mono (cA.out _) ?_
          rintro e w3 ⟨rfl, hw⟩
          rw [hw]
          clear hw w3 cA
          go_wp2
          refine bodyPost_ret (results_tmp2 rfl _ _ _) rfl ?_
          exact ⟨rfl, hb2.out⟩
        | false =>
          have h2 : M ≤ 18446744073709551615 := by simpa using hR
          obtain ⟨rfl, rfl⟩ : (M : Int) = X ∧ 0 = E := by have := hX.out; rw [who_fit h hp hv2 (by show (0 : Int) ≤ _; omega) (by show _ ≤ (18446744073709551615 : Int); omega)] at this; simpa using this
          have cw := hid (fun w1 => worthU_calls D hPl.dig hDs M hM (by show M < 18446744073709551616; omega) w1)
          clear h hX hp hv hv2 hPl hM hR h2 hDs hs hz
          go_enter Tryz.func17, Tryz.ntmps17
          go_wp2_with fail
          refine Calls.mono (c0.out _) ?_
          rintro e w1 ⟨rfl, hb1⟩
          clear c0
          go_wp2_with fail
          refine Calls.mono (cf.out _ (hP'.out.kept hb1)) ?_
          rintro e w2 ⟨rfl, hb⟩
          have hb2 := hid (hb1.trans (hb.mono hb1.size))
          clear cf hb hb1
          go_wp2_with fail
          refine Calls.mono (cA.out _) ?_
          rintro e w3 ⟨rfl, hw⟩
          rw [hw]
          clear hw w3 cA
          go_wp2_with fail
          refine Calls.mono (cw.out _) ?_
          rintro e w3 ⟨rfl, hw⟩
          rw [hw]
          clear hw w3 cw
          go_wp2
          refine bodyPost_ret (results_tmp2 rfl _ _ _) rfl ?_
          exact ⟨rfl, hb2.out⟩
end Go.Proofs.YtheeonlfbnkhgaaGreatDoor
