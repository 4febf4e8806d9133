/-
  What the reference's Text and both Whole answer; the law DecimalShapes, walked.
-/
import Derived.Test.YteaambonlohcgaaDoorDecText
namespace Go.Proofs.YteaambonlohcgaaDoor
open Go.RowKit Go.Shelf

theorem OwnD.rg {w0 : World} {b : Nat} {n : Bool} {t : ByteArray} {x : Int} {w : World} (h : OwnD w0 b n t x w) : w.rangeAt b 0 [.bool n, .string t, .int .i64 x] := h.2.1.range rfl
set_option maxRecDepth 10000 in
theorem whole_calls (n : Bool) (t : ByteArray) (x : Int) (hs : t.size ≤ 4611686018427387904) (B : Bool) (hB : Hid ((frmS t x && decide (0 ≤ x)) = B)) (w : World) :
    Calls Tryd.prog 14 #[.agg #[.bool n, .string t, .int .i64 x]] w fun e w' => e = .returned (.bool B) ∧ Below w.heap.size w w' := by
  obtain ⟨F, hF⟩ : ∃ F, Hid (frmS t x = F) := ⟨_, rfl⟩
  have cF := hid (fun w1 => formed_calls n t x hs F hF w1)
  have A0 := hid (show OwnD w w.heap.size n t x (w.alloc (.cells #[.bool n, .string t, .int .i64 x] 23)) from ⟨Nat.le_refl _, At.new w _ _, by repeat (first | with_reducible exact Below.refl _ _ | with_reducible refine Below.setCell ?_ (by first | (simp; done) | (simp; omega)) _ | with_reducible refine below_drewN ?_ _ | with_reducible refine Below.alloc ?_ (by first | (simp; done) | (simp; omega)) _ | with_reducible refine Below.drew ?_)⟩)
  have hb := hB.out
  rw [hF.out] at hb
  have hb' := hid hb
  clear hB hF hb hs
  go_enter Tryd.func14, Tryd.ntmps14
  go_wp2_with fail
  refine Calls.mono (cF.out _) ?_
  rintro e w1 ⟨rfl, hb⟩
  have A1 := hid (A0.out.kept hb)
  clear A0 cF hb
  obtain ⟨⟨c0, c1, c2⟩, -, -, -⟩ := A1.out.facts
  cases F
  · obtain rfl : false = B := hb'.out
    go_wp2
    go_ret
    exact ⟨by first | rfl | simp, A1.out.2.2⟩
  · obtain rfl : decide (0 ≤ x) = B := hb'.out
    go_wp2
    go_ret
    exact ⟨by first | rfl | simp, A1.out.2.2⟩
set_option maxRecDepth 10000 in
theorem refWhole_calls (n : Bool) (t : ByteArray) (x : Int) (hs : t.size ≤ 4611686018427387904) (B : Bool) (hB : Hid ((frmS t x && decide (0 ≤ x)) = B)) (w : World) :
    Calls Tryd.prog 17 #[.agg #[.bool n, .string t, .int .i64 x]] w fun e w' => e = .returned (.bool B) ∧ Below w.heap.size w w' := by
  obtain ⟨F, hF⟩ : ∃ F, Hid (frmS t x = F) := ⟨_, rfl⟩
  have cF := hid (fun w1 => refFormed_calls n t x hs F hF w1)
  have A0 := hid (show OwnD w w.heap.size n t x (w.alloc (.cells #[.bool n, .string t, .int .i64 x] 23)) from ⟨Nat.le_refl _, At.new w _ _, by repeat (first | with_reducible exact Below.refl _ _ | with_reducible refine Below.setCell ?_ (by first | (simp; done) | (simp; omega)) _ | with_reducible refine below_drewN ?_ _ | with_reducible refine Below.alloc ?_ (by first | (simp; done) | (simp; omega)) _ | with_reducible refine Below.drew ?_)⟩)
  have hb := hB.out
  rw [hF.out] at hb
  have hb' := hid hb
  clear hB hF hb hs
  go_enter Tryd.func17, Tryd.ntmps17
  go_wp2_with fail
  refine Calls.mono (cF.out _) ?_
  rintro e w1 ⟨rfl, hb⟩
  have A1 := hid (A0.out.kept hb)
  clear A0 cF hb
  obtain ⟨⟨c0, c1, c2⟩, -, -, -⟩ := A1.out.facts
  cases F
  · obtain rfl : false = B := hb'.out
    go_wp2
    go_ret
    exact ⟨by first | rfl | simp, A1.out.2.2⟩
  · obtain rfl : decide (0 ≤ x) = B := hb'.out
    go_wp2
    go_ret
    exact ⟨by first | rfl | simp, A1.out.2.2⟩
set_option linter.unusedSimpArgs false in
set_option maxRecDepth 10000 in
set_option maxHeartbeats 8000000 in
theorem refText_calls (n : Bool) (t : ByteArray) (x : Int) (hs : t.size ≤ reachBytes) (S : ByteArray) (E : Int) (hS : Hid (txtR n t x = (S, E))) (w : World) (hT : PowT w) :
    Calls Tryd.prog 15 #[.agg #[.bool n, .string t, .int .i64 x]] w fun e w' => e = .returned (.tuple #[.string S, .int .i64 E]) ∧ Below w.heap.size w w' := by
  have hr : reachBytes = 140737488351232 := by decide
  have hsz : t.size ≤ 140737488351232 := by rw [← hr]; exact hs
  clear hs hr
  obtain ⟨F, hF⟩ : ∃ F, Hid (frmS t x = F) := ⟨_, rfl⟩
  have cF := hid (fun w1 => refFormed_calls n t x (by omega) F hF w1)
  have A0 := hid (show OwnD w w.heap.size n t x (w.alloc (.cells #[.bool n, .string t, .int .i64 x] 23)) from ⟨Nat.le_refl _, At.new w _ _, by repeat (first | with_reducible exact Below.refl _ _ | with_reducible refine Below.setCell ?_ (by first | (simp; done) | (simp; omega)) _ | with_reducible refine below_drewN ?_ _ | with_reducible refine Below.alloc ?_ (by first | (simp; done) | (simp; omega)) _ | with_reducible refine Below.drew ?_)⟩)
  have hT' := hid hT
  clear hT
  go_enter Tryd.func15, Tryd.ntmps15
  go_wp2_with fail
  refine Calls.mono (cF.out _) ?_
  rintro e w1 ⟨rfl, hb⟩
  have A1 := hid (A0.out.kept hb)
  clear A0 hb cF
  cases F with
  | false =>
    have hv := hS.out
    rw [txtR, hF.out] at hv
    obtain ⟨rfl, rfl⟩ : (⟨#[]⟩ : ByteArray) = S ∧ 1 = E := by simpa using hv
    clear hv hS
    go_wp2
    refine bodyPost_ret (results_tmp2 rfl _ _ _) rfl ?_
    exact ⟨rfl, A1.out.2.2⟩
  | true =>
    have hv := hS.out
    rw [txtR, hF.out, if_pos rfl] at hv
    obtain ⟨hSv, rfl⟩ : txtB n t x = S ∧ 0 = E := by simpa using hv
    have hxin : inB x = true := by
      by_cases h0 : t.size = 0
      · have := hF.out
        rw [frm_none h0] at this
        rw [of_decide_eq_true this]; rfl
      · exact (frm_parts hF.out h0).2.2.2
    have hxi := inB_of hxin
    have hil := itoa_len x hxin
    have hSv' := hid hSv
    obtain ⟨I, hI⟩ : ∃ I : ByteArray, Hid ((⟨(Lib.itoa x).toArray⟩ : ByteArray) = I) := ⟨_, rfl⟩
    have hIl : I.size ≤ 20 := by rw [← hI.out, Lib.size_mk]; exact hil
    have cI := hid (fun w1 h1 => itoa_calls x (by omega) (by omega) w1 h1)
    rw [hI.out] at cI
    clear hv hS hSv hF hil hxin
    obtain ⟨⟨c0, c1, c2⟩, -, -, -⟩ := A1.out.facts
    cases n
    · by_cases h0 : t.size = 0
      · have e0 : (t.toList == []) = true := by
          have : t.toList = [] := by rw [Lib.toList_data]; exact List.eq_nil_of_length_eq_zero (by rw [size_list]; exact h0)
          rw [this]; rfl
        by_cases hx0 : x = 0
        · have e1 : (x != 0) = false := by simp [hx0]
          have hfin : (⟨#[48]⟩ : ByteArray) = S := by
            rw [← hSv'.out, txtB, txN, txW, txX, nil_app]
            simp only [h0, hx0, if_true, if_false, Bool.false_eq_true, hI.out, nil_app, app_nil, app_assoc]
          have hfin' := hid hfin
          clear hfin
          go_wp2
          refine bodyPost_ret (results_tmp2 rfl _ _ _) rfl ?_
          exact ⟨by rw [← hfin'.out]; rfl, A1.out.2.2⟩
        · have e1 : (x != 0) = true := by simpa using hx0
          have hfin : ((⟨#[48]⟩ ++ (⟨#[101]⟩ : ByteArray) ++ I) : ByteArray) = S := by
            rw [← hSv'.out, txtB, txN, txW, txX, nil_app]
            simp only [h0, hx0, if_true, if_false, Bool.false_eq_true, hI.out, nil_app, app_nil, app_assoc]
          have hfin' := hid hfin
          clear hfin
          go_wp2_with fail
          refine Calls.mono (cI.out _ (hT'.out.kept A1.out.2.2)) ?_
          rintro e w2 ⟨rfl, hb⟩
          have A2 := hid (A1.out.kept hb)
          clear A1 hb c0 c1 c2 cI
          go_wp2
          refine bodyPost_ret (results_tmp2 rfl _ _ _) rfl ?_
          exact ⟨by rw [← hfin'.out]; rfl, A2.out.2.2⟩
      · have e0 : (t.toList == []) = false := by
          apply beq_eq_false_iff_ne.2
          intro he
          apply h0
          rw [← size_list, ← Lib.toList_data, he]; rfl
        by_cases hx0 : x = 0
        · have e1 : (x != 0) = false := by simp [hx0]
          have hfin : (t : ByteArray) = S := by
            rw [← hSv'.out, txtB, txN, txW, txX, nil_app]
            simp only [h0, hx0, if_true, if_false, Bool.false_eq_true, hI.out, nil_app, app_nil, app_assoc]
          have hfin' := hid hfin
          clear hfin
          go_wp2
          refine bodyPost_ret (results_tmp2 rfl _ _ _) rfl ?_
          exact ⟨by rw [← hfin'.out]; rfl, A1.out.2.2⟩
        · have e1 : (x != 0) = true := by simpa using hx0
          have hfin : ((t ++ (⟨#[101]⟩ : ByteArray) ++ I) : ByteArray) = S := by
            rw [← hSv'.out, txtB, txN, txW, txX, nil_app]
            simp only [h0, hx0, if_true, if_false, Bool.false_eq_true, hI.out, nil_app, app_nil, app_assoc]
          have hfin' := hid hfin
          clear hfin
          go_wp2_with fail
          refine Calls.mono (cI.out _ (hT'.out.kept A1.out.2.2)) ?_
          rintro e w2 ⟨rfl, hb⟩
          have A2 := hid (A1.out.kept hb)
          clear A1 hb c0 c1 c2 cI
          go_wp2
          refine bodyPost_ret (results_tmp2 rfl _ _ _) rfl ?_
          exact ⟨by rw [← hfin'.out]; rfl, A2.out.2.2⟩
    · by_cases h0 : t.size = 0
      · have e0 : (t.toList == []) = true := by
          have : t.toList = [] := by rw [Lib.toList_data]; exact List.eq_nil_of_length_eq_zero (by rw [size_list]; exact h0)
          rw [this]; rfl
        by_cases hx0 : x = 0
        · have e1 : (x != 0) = false := by simp [hx0]
          have hfin : (((⟨#[45]⟩ : ByteArray) ++ ⟨#[48]⟩) : ByteArray) = S := by
            rw [← hSv'.out, txtB, txN, txW, txX, nil_app]
            simp only [h0, hx0, if_true, if_false, Bool.false_eq_true, hI.out, nil_app, app_nil, app_assoc]
          have hfin' := hid hfin
          clear hfin
          have hs1 : ¬ (⟨#[45]⟩ : ByteArray).size + (⟨#[48]⟩ : ByteArray).size > 9223372036854775807 := by have h1 : (⟨#[45]⟩ : ByteArray).size = 1 := rfl; decide
          go_wp2
          refine bodyPost_ret (results_tmp2 rfl _ _ _) rfl ?_
          exact ⟨by rw [← hfin'.out]; rfl, A1.out.2.2⟩
        · have e1 : (x != 0) = true := by simpa using hx0
          have hfin : ((((⟨#[45]⟩ : ByteArray) ++ ⟨#[48]⟩) ++ (⟨#[101]⟩ : ByteArray) ++ I) : ByteArray) = S := by
            rw [← hSv'.out, txtB, txN, txW, txX, nil_app]
            simp only [h0, hx0, if_true, if_false, Bool.false_eq_true, hI.out, nil_app, app_nil, app_assoc]
          have hfin' := hid hfin
          clear hfin
          have hs1 : ¬ (⟨#[45]⟩ : ByteArray).size + (⟨#[48]⟩ : ByteArray).size > 9223372036854775807 := by have h1 : (⟨#[45]⟩ : ByteArray).size = 1 := rfl; decide
          go_wp2_with fail
          refine Calls.mono (cI.out _ (hT'.out.kept A1.out.2.2)) ?_
          rintro e w2 ⟨rfl, hb⟩
          have A2 := hid (A1.out.kept hb)
          clear A1 hb c0 c1 c2 cI
          go_wp2
          refine bodyPost_ret (results_tmp2 rfl _ _ _) rfl ?_
          exact ⟨by rw [← hfin'.out]; rfl, A2.out.2.2⟩
      · have e0 : (t.toList == []) = false := by
          apply beq_eq_false_iff_ne.2
          intro he
          apply h0
          rw [← size_list, ← Lib.toList_data, he]; rfl
        by_cases hx0 : x = 0
        · have e1 : (x != 0) = false := by simp [hx0]
          have hfin : (((⟨#[45]⟩ : ByteArray) ++ t) : ByteArray) = S := by
            rw [← hSv'.out, txtB, txN, txW, txX, nil_app]
            simp only [h0, hx0, if_true, if_false, Bool.false_eq_true, hI.out, nil_app, app_nil, app_assoc]
          have hfin' := hid hfin
          clear hfin
          have hs1 : ¬ (⟨#[45]⟩ : ByteArray).size + (t : ByteArray).size > 9223372036854775807 := by have h1 : (⟨#[45]⟩ : ByteArray).size = 1 := rfl; omega
          go_wp2
          refine bodyPost_ret (results_tmp2 rfl _ _ _) rfl ?_
          exact ⟨by rw [← hfin'.out]; rfl, A1.out.2.2⟩
        · have e1 : (x != 0) = true := by simpa using hx0
          have hfin : ((((⟨#[45]⟩ : ByteArray) ++ t) ++ (⟨#[101]⟩ : ByteArray) ++ I) : ByteArray) = S := by
            rw [← hSv'.out, txtB, txN, txW, txX, nil_app]
            simp only [h0, hx0, if_true, if_false, Bool.false_eq_true, hI.out, nil_app, app_nil, app_assoc]
          have hfin' := hid hfin
          clear hfin
          have hs1 : ¬ (⟨#[45]⟩ : ByteArray).size + (t : ByteArray).size > 9223372036854775807 := by have h1 : (⟨#[45]⟩ : ByteArray).size = 1 := rfl; omega
          go_wp2_with fail
          refine Calls.mono (cI.out _ (hT'.out.kept A1.out.2.2)) ?_
          rintro e w2 ⟨rfl, hb⟩
          have A2 := hid (A1.out.kept hb)
          clear A1 hb c0 c1 c2 cI
          go_wp2
          refine bodyPost_ret (results_tmp2 rfl _ _ _) rfl ?_
          exact ⟨by rw [← hfin'.out]; rfl, A2.out.2.2⟩
theorem it3 : Lib.itoa (-3) = [45, 51] := by
  unfold Lib.itoa
  rw [if_pos (by decide), show (-3 : Int).natAbs = 3 from rfl, Lib.decDigits_one (by decide)]
  rfl
theorem awT : txtR true ⟨#[49, 50]⟩ (-3) = (⟨#[45, 49, 50, 101, 45, 51]⟩, 0) := by
  unfold txtR
  rw [if_pos (by decide +kernel)]
  unfold txtB txN txW txX
  rw [it3, if_pos rfl, if_neg (by decide), if_neg (by decide), nil_app]
  rfl
set_option maxRecDepth 10000 in
set_option maxHeartbeats 8000000 in
theorem decimalShapes_walk (n : Bool) (t : ByteArray) (x : Int) (_ : (Lit.int .i64 x).wf = true) (hs : t.size ≤ reachBytes) (w : World) (hT : PowT w) :
    Calls Tryd.prog 5 #[.agg #[.bool n, .string t, .int .i64 x]] w fun e w' => e = .returned (.bool true) ∧ Below w.heap.size w w' := by
  have hr := reachBytes_lt
  have hs4 : t.size ≤ 4611686018427387904 := by omega
  obtain ⟨F, hF⟩ : ∃ F, Hid (frmS t x = F) := ⟨_, rfl⟩
  obtain ⟨G, hG⟩ : ∃ G, Hid ((frmS t x && decide (0 ≤ x)) = G) := ⟨_, rfl⟩
  obtain ⟨S, E, hS⟩ : ∃ S E, Hid (txtR n t x = (S, E)) := ⟨_, _, rfl⟩
  have k1 := hid (fun w1 h1 => text_calls true ⟨#[49, 50]⟩ (-3) (by decide) _ _ awT w1 h1)
  have k2 := hid (fun w1 => formed_calls false ⟨#[49]⟩ 0 (by decide) true (by show _ = _; decide +kernel) w1)
  have k3 := hid (fun w1 => whole_calls false ⟨#[49]⟩ 0 (by decide) true (by show _ = _; decide +kernel) w1)
  have k4 := hid (fun w1 h1 => text_calls n t x hs S E hS w1 h1)
  have k5 := hid (fun w1 h1 => refText_calls n t x hs S E hS w1 h1)
  have k6 := hid (fun w1 => formed_calls n t x hs4 F hF w1)
  have k7 := hid (fun w1 => refFormed_calls n t x hs4 F hF w1)
  have k8 := hid (fun w1 => whole_calls n t x hs4 G hG w1)
  have k9 := hid (fun w1 => refWhole_calls n t x hs4 G hG w1)
  have A0 := hid (show OwnD w w.heap.size n t x (w.alloc (.cells #[.bool n, .string t, .int .i64 x] 23)) from ⟨Nat.le_refl _, At.new w _ _, by repeat (first | with_reducible exact Below.refl _ _ | with_reducible refine Below.setCell ?_ (by first | (simp; done) | (simp; omega)) _ | with_reducible refine below_drewN ?_ _ | with_reducible refine Below.alloc ?_ (by first | (simp; done) | (simp; omega)) _ | with_reducible refine Below.drew ?_)⟩)
  have hT' := hid hT
  clear hT hs hr hs4 hF hG hS
  go_enter Tryd.func5, Tryd.ntmps5
  go_wp2_with fail
  refine Calls.mono (k1.out _ (hT'.out.kept A0.out.2.2)) ?_
  rintro e w1 ⟨rfl, hb⟩
  have A1 := hid (A0.out.kept hb)
  clear A0 k1 hb
  go_wp2_with fail
  refine Calls.mono (k2.out _) ?_
  rintro e w2 ⟨rfl, hb⟩
  have A2 := hid (A1.out.kept hb)
  clear A1 k2 hb
  go_wp2_with fail
  refine Calls.mono (k3.out _) ?_
  rintro e w3 ⟨rfl, hb⟩
  have A3 := hid (A2.out.kept hb)
  clear A2 k3 hb
  obtain ⟨⟨c0, c1, c2⟩, -, -, -⟩ := A3.out.facts
  go_wp2_with fail
  refine Calls.mono (k4.out _ (hT'.out.kept A3.out.2.2)) ?_
  rintro e w4 ⟨rfl, hb⟩
  have A4 := hid (A3.out.kept hb)
  clear A3 k4 hb c0 c1 c2
  obtain ⟨⟨c0, c1, c2⟩, -, -, -⟩ := A4.out.facts
  go_wp2_with fail
  refine Calls.mono (k5.out _ (hT'.out.kept A4.out.2.2)) ?_
  rintro e w5 ⟨rfl, hb⟩
  have A5 := hid (A4.out.kept hb)
  clear A4 k5 hb c0 c1 c2 hT'
  go_wp2
  have hS5 : OwnD w w.heap.size n t x w5.drew := ⟨A5.out.1, A5.out.2.1, A5.out.2.2.drew⟩
  refine wp_region_quiet (C := (fun w' => OwnD w w.heap.size n t x w')) (by kernel_rfl) (by kernel_rfl) (hS5) ?_
  dsimp only
  repeat (first
    | (refine wpQuiet_skip (by rfl) ?_; simp only [Act.put, List.setIfInBounds_toArray, List.set_cons_zero, List.set_cons_succ])
    | (refine wpQuiet_load 23 _ (w.heap.size) (0) [.bool n, .string t, .int .i64 x] _ (fun wq hq => OwnD.rg hq) Tryd.underlying23 sizeDec' rfl rfl rfl (by rfl) ?_; simp only [Act.put, List.setIfInBounds_toArray, List.set_cons_zero, List.set_cons_succ])
    | (refine' wpQuiet_take (by rfl) ?_ ?_
       rotate_left
       · (intro wq hq; (try dsimp only at hq); go_simp
          first
            | done
            | with_reducible rfl
            | (go_at_call 13; with_reducible refine (k6.out _).mono ?_; rintro e wz ⟨rfl, hb⟩; exact ⟨rfl, OwnD.kept hq hb⟩)
            | (go_at_call 16; with_reducible refine (k7.out _).mono ?_; rintro e wz ⟨rfl, hb⟩; exact ⟨rfl, OwnD.kept hq hb⟩)
            | (go_at_call 14; with_reducible refine (k8.out _).mono ?_; rintro e wz ⟨rfl, hb⟩; exact ⟨rfl, OwnD.kept hq hb⟩)
            | (go_at_call 17; with_reducible refine (k9.out _).mono ?_; rintro e wz ⟨rfl, hb⟩; exact ⟨rfl, OwnD.kept hq hb⟩)
         )
       simp only [Act.put, List.setIfInBounds_toArray, List.set_cons_zero, List.set_cons_succ]))
  refine wpQuiet_nil ?_
  intro w6 A6
  have hb6 := A6.2.2
  clear A5 A6 hS5
  go_wp2
  go_ret
  exact ⟨by first | rfl | simp, hb6⟩
end Go.Proofs.YteaambonlohcgaaDoor
