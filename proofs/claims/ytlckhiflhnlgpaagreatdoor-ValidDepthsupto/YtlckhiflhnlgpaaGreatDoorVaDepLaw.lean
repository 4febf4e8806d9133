/-
  ValidDepths: a document is valid just from as many levels on as its brackets lie deep; with fewer the first bracket that opens one too many is told.
-/
import Derived.Test.YtlckhiflhnlgpaaGreatDoorVaAwk
import Derived.Test.YtlckhiflhnlgpaaGreatDoorLvD
import Derived.Test.YtlckhiflhnlgpaaGreatDoorMkA
namespace Go.Proofs.YtlckhiflhnlgpaaGreatDoor
open Go.RowKit Go.Shelf

theorem dep_first16 (s t : ByteArray) : ∀ j, j ≤ s.size → depS (s ++ t) j = depS s j
  | 0, _ => rfl
  | j + 1, h => by
    rw [depS_succ, depS_succ, dep_first16 s t j (by omega)]
    have h1 : brO (s ++ t) j = brO s j := by unfold brO; rw [out_first s t j (by omega), byteAt_join, if_pos (by omega)]
    have h2 : brC (s ++ t) j = brC s j := by unfold brC; rw [out_first s t j (by omega), byteAt_join, if_pos (by omega)]
    rw [h1, h2]
theorem maxD_congr {D D' : Nat → Nat} : ∀ {n : Nat}, (∀ i, i ≤ n → D i = D' i) → maxD D n = maxD D' n := by
  intro n h
  apply Nat.le_antisymm
  · exact maxD_le D fun i hi => by rw [h i hi]; exact maxD_ge D' hi
  · exact maxD_le D' fun i hi => by rw [← h i hi]; exact maxD_ge D hi
theorem cut_join16 (s : ByteArray) (a : Nat) : s.extract 0 a ++ s.extract a s.size = s := by
  apply byts_inj
  rw [byts_append, byts_extract, byts_extract]
  simp only [List.drop_zero, Nat.sub_zero]
  rw [List.take_of_length_le (l := (byts s).drop a) (by rw [List.length_drop, byts_length]; exact Nat.le_refl _), List.take_append_drop]
theorem dep_cut16 {s : ByteArray} {a : Nat} (h : a ≤ s.size) : maxD (depS (s.extract 0 a)) (s.extract 0 a).size = maxD (depS s) a := by
  have hz : (s.extract 0 a).size = a := by simp [h]
  rw [hz]
  refine maxD_congr fun i hi => ?_
  have := dep_first16 (s.extract 0 a) (s.extract a s.size) i (by omega)
  rw [cut_join16 s a] at this
  exact this.symm
/-- What the two verdicts of a document have to do with its depth. -/
theorem depth_facts {s : ByteArray} {d C A : Nat} {E : Int} (h : IsChk s (d : Int) C A E) (h1 : 1 ≤ d) (h2 : d ≤ 1024) :
    E = 0 ∧ ((C = 2 ∧ ∃ m, runM mc0 (byts s) = (A, m) ∧ (A < s.size ∨ wholeM m = false)) ∨ (docM (byts s) ∧ ((C = 1 ∧ maxD (depS s) s.size ≤ d) ∨
      (C = 3 ∧ d < maxD (depS s) s.size ∧ A < s.size ∧ outS s A = true ∧ (byteAt s A = 91 ∨ byteAt s A = 123) ∧ depS s A = d ∧ maxD (depS s) A = d)))) := by
  have hc := h
  rcases h with ⟨h, -⟩ | ⟨-, hE, k, m, hr, ⟨h, hC, hA⟩ | ⟨hk, hw, h⟩⟩
  · omega
  · subst hA
    exact ⟨hE, .inl ⟨hC, m, hr, h⟩⟩
  · refine ⟨hE, .inr ⟨?_, ?_⟩⟩
    · rcases h with ⟨i, -, -, -, h, -⟩ | ⟨-, h, -⟩
      · exact chk_doc hc (.inr h)
      · exact chk_doc hc (.inl h)
    · rcases h with ⟨i, i1, i2, i3, hC, hA⟩ | ⟨i1, hC, hA⟩
      · subst hA
        have hD := isDep s
        have hb : ∀ j, j ≤ A → depS s j ≤ d := fun j hj => by
          cases j with
          | zero => exact Nat.zero_le _
          | succ j => have := i3 j (by omega); omega
        obtain ⟨f1, f2, f3, f4⟩ := first_deep hD (d := d) i1 (by omega) hb
        refine .inr ⟨hC, ?_, i1, f1, f2, f3, f4⟩
        have := maxD_ge (depS s) (i := A + 1) (n := s.size) (by omega)
        omega
      · refine .inl ⟨hC, maxD_le (depS s) fun i hi => ?_⟩
        cases i with
        | zero => exact Nat.zero_le _
        | succ i => have := i1 i (by omega); omega
theorem kind_deep {s : ByteArray} {A : Nat} (hA : A < s.size) (ho : outS s A = true) (hb : byteAt s A = 91 ∨ byteAt s A = 123) : kindN s (A : Int) = byteAt s A := by
  have hs : sgnB s A = true := (sgn_iff s A).2 (by omega)
  unfold kindN
  rw [if_pos (by omega), Int.toNat_natCast]
  have h1 : begS s A = true := by unfold begS strS; rw [ho, hs]; rfl
  rw [h1, word_no (.inr (.inr hs))]
  rfl

set_option maxRecDepth 10000 in
set_option maxHeartbeats 4000000 in
theorem validDepths_walk (a0 : ByteArray) (h0 : a0.size ≤ 1048576) (a1 : Int) (h1 : (Lit.int .i64 a1).wf = true) (w : World) (hT : Tab w) (hM : TabM w) (hw0 : 1 < w.heap.size) (h16 : Ok16 w) :
    Calls Tryz.prog 8 #[.string a0, .int .i64 a1] w fun e w' => e = .returned (.bool true) ∧ Below w.heap.size w w' := by
  have hEq := eqVer
  have h16' := hid h16
  have hT' := hid hT
  have hM' := hid hM
  have hw0' := hid hw0
  have h1' := hid h1
  clear h16 hT hM hw0 h1
  go_enter Tryz.func8, Tryz.ntmps8
  go_wp2_with fail
  refine Calls.mono (awake16_calls _ h16'.out) ?_
  rintro e w1 ⟨rfl, hb⟩
  have B1 := hid hb
  clear hb
  go_wp2_with fail
  refine Calls.mono (ck_calls a0 (by omega) a1 h1'.out _ (h16'.out.below B1.out)) ?_
  rintro e w2 ⟨C, A, E, rfl, hI, hb⟩
  by_cases hr : a1 < 1 ∨ 1024 < a1
  · obtain ⟨rfl, rfl, rfl⟩ : C = 0 ∧ A = 0 ∧ E = 2 := by
      rcases hI with ⟨-, h⟩ | ⟨h, -⟩
      · exact h
      · omega
    have q1 := At.new w2 #[.int .i64 0, .int .i64 0] 23
    have c0 := q1.cell 0
    have c1 := q1.cell 1
    simp only [List.getElem?_toArray, List.getElem?_cons_zero, List.getElem?_cons_succ] at c0 c1
    have B2 := hid ((B1.out.trans (hb.mono B1.out.size)).alloc (Nat.le_trans B1.out.size hb.size) (.cells #[.int .i64 0, .int .i64 0] 23))
    clear hI hb q1
    rcases hr with hr | hr
    · go_wp2
      go_ret
      exact ⟨rfl, B2.out⟩
    · have hr2 : decide (a1 < 1) = false := by simp; omega
      go_wp2
      go_ret
      exact ⟨rfl, B2.out⟩
  · obtain ⟨d, rfl⟩ : ∃ d : Nat, a1 = (d : Int) := ⟨a1.toNat, by omega⟩
    have hd1 : 1 ≤ d := by omega
    have hd2 : d ≤ 1024 := by omega
    have hr1 : decide ((d : Int) < 1) = false := by simp; omega
    have hr1n : decide (d < 1) = false := by simp; omega
    have hr2 : decide ((1024 : Int) < (d : Int)) = false := by simp; omega
    have hr2n : decide (1024 < d) = false := by simp; omega
    obtain ⟨rfl, hcs⟩ := depth_facts hI hd1 hd2
    have hcs' := hid hcs
    obtain ⟨X, hX⟩ : ∃ X, Hid (maxD (depS a0) a0.size = X) := ⟨_, rfl⟩
    have hXs : X ≤ 1048576 := by
      rw [← hX.out, ← dmx_max]
      exact dmx_le (k := 1048576) fun i hi => Nat.le_trans (dep_le a0 i) (by omega)
    have gD := hid (fun (u : World) (g : Ok16 u) => dp_calls a0 (by omega) u g)
    rw [hX.out] at gD
    have K1 := hid (At.new w2 #[.int .i64 (C : Int), .int .i64 (A : Int)] 23)
    have B2 := hid ((B1.out.trans (hb.mono B1.out.size)).alloc (Nat.le_trans B1.out.size hb.size) (.cells #[.int .i64 (C : Int), .int .i64 (A : Int)] 23))
    obtain ⟨p, hp⟩ : ∃ x, w2.heap.size = x := ⟨_, rfl⟩
    obtain ⟨W2, hW2⟩ : ∃ x, w2.alloc (.cells #[.int .i64 (C : Int), .int .i64 (A : Int)] 23) = x := ⟨_, rfl⟩
    rw [hW2] at B2
    rw [hW2, hp] at K1
    clear hI hb hcs hr
    go_wp2_with fail
    refine Calls.mono (gD.out _ (h16'.out.below B2.out)) ?_
    clear hW2 hp
    rintro e w3 ⟨rfl, hb⟩
    have K3 := hid (K1.out.keptAll hb)
    have B3 := hid (B2.out.trans (hb.mono B2.out.size))
    clear hb K1 B2
    go_wp2_with fail
    refine Calls.mono (ck_calls a0 (by omega) 1 (by decide) _ (h16'.out.below B3.out)) ?_
    rintro e w4 ⟨C1, A1, E1, rfl, hI1, hb⟩
    obtain ⟨rfl, hc1⟩ := depth_facts (d := 1) hI1 (by decide) (by decide)
    have q1 := (K3.out.keptAll hb).alloc (.cells #[.int .i64 (C1 : Int), .int .i64 (A1 : Int)] 23)
    have q2 := At.new w4 #[.int .i64 (C1 : Int), .int .i64 (A1 : Int)] 23
    have c10 := q1.cell 0
    have c11 := q1.cell 1
    have c20 := q2.cell 0
    have c21 := q2.cell 1
    simp only [List.getElem?_toArray, List.getElem?_cons_zero, List.getElem?_cons_succ] at c10 c11 c20 c21
    have Q1 := hid q1
    have B4 := hid ((B3.out.trans (hb.mono B3.out.size)).alloc (Nat.le_trans B3.out.size hb.size) (.cells #[.int .i64 (C1 : Int), .int .i64 (A1 : Int)] 23))
    obtain ⟨r, hr⟩ : ∃ x, w4.heap.size = x := ⟨_, rfl⟩
    obtain ⟨W4, hW4⟩ : ∃ x, w4.alloc (.cells #[.int .i64 (C1 : Int), .int .i64 (A1 : Int)] 23) = x := ⟨_, rfl⟩
    rw [hW4] at B4 c10 c11 c20 c21 Q1
    rw [hr] at c20 c21
    clear hb q1 q2 K3 B3
    rcases hcs'.out with ⟨rfl, m, hm, hst⟩ | ⟨hdoc, hcs⟩
    · obtain ⟨rfl, rfl⟩ : C1 = 2 ∧ A1 = A := by
        have h2 : IsChk a0 1 2 A 0 := .inr ⟨⟨by decide, by decide⟩, rfl, A, m, hm, .inl ⟨hst, rfl, rfl⟩⟩
        obtain ⟨e1, e2, -⟩ := hI1.uniq h2
        exact ⟨e1, e2⟩
      have e2 : ((2 : Nat) : Int) = 2 := rfl
      rw [e2] at hW4 c10 c20
      clear hI1 hc1 hcs' hm hst gD hX e2 Q1
      go_wp2
      go_ret
      exact ⟨rfl, B4.out⟩
    · have n2 : C1 ≠ 2 := doc_code hI1 hdoc
      have n2i : ((C1 : Int) == 2) = false := by simp; omega
      obtain ⟨C3, A3, E3, hI3⟩ := chk_ex a0 1024
      obtain ⟨S, hS⟩ : ∃ S, Hid (S = decide (C3 = 1 ∧ maxD (depS a0) a0.size = 0)) := ⟨_, rfl⟩
      have gS := hid (fun (u : World) (g : Ok16 u) => sc_calls a0 (by omega) C3 A3 E3 (hid hI3) S hS u g)
      have hSx : S = ((X : Int) == 0) := by
        rw [hS.out, hX.out]
        by_cases hx : X = 0
        · subst hx
          have h3 := depth_facts (d := 1024) hI3 (by decide) (by decide)
          have hC3 : C3 = 1 := by
            rcases h3.2 with ⟨h, -⟩ | ⟨-, ⟨h, -⟩ | ⟨-, h, -⟩⟩
            · exact absurd h (doc_code hI3 hdoc)
            · exact h
            · rw [hX.out] at h; omega
          rw [decide_eq_true ⟨hC3, rfl⟩]
          rfl
        · rw [decide_eq_false (fun h => hx h.2)]
          symm
          simp; omega
      subst hSx
      have hdz := (doc_depth (isDep a0) hdoc).2.1
      rw [hX.out] at hcs
      clear hI1 hc1 hI3 hS
      rcases hcs with ⟨rfl, hle⟩ | ⟨rfl, hlt, hA, ho, hby, hdA, hmA⟩
      · have hlei : (X : Int) ≤ (d : Int) := by omega
        have gL := hid (fun (u : World) g1 g2 g3 => depth_calls a0 (by omega) (a0.size : Int) 0 (hid (by rw [depN_at (Nat.le_refl _)]; exact hdz)) u g1 g2 g3)
        clear hcs' hdoc hdz gD
        go_wp2_with fail
        refine Calls.mono (gS.out _ (h16'.out.below B4.out)) ?_
        clear hW4 hr
        rintro e w5 ⟨rfl, hb⟩
        have d0 := (Q1.out.keptAll hb).cell 0
        simp only [List.getElem?_toArray, List.getElem?_cons_zero] at d0
        have B5 := hid (B4.out.trans (hb.mono B4.out.size))
        clear hb gS B4 c10 c11 c20 c21 Q1
        obtain ⟨z, hz⟩ : ∃ z, ((X : Int) == 0) = z := ⟨_, rfl⟩
        rw [hz]
        cases z with
        | true =>
          go_wp2_with fail
          refine Calls.mono (gL.out _ (hT'.out.below B5.out (by have := hw0'.out; omega)) (hM'.out.below B5.out hw0'.out) (Nat.lt_of_lt_of_le hw0'.out B5.out.size)) ?_
          rintro e w6 ⟨rfl, hb⟩
          have B6 := hid (B5.out.trans (hb.mono B5.out.size))
          clear hb d0
          go_wp2
          go_ret
          exact ⟨rfl, B6.out⟩
        | false =>
          go_wp2_with fail
          refine Calls.mono (gL.out _ (hT'.out.below B5.out (by have := hw0'.out; omega)) (hM'.out.below B5.out hw0'.out) (Nat.lt_of_lt_of_le hw0'.out B5.out.size)) ?_
          rintro e w6 ⟨rfl, hb⟩
          have B6 := hid (B5.out.trans (hb.mono B5.out.size))
          clear hb d0
          go_wp2
          go_ret
          exact ⟨rfl, B6.out⟩
      · have hlei : decide ((X : Int) ≤ (d : Int)) = false := by simp; omega
        have hlen : decide (X ≤ d) = false := by simp; omega
        have hAi : (A : Int) < (a0.size : Int) := by omega
        have hX0 : ((X : Int) == 0) = false := by simp; omega
        obtain ⟨Y, hY⟩ : ∃ Y, Hid (byteAt a0 A = Y) := ⟨_, rfl⟩
        have hYb : Y = 91 ∨ Y = 123 := by rw [← hY.out]; exact hby
        have gK := hid (fun (u : World) g1 g2 g3 => kind8_calls a0 (by omega) (A : Int) (wf_nat16 A (by omega)) Y (hid (by rw [kind_deep hA ho hby]; exact hY.out)) u g1 g2 g3)
        have gL := hid (fun (u : World) g1 g2 g3 => depth_calls a0 (by omega) (A : Int) d (hid (by rw [depN_at (by omega)]; exact hdA)) u g1 g2 g3)
        obtain ⟨q, hq⟩ : ∃ q, a0.extract 0 A = q := ⟨_, rfl⟩
        have hqs : q.size = A := by rw [← hq]; simp; omega
        have gQ : Hid (∀ (u : World) (g : Ok16 u), Calls Tryz.prog 11 #[.string q] u fun e w' => e = .returned (.int .i64 (d : Int)) ∧ Below u.heap.size u w') := fun u g => by
          have h := dp_calls q (by omega) u g
          rw [← hq, dep_cut16 (by omega), hmA, hq] at h
          exact h
        clear hcs' hdoc hdz gD hby hdA hmA hqs
        go_wp2_with fail
        refine Calls.mono (gS.out _ (h16'.out.below B4.out)) ?_
        clear hW4 hr
        rintro e w5 ⟨rfl, hb⟩
        have k5 := Q1.out.keptAll hb
        have d0 := k5.cell 0
        have d1 := k5.cell 1
        simp only [List.getElem?_toArray, List.getElem?_cons_zero, List.getElem?_cons_succ] at d0 d1
        have K5 := hid k5
        have B5 := hid (B4.out.trans (hb.mono B4.out.size))
        clear hb gS B4 c10 c11 c20 c21 Q1 k5
        go_wp2_with fail
        refine Calls.mono (gK.out _ (hT'.out.below B5.out (by have := hw0'.out; omega)) (hM'.out.below B5.out hw0'.out) (Nat.lt_of_lt_of_le hw0'.out B5.out.size)) ?_
        rintro e w6 ⟨rfl, hb⟩
        have k6 := K5.out.keptAll hb
        have e0 := k6.cell 0
        have e1 := k6.cell 1
        simp only [List.getElem?_toArray, List.getElem?_cons_zero, List.getElem?_cons_succ] at e0 e1
        have K6 := hid k6
        have B6 := hid (B5.out.trans (hb.mono B5.out.size))
        clear hb B5 d0 d1 K5 k6 gK
        have step : Hid (∀ u : World, Calls Tryz.prog 21 #[.string a0, .int .i64 (A : Int)] w6 fun e w' => e = .returned (.int .i64 (d : Int)) ∧ Below w6.heap.size w6 w') := fun _ => gL.out _ (hT'.out.below B6.out (by have := hw0'.out; omega)) (hM'.out.below B6.out hw0'.out) (Nat.lt_of_lt_of_le hw0'.out B6.out.size)
        rcases hYb with rfl | rfl
        all_goals
          go_wp2_with fail
          refine Calls.mono (step.out w6) ?_
          rintro e w7 ⟨rfl, hb⟩
          have f1 := (K6.out.keptAll hb).cell 1
          simp only [List.getElem?_toArray, List.getElem?_cons_zero, List.getElem?_cons_succ] at f1
          have B7 := hid (B6.out.trans (hb.mono B6.out.size))
          clear hb e0 e1 K6
          go_wp2_with fail
          refine Calls.mono (gQ.out _ (h16'.out.below B7.out)) ?_
          rintro e w8 ⟨rfl, hb⟩
          have B8 := hid (B7.out.trans (hb.mono B7.out.size))
          clear hb f1
          go_wp2
          go_ret
          exact ⟨rfl, B8.out⟩
end Go.Proofs.YtlckhiflhnlgpaaGreatDoor
