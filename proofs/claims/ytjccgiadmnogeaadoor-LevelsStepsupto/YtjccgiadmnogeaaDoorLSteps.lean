/-
  The walk through quarrylaw10.LevelsSteps.
-/
import Derived.Test.YtjccgiadmnogeaaDoorLvAwake
import Derived.Deep.DeepCutAuto
namespace Go.Proofs.YtjccgiadmnogeaaDoor
open Go.RowKit Go.Shelf

theorem kind_cl (s : ByteArray) (i : Nat) (h : i < s.size) : clB (kindN s i) = brC s i := by
  unfold kindN
  rw [if_pos ⟨by omega, by omega⟩, Int.toNat_natCast]
  cases hb : begS s i
  · rw [nbeg_cl hb]; rfl
  · rw [beg_cl hb, if_pos rfl]
    split
    · rename_i hw
      cases hc : clB (byteAt s i)
      · rfl
      · unfold wordS at hw
        rw [sgn_cl hc] at hw
        simp at hw
    · rfl
theorem kind_opN (s : ByteArray) (i : Nat) : opB (kindN s i) = brO s i := by
  cases hb : brO s i
  · cases ho : opB (kindN s i)
    · rfl
    · obtain ⟨j, hj, hj2⟩ := (kind_op s i).1 ho
      have : j = i := by omega
      subst this
      rw [hb] at hj2; cases hj2
  · exact (kind_op s i).2 ⟨i, rfl, hb⟩
theorem no_end {s : ByteArray} {a : Nat} (h : brO s a = true) (j : Nat) (hz : ∀ q, q ≤ a + j → clsP s a q = false) : ∀ i, i ≤ j → endP (s.extract a s.size) i = false := by
  intro i
  induction i using Nat.strongRecOn with
  | _ i ih =>
    intro hi
    rw [← rest_cls h i (fun j' hj' => ih j' hj' (by omega))]
    exact hz _ (by omega)
/-- Behind the bracket, as long as it isn't closed, it lies deeper. -/
theorem deep_in {s : ByteArray} {a i : Nat} (h : brO s a = true) (hai : a ≤ i) (hz : ∀ q, q ≤ i → clsP s a q = false) : depS s a + 1 ≤ depS s (i + 1) := by
  obtain ⟨h1, h2⟩ := rest_dep h (i - a) (fun j hj => no_end h (i - a) (fun q hq => hz q (by omega)) j (by omega))
  rw [show a + (i - a + 1) = i + 1 by omega] at h1
  omega
theorem op_is {x : Nat} (h : opB x = true) : x = 123 ∨ x = 91 := by
  unfold opB at h; simpa using h
theorem cl_is {x : Nat} (h : clB x = true) : x = 125 ∨ x = 93 := by
  unfold clB at h; simpa using h
theorem op_not {x : Nat} (h : opB x = false) : x ≠ 123 ∧ x ≠ 91 := by
  unfold opB at h; simpa using h
theorem cl_not {x : Nat} (h : clB x = false) : x ≠ 125 ∧ x ≠ 93 := by
  unfold clB at h; simpa using h

set_option maxRecDepth 10000 in
set_option maxHeartbeats 8000000 in
theorem levelsSteps_walk (s : ByteArray) (hs : s.size ≤ 1048576) (a : Int) (ha : (Lit.int .i64 a).wf = true) (w : World) (hT : Tab w) (hM : TabM w) (h0 : 1 < w.heap.size) :
    Calls Tryd.prog 8 #[.string s, .int .i64 a] w fun e w' => e = .returned (.bool true) ∧ Below w.heap.size w w' := by
  have hAw := hid (awake10_calls w hT hM h0)
  have hCl := hid (fun (w1 : World) (hb : Below w.heap.size w w1) => close_calls s (by omega) a ha w1 (hT.below hb (by omega)) (hM.below hb h0) (by have := hb.size; omega))
  have hKi := hid (fun (b : Int) (hb' : (Lit.int .i64 b).wf = true) (k : Nat) (hk : Hid (kindN s b = k)) (w1 : World) (hb : Below w.heap.size w w1) => kind8_calls s (by omega) b hb' k hk w1 (hT.below hb (by omega)) (hM.below hb h0) (by have := hb.size; omega))
  have hDe := hid (fun (b : Int) (D : Nat) (hD : Hid (depN s b = D)) (w1 : World) (hb : Below w.heap.size w w1) => depth_calls s (by omega) b D hD w1 (hT.below hb (by omega)) (hM.below hb h0) (by have := hb.size; omega))
  have hsi : (s.size : Int) ≤ 1048576 := by omega
  obtain ⟨k, hk⟩ : ∃ k, Hid (kindN s a = k) := ⟨_, rfl⟩
  have haw := hid ha
  clear hT hM h0 ha
  go_enter Tryd.func8, Tryd.ntmps8
  go_wp2_with fail
  refine Calls.mono hAw.out ?_
  rintro e w1 ⟨rfl, q1⟩
  have hb1 := hid q1
  clear q1 hAw
  go_wp2_with fail
  refine Calls.mono (hCl.out _ hb1.out) ?_
  rintro e w2 ⟨c, rfl, hc, q2⟩
  have hb2 := hid (hb1.out.trans (q2.mono hb1.out.size))
  have hc' := hid hc
  clear q2 hb1 hCl hc
  go_wp2_with fail
  refine Calls.mono (hKi.out a haw.out k hk _ hb2.out) ?_
  rintro e w3 ⟨rfl, q3⟩
  have hb3 := hid (hb2.out.trans (q3.mono hb2.out.size))
  clear q3 hb2
  cases hO : opB k
  · have hc1 : c = -1 := by
      rcases hc'.out with ⟨i, rfl, hb, -⟩ | ⟨h, -⟩
      · have h1 := kind_opN s i
        rw [hk.out, hb, hO] at h1; cases h1
      · exact h
    subst hc1
    obtain ⟨o1, o2⟩ := op_not hO
    have n1 : ((k : Int) != 123) = true := by simp; omega
    have n2 : ((k : Int) != 91) = true := by simp; omega
    clear hO o1 o2
    go_wp2
    go_ret
    exact ⟨rfl, hb3.out⟩
  · obtain ⟨i0, rfl, hbr⟩ := (kind_op s a).1 (by rw [hk.out]; exact hO)
    obtain ⟨hi0, -, -⟩ := br_at hbr
    have hbr' := hid hbr
    have hcc : Hid ((∃ p : Nat, c = p ∧ p < s.size ∧ clsP s i0 p = true ∧ ∀ q, q < p → clsP s i0 q = false) ∨ (c = -1 ∧ ∀ q, q < s.size → clsP s i0 q = false)) := by
      rcases hc'.out with ⟨i, hi, -, h⟩ | ⟨-, h⟩
      · have : i = i0 := by omega
        subst this; exact h
      · have := h i0 rfl; rw [hbr] at this; cases this
    have hii : (i0 : Int) < (s.size : Int) := by omega
    obtain ⟨D0, hD0⟩ : ∃ D0, Hid (depN s (i0 : Int) = D0) := ⟨_, rfl⟩
    have hD0' : Hid (depS s i0 = D0) := by show _ = _; rw [← depN_at (by omega), hD0.out]
    have hcr : Hid (-1 ≤ c ∧ (0 ≤ c → (i0 : Int) < c ∧ c < (s.size : Int))) := by
      rcases hcc.out with ⟨p, rfl, h1, h2, -⟩ | ⟨rfl, -⟩
      · refine ⟨by omega, fun _ => ⟨?_, by omega⟩⟩
        unfold clsP at h2
        rw [Bool.and_eq_true] at h2
        have := of_decide_eq_true h2.1
        omega
      · exact ⟨by omega, fun h => by omega⟩
    go_upto_region 5 with fail
    go_cut [26] from 21 to 25 (fun b wx => b = .bool false ∧ wx = w3)
    case first =>
      clear hcc hcr hc' hb3
      rcases op_is hO with rfl | rfl
      · go_wp2
        go_meet
        case rel => exact ⟨rfl, rfl⟩
      · go_wp2
        go_meet
        case rel => exact ⟨rfl, rfl⟩
    case rest =>
      obtain ⟨rfl, rfl⟩ := hcut
      go_upto_region 7 with fail
      go_cut [45] from 29 to 44 (fun b wx => b = .bool false ∧ wx = wc)
      case first =>
        obtain ⟨r1, r2⟩ := hcr.out
        clear hcc hcr hc' hb3
        have n1 : decide (c < -1) = false := by simp; omega
        by_cases hc0 : 0 ≤ c
        · obtain ⟨r3, r4⟩ := r2 hc0
          have n2 : decide (c ≤ (i0 : Int)) = false := by simp; omega
          have n3 : decide ((s.size : Int) ≤ c) = false := by simp; omega
          go_wp2
          go_meet
          case rel => exact ⟨rfl, rfl⟩
        · have n2 : decide (0 ≤ c) = false := by simp; omega
          clear r2
          go_wp2
          go_meet
          case rel => exact ⟨rfl, rfl⟩
      case rest =>
        obtain ⟨rfl, rfl⟩ := hcut
        go_wp2_with fail
        refine Calls.mono (hDe.out _ D0 hD0 _ hb3.out) ?_
        rintro e w4 ⟨rfl, q4⟩
        have hb4 := hid (hb3.out.trans (q4.mono hb3.out.size))
        clear q4 hb3
        go_wp2
        go_loopw [8, 9] (fun dd ii wr => ∃ i : Nat, i0 ≤ i ∧ i ≤ s.size ∧ ii = .int .i64 (i : Int) ∧ dd = .int .i64 ((depS s i : Nat) : Int) ∧ Hid (∀ q, q < i → clsP s i0 q = false) ∧ Hid (Below w.heap.size w wr)) (fun _ ii _ => s.size - (intOf ii).toNat)
        case atStart => exact ⟨i0, Nat.le_refl _, by omega, rfl, by rw [hD0'.out], fun q hq => cls_low s i0 q (by omega), hb4⟩
        case round =>
          obtain ⟨i, hi1, hi2, rfl, rfl, hz, hb5⟩ := hrel
          by_cases hlt : i < s.size
          · have hli : (i : Int) < (s.size : Int) := by omega
            obtain ⟨d, hd⟩ : ∃ d, Hid (depS s i = d) := ⟨_, rfl⟩
            rw [hd.out]
            obtain ⟨K, hK⟩ : ∃ K, Hid (kindN s (i : Int) = K) := ⟨_, rfl⟩
            obtain ⟨N, hN⟩ : ∃ N, Hid (depN s ((i : Int) + 1) = N) := ⟨_, rfl⟩
            have hN' : Hid (depS s (i + 1) = N) := by show _ = _; rw [← hN.out, show (i : Int) + 1 = ((i + 1 : Nat) : Int) by omega, depN_at (by omega)]
            have hdz : d ≤ 1048576 := by have := depS_le s i; rw [hd.out] at this; omega
            have hOb : Hid (opB K = brO s i) := by show _ = _; rw [← hK.out]; exact kind_opN s i
            have hCb : Hid (clB K = brC s i) := by show _ = _; rw [← hK.out]; exact kind_cl s i hlt
            have hstep : Hid (N = stepD (opB K) (clB K) d) := by show _ = _; rw [← hN'.out, depS_succ, hOb.out, hCb.out, hd.out]
            have hci : Hid (c = (i : Int) ↔ clsP s i0 i = true) := by
              constructor
              · intro h
                rcases hcc.out with ⟨p, h1, h2, h3, -⟩ | ⟨h1, -⟩
                · have : p = i := by omega
                  subst this; exact h3
                · omega
              · intro h
                rcases hcc.out with ⟨p, h1, h2, h3, h4⟩ | ⟨-, h1⟩
                · have hip : i ≤ p := Nat.le_of_not_lt (fun hx => by have := hz.out p hx; rw [h3] at this; cases this)
                  by_cases he : i = p
                  · omega
                  · have := h4 i (by omega); rw [h] at this; cases this
                · have := h1 i hlt; rw [h] at this; cases this
            have hdeep : Hid (i = i0 ∨ D0 + 1 ≤ d) := by
              by_cases he : i = i0
              · exact .inl he
              · have := deep_in (i := i - 1) hbr'.out (by omega) (fun q hq => hz.out q (by omega))
                rw [show i - 1 + 1 = i by omega, hd.out, hD0'.out] at this
                exact .inr this
            have hnext : Hid (clsP s i0 i = false → D0 + 1 ≤ N) := fun hx => by
              have := deep_in (i := i) hbr'.out hi1 (fun q hq => by
                by_cases he : q = i
                · rw [he]; exact hx
                · exact hz.out q (by omega))
              rw [hN'.out, hD0'.out] at this
              exact this
            have hend : Hid (clsP s i0 i = true → clB K = true ∧ d = D0 + 1) := fun hx => by
              unfold clsP at hx
              rw [Bool.and_eq_true, Bool.and_eq_true] at hx
              exact ⟨by rw [hCb.out]; exact hx.2.1, by have := of_decide_eq_true hx.2.2; rw [hd.out, hD0'.out] at this; exact this⟩
            have hzn : Hid (clsP s i0 i = false → ∀ q, q < i + 1 → clsP s i0 q = false) := fun hx q hq => by
              by_cases he : q = i
              · rw [he]; exact hx
              · exact hz.out q (by omega)
            have hop0 : Hid (i = i0 → opB K = true) := fun he => by rw [hOb.out, he]; exact hbr'.out
            go_wp2_with fail
            refine Calls.mono (hKi.out (i : Int) (WalkArith.wf_i64 (by omega)) K hK _ hb5.out) ?_
            rintro e w5 ⟨rfl, q5⟩
            have hb6 := hid (hb5.out.trans (q5.mono hb5.out.size))
            clear q5 hb5
            go_wp2_with fail
            refine Calls.mono (hDe.out _ N hN _ hb6.out) ?_
            rintro e w6 ⟨rfl, q6⟩
            have hb7 := hid (hb6.out.trans (q6.mono hb6.out.size))
            clear q6 hb6
            cases hO2 : opB K
            · obtain ⟨o1, o2⟩ := op_not hO2
              have n1 : ((K : Int) == 123) = false := by simp; omega
              have n2 : ((K : Int) == 91) = false := by simp; omega
              have hni : i ≠ i0 := fun he => by have := hop0.out he; rw [hO2] at this; cases this
              have hdd : D0 + 1 ≤ d := by rcases hdeep.out with h | h; exact absurd h hni; exact h
              cases hC2 : clB K
              · obtain ⟨o3, o4⟩ := cl_not hC2
                have n3 : ((K : Int) == 125) = false := by simp; omega
                have n4 : ((K : Int) == 93) = false := by simp; omega
                have hNd : N = d := by rw [hstep.out, hO2, hC2]; rfl
                have nn : ((N : Int) != (d : Int)) = false := by simp; omega
                have hcf : clsP s i0 i = false := by cases hx : clsP s i0 i; rfl; have := (hend.out hx).1; rw [hC2] at this; cases this
                clear o1 o2 o3 o4
                have nci : ((i : Int) == c) = false := by rw [beq_eq_false_iff_ne]; intro h; have := hci.out.1 h.symm; rw [hcf] at this; cases this
                have hNb := hnext.out hcf
                have nb : ((N : Int) == (D0 : Int)) = false := by rw [beq_eq_false_iff_ne]; omega
                by_cases h200 : (i0 : Int) + 200 < (i : Int)
                · clear hNb hNd
                  go_wp2
                  go_ret
                  exact ⟨rfl, hb7.out⟩
                · have n200 : decide ((i0 : Int) + 200 < (i : Int)) = false := by simp; omega
                  clear hNb h200 hNd
                  go_wp2
                  go_roundw
                  case rel => exact ⟨i + 1, by omega, by omega, by go_num, by rw [hN'.out], hzn.out hcf, hb7⟩
                  case measure => simp [intOf]; omega
              · have hNd : N = d - 1 := by rw [hstep.out, hO2, hC2]; rfl
                have nn : ((N : Int) != (d : Int) - 1) = false := by simp; omega
                cases hcf : clsP s i0 i
                · rcases cl_is hC2 with rfl | rfl
                  · have nci : ((i : Int) == c) = false := by rw [beq_eq_false_iff_ne]; intro h; have := hci.out.1 h.symm; rw [hcf] at this; cases this
                    have hNb := hnext.out hcf
                    have nb : ((N : Int) == (D0 : Int)) = false := by rw [beq_eq_false_iff_ne]; omega
                    by_cases h200 : (i0 : Int) + 200 < (i : Int)
                    · clear hNb hNd
                      go_wp2
                      go_ret
                      exact ⟨rfl, hb7.out⟩
                    · have n200 : decide ((i0 : Int) + 200 < (i : Int)) = false := by simp; omega
                      clear hNb h200 hNd
                      go_wp2
                      go_roundw
                      case rel => exact ⟨i + 1, by omega, by omega, by go_num, by rw [hN'.out], hzn.out hcf, hb7⟩
                      case measure => simp [intOf]; omega
                  · have nci : ((i : Int) == c) = false := by rw [beq_eq_false_iff_ne]; intro h; have := hci.out.1 h.symm; rw [hcf] at this; cases this
                    have hNb := hnext.out hcf
                    have nb : ((N : Int) == (D0 : Int)) = false := by rw [beq_eq_false_iff_ne]; omega
                    by_cases h200 : (i0 : Int) + 200 < (i : Int)
                    · clear hNb hNd
                      go_wp2
                      go_ret
                      exact ⟨rfl, hb7.out⟩
                    · have n200 : decide ((i0 : Int) + 200 < (i : Int)) = false := by simp; omega
                      clear hNb h200 hNd
                      go_wp2
                      go_roundw
                      case rel => exact ⟨i + 1, by omega, by omega, by go_num, by rw [hN'.out], hzn.out hcf, hb7⟩
                      case measure => simp [intOf]; omega
                · have hce := hci.out.2 hcf
                  have hde := (hend.out hcf).2
                  have nci : ((i : Int) == c) = true := by rw [beq_iff_eq]; exact hce.symm
                  have nb : ((N : Int) == (D0 : Int)) = true := by rw [beq_iff_eq]; omega
                  rcases cl_is hC2 with rfl | rfl
                  · clear hce hde hNd
                    go_wp2
                    go_ret
                    exact ⟨rfl, hb7.out⟩
                  · clear hce hde hNd
                    go_wp2
                    go_ret
                    exact ⟨rfl, hb7.out⟩
            · have hC2 := op_cl hO2
              have hNd : N = d + 1 := by rw [hstep.out, hO2]; rfl
              have nn : ((N : Int) != (d : Int) + 1) = false := by simp; omega
              have hcf : clsP s i0 i = false := by cases hx : clsP s i0 i; rfl; have := (hend.out hx).1; rw [hC2] at this; cases this
              rcases op_is hO2 with rfl | rfl
              · have nci : ((i : Int) == c) = false := by rw [beq_eq_false_iff_ne]; intro h; have := hci.out.1 h.symm; rw [hcf] at this; cases this
                have hNb := hnext.out hcf
                have nb : ((N : Int) == (D0 : Int)) = false := by rw [beq_eq_false_iff_ne]; omega
                by_cases h200 : (i0 : Int) + 200 < (i : Int)
                · clear hNb hNd
                  go_wp2
                  go_ret
                  exact ⟨rfl, hb7.out⟩
                · have n200 : decide ((i0 : Int) + 200 < (i : Int)) = false := by simp; omega
                  clear hNb h200 hNd
                  go_wp2
                  go_roundw
                  case rel => exact ⟨i + 1, by omega, by omega, by go_num, by rw [hN'.out], hzn.out hcf, hb7⟩
                  case measure => simp [intOf]; omega
              · have nci : ((i : Int) == c) = false := by rw [beq_eq_false_iff_ne]; intro h; have := hci.out.1 h.symm; rw [hcf] at this; cases this
                have hNb := hnext.out hcf
                have nb : ((N : Int) == (D0 : Int)) = false := by rw [beq_eq_false_iff_ne]; omega
                by_cases h200 : (i0 : Int) + 200 < (i : Int)
                · clear hNb hNd
                  go_wp2
                  go_ret
                  exact ⟨rfl, hb7.out⟩
                · have n200 : decide ((i0 : Int) + 200 < (i : Int)) = false := by simp; omega
                  clear hNb h200 hNd
                  go_wp2
                  go_roundw
                  case rel => exact ⟨i + 1, by omega, by omega, by go_num, by rw [hN'.out], hzn.out hcf, hb7⟩
                  case measure => simp [intOf]; omega
          · have hie : i = s.size := by omega
            subst hie
            have hc1 : c = -1 := by
              rcases hcc.out with ⟨p, h1, h2, h3, -⟩ | ⟨h1, -⟩
              · have := hz.out p h2; rw [h3] at this; cases this
              · exact h1
            subst hc1
            go_wp2
            go_ret
            exact ⟨rfl, hb5.out⟩
end Go.Proofs.YtjccgiadmnogeaaDoor
