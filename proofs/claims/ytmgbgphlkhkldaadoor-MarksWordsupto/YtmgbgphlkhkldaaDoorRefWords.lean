/-
  What quarryref08.Words answers.
-/
import Derived.Test.YtmgbgphlkhkldaaDoorRefM2
import Derived.Test.YtmgbgphlkhkldaaDoorMkKind
import Derived.Test.YtmgbgphlkhkldaaDoorRefTexts
import Derived.Test.YtmgbgphlkhkldaaDoorTold8
namespace Go.Proofs.YtmgbgphlkhkldaaDoor
open Go.RowKit Go.Shelf

/-! The words of the first i bytes. -/
/-- The places of a list, two by two. -/
def prs (L : List Nat) : List (Nat × Nat) := (List.range (L.length / 2)).map fun k => (L.getD (2 * k) 0, L.getD (2 * k + 1) 0)
theorem prs_two {L : List Nat} (h : L.length % 2 = 0) (x y : Nat) : prs (L ++ [x, y]) = prs L ++ [(x, y)] := by
  unfold prs
  rw [List.length_append, show (L.length + [x, y].length) / 2 = L.length / 2 + 1 by simp, List.range_succ, List.map_append]
  congr 1
  · refine List.map_congr_left fun k hk => ?_
    rw [List.mem_range] at hk
    simp [List.getD, List.getElem?_append, show 2 * k < L.length by omega, show 2 * k + 1 < L.length by omega]
  · have e : 2 * (L.length / 2) = L.length := by omega
    simp [List.getD, e]
def tlS (s : ByteArray) (i : Nat) : List Nat := (List.range i).filter (turnS s)
theorem tlS_t {s : ByteArray} {i : Nat} (h : turnS s i = true) : tlS s (i + 1) = tlS s i ++ [i] := by simp [tlS, List.range_succ, h]
theorem tlS_f {s : ByteArray} {i : Nat} (h : turnS s i = false) : tlS s (i + 1) = tlS s i := by simp [tlS, List.range_succ, h]
theorem tlS_par (s : ByteArray) (i : Nat) : decide ((tlS s i).length % 2 = 1) = (decide (0 < i) && wordS s (i - 1)) := by
  induction i with
  | zero => rfl
  | succ i ih =>
    rw [Nat.add_sub_cancel, decide_eq_true (show 0 < i + 1 by omega), Bool.true_and]
    cases ht : turnS s i
    · rw [tlS_f ht, ih]
      unfold turnS at ht
      revert ht
      cases wordS s i <;> cases (decide (0 < i) && wordS s (i - 1)) <;> simp
    · have hp : wordS s i = !(decide (0 < i) && wordS s (i - 1)) := by
        unfold turnS at ht
        revert ht
        cases wordS s i <;> cases (decide (0 < i) && wordS s (i - 1)) <;> simp
      rw [tlS_t ht, hp, ← ih, List.length_append]
      by_cases h : (tlS s i).length % 2 = 1
      · rw [decide_eq_true h, decide_eq_false (by simp; omega)]; rfl
      · rw [decide_eq_false h, decide_eq_true (by simp; omega)]; rfl
/-- The turns of the first i bytes; where they end in a word, it ends there. -/
def tqS (s : ByteArray) (i : Nat) : List Nat := if (tlS s i).length % 2 = 1 then tlS s i ++ [i] else tlS s i
def oS (s : ByteArray) (i : Nat) : List (Nat × Nat) := prs (tqS s i)
theorem tq_same {s : ByteArray} {i : Nat} (h : wordS s i = false) : tqS s (i + 1) = tqS s i := by
  have hp := tlS_par s i
  unfold tqS
  cases hprev : (decide (0 < i) && wordS s (i - 1))
  · rw [hprev, decide_eq_false_iff_not] at hp
    rw [tlS_f (by unfold turnS; rw [h, hprev]; rfl), if_neg hp, if_neg hp]
  · rw [hprev, decide_eq_true_eq] at hp
    rw [tlS_t (by unfold turnS; rw [h, hprev]; rfl), if_pos hp, if_neg (by rw [List.length_append]; simp; omega)]
theorem oS_new {s : ByteArray} {i : Nat} (h : wordS s i = true) (hprev : (decide (0 < i) && wordS s (i - 1)) = false) : oS s (i + 1) = oS s i ++ [(i, i + 1)] := by
  have hp := tlS_par s i
  rw [hprev, decide_eq_false_iff_not] at hp
  unfold oS tqS
  rw [tlS_t (by unfold turnS; rw [h, hprev]; rfl), if_neg hp, if_pos (by rw [List.length_append]; simp; omega), List.append_assoc]
  exact prs_two (by omega) i (i + 1)
theorem oS_grow {s : ByteArray} {i : Nat} (h : wordS s i = true) (hprev : (decide (0 < i) && wordS s (i - 1)) = true) : ∃ L a, oS s i = L ++ [(a, i)] ∧ oS s (i + 1) = L ++ [(a, i + 1)] := by
  have hp := tlS_par s i
  rw [hprev, decide_eq_true_eq] at hp
  unfold oS tqS
  rw [tlS_f (by unfold turnS; rw [h, hprev]; rfl), if_pos hp, if_pos hp]
  obtain ⟨M, a, hM⟩ : ∃ M a, tlS s i = M ++ [a] := ⟨(tlS s i).dropLast, (tlS s i).getLast (by intro e; rw [e] at hp; simp at hp), (List.dropLast_concat_getLast _).symm⟩
  have hl : M.length % 2 = 0 := by rw [hM, List.length_append] at hp; simp at hp; omega
  rw [hM, List.append_assoc, List.append_assoc]
  exact ⟨prs M, a, prs_two hl a i, prs_two hl a (i + 1)⟩
theorem turnS_out {s : ByteArray} {i : Nat} (h : s.size < i) : turnS s i = false := by
  unfold turnS
  rw [wordS_out (by omega), wordS_out (by omega)]
  simp
theorem oS_all (s : ByteArray) : oS s s.size = wrdS s := by
  have h1 : trT s = tlS s (64 * (need s.size + 1)) := by
    unfold trT placesB tlS
    congr 1
    exact funext (trX_bit s)
  have h2 : ∀ d, tlS s (s.size + 1 + d) = tlS s (s.size + 1) := by
    intro d
    induction d with
    | zero => rfl
    | succ d ih => rw [← Nat.add_assoc, tlS_f (turnS_out (by omega)), ih]
  have h3 : trT s = tlS s (s.size + 1) := by
    rw [h1, show 64 * (need s.size + 1) = s.size + 1 + (64 * (need s.size + 1) - (s.size + 1)) by unfold need; omega]
    exact h2 _
  have hp := tlS_par s s.size
  have h4 : tlS s (s.size + 1) = tqS s s.size := by
    unfold tqS
    cases hprev : (decide (0 < s.size) && wordS s (s.size - 1))
    · rw [hprev, decide_eq_false_iff_not] at hp
      rw [if_neg hp, tlS_f (by unfold turnS; rw [wordS_out (Nat.le_refl _), hprev]; rfl)]
    · rw [hprev, decide_eq_true_eq] at hp
      rw [if_pos hp, tlS_t (by unfold turnS; rw [wordS_out (Nat.le_refl _), hprev]; rfl)]
  show prs (tqS s s.size) = wrdS s
  rw [← h4, ← h3]
  rfl
theorem oS_len (s : ByteArray) (i : Nat) : (oS s i).length ≤ i := by
  have h : (oS s i).length = (tqS s i).length / 2 := by simp [oS, prs]
  have h2 : (tlS s i).length ≤ i := by have := List.length_filter_le (turnS s) (List.range i); rw [List.length_range] at this; exact this
  rw [h]
  unfold tqS
  split
  · rw [List.length_append]; simp; omega
  · omega
theorem spc_last (L : List (Nat × Nat)) (a b c : Nat) : ((L ++ [(a, b)]).flatMap spc).set (L.length * 2 + 1) (.int .i64 (c : Int)) = (L ++ [(a, c)]).flatMap spc := by
  have hl : ∀ L : List (Nat × Nat), (L.flatMap spc).length = L.length * 2 := by
    intro L
    induction L with
    | nil => rfl
    | cons x L ih => rw [List.flatMap_cons, List.length_append, ih]; simp [spc]; omega
  rw [List.flatMap_append, List.flatMap_append, List.set_append_right _ _ (by rw [hl]; omega), hl, Nat.add_sub_cancel_left]
  rfl
theorem spc_len (L : List (Nat × Nat)) : (L.flatMap spc).length = L.length * 2 := by
  induction L with
  | nil => rfl
  | cons x L ih => rw [List.flatMap_cons, List.length_append, ih]; simp [spc]; omega

set_option maxRecDepth 10000 in
set_option maxHeartbeats 4000000 in
theorem refWords_calls (s : ByteArray) (hs : s.size ≤ 1048576) (w : World) :
    Calls Tryd.prog 19 #[.string s] w fun e w' => ∃ v, e = .returned v ∧ w'.ownsRow w.heap.size 38 2 v (wrdS s).length ((wrdS s).flatMap spc) ∧ Below w.heap.size w w' := by
  obtain ⟨i0, hi0, hz0, hz1, hz2⟩ := info_parts infoSp
  go_enter Tryd.func19, Tryd.ntmps19
  go_wp2_with fail
  refine Calls.mono (bytes8_calls s hs w) ?_
  rintro e V ⟨v, rfl, hr, hbV⟩
  obtain ⟨ao, cap, rfl, hK⟩ := kd_row hr
  have hK' := hid hK
  have hB := hid hbV
  have hsi : (s.size : Int) ≤ 1048576 := by omega
  clear hr hK hbV
  go_wp2_with fail
  go_loopw [4, 5] (fun v ii wr => ∃ (i : Nat) (L : List (Nat × Nat)), i ≤ s.size ∧ ii = .int .i64 (i : Int) ∧ Hid (oS s i = L) ∧ wr.ownsRow V.heap.size 38 2 v L.length (L.flatMap spc) ∧ Below V.heap.size V wr) (fun _ ii _ => s.size - (intOf ii).toNat)
  case atStart => exact ⟨0, [], Nat.zero_le _, rfl, (by show oS s 0 = []; simp [oS, tqS, tlS, prs]), World.ownsRow_nil _ _ _ _, Below.refl _ _⟩
  case round =>
    obtain ⟨i, L, hi, rfl, hL, hown0, hb0⟩ := hrel
    have hown := hid hown0
    have hbW := hid hb0
    have hzW := hb0.size
    clear hown0 hb0
    by_cases hlt : i < s.size
    · have hli : (i : Int) < (s.size : Int) := by omega
      obtain ⟨B, hBe⟩ : ∃ B, Hid (begS s i = B) := ⟨_, rfl⟩
      have hil := oS_len s i
      rw [hL.out] at hil
      have hKw := hid (hK'.out.kept (Nat.le_refl _) hbW.out)
      obtain ⟨gk, hao, -, hc⟩ := hKw.out i hlt
      obtain ⟨d, hd⟩ : ∃ d, Hid (kdS s i = d) := ⟨_, rfl⟩
      rw [hd.out] at hc
      have hwd := kd_word hlt
      rw [hd.out] at hwd
      by_cases d6 : d = 6
      · subst d6
        have hw1 := hwd.1 rfl
        have hBp : Hid (B = !(decide (0 < i) && wordS s (i - 1))) := by
          show _ = _
          rw [← hBe.out, beg_three]
          have hns : strS s i = false := by cases hh : strS s i; rfl; exact absurd (((kd_str hlt).2 hh).symm.trans hd.out) (by decide)
          have hno : opnS s i = false := by cases hh : opnS s i; rfl; exact absurd (((kd_opens s i).2 hh).symm.trans hd.out) (by decide)
          rw [hns, hno]
          unfold firS
          rw [hw1]
          rfl
        have hbg := hid (begins8_calls s hs i hlt B hBe ao cap wr hKw.out)
        subst hao
        clear hwd hd
        go_wp2_with fail
        refine Calls.mono hbg.out ?_
        rintro e wr' ⟨rfl, hwr⟩
        obtain rfl := hwr.symm
        clear hbg
        cases B with
        | true =>
          have hn : Hid (oS s (i + 1) = L ++ [(i, i + 1)]) := by show _ = _; rw [oS_new hw1 (by have h := hBp.out; revert h; cases (decide (0 < i) && wordS s (i - 1)) <;> simp), hL.out]
          clear hBe hBp
          obtain ⟨k, hk⟩ : ∃ k, Hid (L.length = k) := ⟨_, rfl⟩
          rw [hk.out] at hown hil
          go_wp2_with (first
            | (at_builtin; refine wpList_append_own _ rfl _ _ 39 rfl V.heap.size 38 i0 (.agg #[.int .i64 0, .int .i64 0]) 2 16 Tryd.underlying39 hi0 hz0 hz1 hz2 rfl (by decide) _ _ _ rfl (World.ownsRow.alloc hown.out _) ⟨wr.heap.size, 0, none⟩ 1 1 [.int .i64 (i : Int), .int .i64 0] rfl rfl (fun j u hj => by match j, hj with | 0, hj => simp at hj; subst hj; simp [Addr.add] | 1, hj => simp at hj; subst hj; simp [Addr.add]) (fun u hu => by simp at hu; rcases hu with rfl | rfl <;> rfl) (by unfold maxLen; omega) (by omega) (by simp; omega) ?_)
            | go_in)
          intro v' wn hown1 hgrow _
          have hbn := (hbW.out.alloc hbW.out.size (.cells #[.int .i64 (i : Int), .int .i64 0] 38)).grown hgrow (by simp; omega) (fun b e => by have := (hown.out.lt b e).1; omega)
          have hrow1 := hid (show wn.ownsRow V.heap.size 38 2 v' (k + 1) ((L ++ [(i, 0)]).flatMap spc) by
            rw [List.flatMap_append]
            exact hown1)
          obtain ⟨g', cap', rfl⟩ : ∃ g cap, v' = .slice (some ⟨g, 0, none⟩) (k + 1) cap := by
            rcases hown1.2 with ⟨-, h⟩ | ⟨g, cap, cur, hv, -⟩
            · omega
            · exact ⟨g, cap, hv⟩
          have c1 := hrow1.out.cellAt (k * 2 + 1) (by omega)
          have f1 := hrow1.out.frozenAt (k * 2 + 1)
          have e0 : ((L ++ [(i, 0)]).flatMap spc)[k * 2 + 1]? = some (Value.int .i64 ((0 : Nat) : Int)) := (spc_get (L ++ [(i, 0)]) k i 0 (by rw [← hk.out]; simp)).2
          rw [e0] at c1
          clear e0
          have hst := hid ((hrow1.out.stored (k * 2 + 1) (.int .i64 ((i + 1 : Nat) : Int))).1)
          have hgb : V.heap.size ≤ g' := (hrow1.out.lt g' rfl).1
          have hkl : (k : Int) ≤ 1048576 := by omega
          clear hgrow hown1 hown hrow1
          go_wp2
          go_roundw
          case rel =>
            refine ⟨i + 1, L ++ [(i, i + 1)], by omega, by simp, hn, ?_, hbn.setCell (p := ⟨g', k * 2 + 1, none⟩) hgb _⟩
            have h := hst.out
            rw [← hk.out, spc_last] at h
            rw [List.length_append]
            simp only [List.length_cons, List.length_nil, hk.out] at h ⊢
            simpa using h
          case measure => simp [intOf]; omega
        | false =>
          obtain ⟨L0, a, e1, e2⟩ := oS_grow hw1 (by have h := hBp.out; revert h; cases (decide (0 < i) && wordS s (i - 1)) <;> simp)
          rw [hL.out] at e1
          subst e1
          obtain ⟨k, hk⟩ : ∃ k, Hid (L0.length = k) := ⟨_, rfl⟩
          have hlk : (L0 ++ [(a, i)]).length = k + 1 := by rw [List.length_append, hk.out]; rfl
          rw [hlk] at hil
          have hrow1 := hid (show wr.ownsRow V.heap.size 38 2 u4 (k + 1) ((L0 ++ [(a, i)]).flatMap spc) by rw [← hlk]; exact hown.out)
          obtain ⟨g', cap', rfl⟩ : ∃ g cap, u4 = .slice (some ⟨g, 0, none⟩) (k + 1) cap := by
            rcases hrow1.out.2 with ⟨-, h⟩ | ⟨g, cap, cur, hv, -⟩
            · omega
            · exact ⟨g, cap, hv⟩
          have c1 := hrow1.out.cellAt (k * 2 + 1) (by omega)
          have f1 := hrow1.out.frozenAt (k * 2 + 1)
          have e0 : ((L0 ++ [(a, i)]).flatMap spc)[k * 2 + 1]? = some (Value.int .i64 ((i : Nat) : Int)) := (spc_get (L0 ++ [(a, i)]) k a i (by rw [← hk.out]; simp)).2
          rw [e0] at c1
          clear e0
          have hst := hid ((hrow1.out.stored (k * 2 + 1) (.int .i64 ((i + 1 : Nat) : Int))).1)
          have hgb : V.heap.size ≤ g' := (hrow1.out.lt g' rfl).1
          have hkl : (k : Int) ≤ 1048576 := by omega
          have hn := hid e2
          clear hown hrow1 hL hBe hBp e2
          go_wp2
          go_roundw
          case rel =>
            refine ⟨i + 1, L0 ++ [(a, i + 1)], by omega, by simp, hn, ?_, hbW.out.setCell (p := ⟨g', k * 2 + 1, none⟩) hgb _⟩
            have h := hst.out
            rw [← hk.out, spc_last] at h
            rw [List.length_append]
            simp only [List.length_cons, List.length_nil, hk.out] at h ⊢
            simpa using h
          case measure => simp [intOf]; omega
      · have d6' : ((d : Int) != 6) = true := by simp; omega
        have hwf : wordS s i = false := by
          cases hh : wordS s i
          · rfl
          · exact absurd (hwd.2 hh) d6
        have hn : Hid (oS s (i + 1) = L) := by show _ = _; rw [← hL.out]; unfold oS; rw [tq_same hwf]
        subst hao
        clear hwd hd hBe
        go_wp2
        go_roundw
        case rel => exact ⟨i + 1, L, by omega, by simp, hn, hown.out, hbW.out⟩
        case measure => simp [intOf]; omega
    · obtain rfl : i = s.size := by omega
      rw [oS_all] at hL
      go_wp2
      go_ret
      refine ⟨_, rfl, ?_, hB.out.trans (hbW.out.mono hB.out.size)⟩
      rw [hL.out]
      obtain ⟨o1, o2⟩ := hown.out
      refine ⟨o1, ?_⟩
      rcases o2 with h | ⟨g, cap, cur, h1, h2, h3⟩
      · exact .inl h
      · exact .inr ⟨g, cap, cur, h1, Nat.le_trans hB.out.size h2, h3⟩
end Go.Proofs.YtmgbgphlkhkldaaDoor
