/-
  What the reference's Cmp answers: the same.
-/
import Derived.Test.YthfbmelfflpenaaDoorDecCmp
import Derived.Test.YthfbmelfflpenaaDoorRefForm
namespace Go.Proofs.YthfbmelfflpenaaDoor
open Go.RowKit Go.Shelf

theorem cmpB_neg : ∀ (a b : List UInt8), Lib.compareBytes b a = - Lib.compareBytes a b
  | [], [] => rfl
  | [], _ :: _ => rfl
  | _ :: _, [] => rfl
  | a :: u, b :: v => by
    unfold Lib.compareBytes
    have ih := cmpB_neg u v
    by_cases h1 : a < b
    · have h2 : ¬ b < a := fun h => by have := UInt8.lt_iff_toNat_lt.1 h1; have := UInt8.lt_iff_toNat_lt.1 h; omega
      simp only [h1, h2, if_true, if_false]; rfl
    · by_cases h2 : b < a
      · simp only [h1, h2, if_true, if_false]
      · simp only [h1, h2, if_false]; exact ih
theorem gt_cmp : ∀ (a b : List UInt8), (!(Op.bytesLess a b || a == b)) = decide (Lib.compareBytes a b = 1)
  | [], [] => rfl
  | [], _ :: _ => rfl
  | _ :: _, [] => rfl
  | a :: u, b :: v => by
    have ih := gt_cmp u v
    unfold Lib.compareBytes Op.bytesLess
    by_cases h1 : a < b
    · have h3 : decide (a < b) = true := decide_eq_true h1
      simp [h1]
    · by_cases h2 : b < a
      · have h3 : ¬ a = b := fun e => by subst e; exact h1 h2
        have h4 : (a == b) = false := by simpa using h3
        simp [h1, h2, h3]
      · have h3 : a = b := by
          apply UInt8.toNat_inj.1
          have e1 : ¬ a.toNat < b.toNat := fun h => h1 (UInt8.lt_iff_toNat_lt.2 h)
          have e2 : ¬ b.toNat < a.toNat := fun h => h2 (UInt8.lt_iff_toNat_lt.2 h)
          omega
        subst h3
        simp only [h1, decide_false, beq_self_eq_true, Bool.true_and, Bool.false_or, if_false]
        rw [← ih]
        congr 2
        simp [List.cons_beq_cons]
theorem cmpI_neg (a b : Int) : Lib.compareInt b a = - Lib.compareInt a b := by
  unfold Lib.compareInt
  split <;> split <;> (try split) <;> (try rfl) <;> omega
/-- Is the one above the other, without signs? -/
def abvS (t : ByteArray) (x : Int) (t' : ByteArray) (x' : Int) : Bool := if topS t x ≠ topS t' x' then decide (topS t' x' < topS t x) else decide (Lib.compareBytes t.data.toList t'.data.toList = 1)
theorem cmpI_zero (a b : Int) : Lib.compareInt a b = 0 ↔ a = b := by
  unfold Lib.compareInt
  split
  · constructor
    · intro h; cases h
    · omega
  · split
    · constructor
      · intro h; cases h
      · omega
    · constructor <;> intro <;> omega
theorem abv_siz (t : ByteArray) (x : Int) (t' : ByteArray) (x' : Int) : abvS t x t' x' = decide (sizS t x t' x' = 1) := by
  unfold abvS sizS
  by_cases h : topS t x = topS t' x'
  · rw [if_neg (by simpa using h), if_neg (by simpa using (cmpI_zero _ _).2 h)]
  · rw [if_pos h, if_pos (fun e => h ((cmpI_zero _ _).1 e))]
    unfold Lib.compareInt
    congr 1
    split
    · simp; omega
    · rw [if_pos (by omega)]; simp; omega
theorem siz_neg (t : ByteArray) (x : Int) (t' : ByteArray) (x' : Int) : sizS t' x' t x = - sizS t x t' x' := by
  unfold sizS
  rw [cmpI_neg (topS t x) (topS t' x'), cmpB_neg t.data.toList t'.data.toList]
  by_cases h : Lib.compareInt (topS t x) (topS t' x') = 0
  · rw [if_neg (by simp [h]), if_neg (by simp [h])]
  · rw [if_pos (by simpa using h), if_pos h]

set_option maxRecDepth 10000 in
theorem refSign_calls (n : Bool) (t : ByteArray) (x : Int) (C : Int) (hC : Hid (sgnS n t = C)) (w : World) :
    Calls Tryd.prog 46 #[.agg #[.bool n, .string t, .int .i64 x]] w fun e w' => e = .returned (.int .i64 C) ∧ Below w.heap.size w w' := by
  go_enter Tryd.func46, Tryd.ntmps46
  have hBU : Below w.heap.size w (w.alloc (.cells #[.bool n, .string t, .int .i64 x] 35)) := by repeat (first | with_reducible exact Below.refl _ _ | with_reducible refine Below.setCell ?_ (by first | (simp; done) | (simp; omega)) _ | with_reducible refine below_drewN ?_ _ | with_reducible refine Below.alloc ?_ (by first | (simp; done) | (simp; omega)) _ | with_reducible refine Below.drew ?_)
  have A0 := At.new w #[.bool n, .string t, .int .i64 x] 35
  have c0 : (w.alloc (.cells #[.bool n, .string t, .int .i64 x] 35)).cell? ⟨w.heap.size, 0, none⟩ = some (.bool n) := A0.cell 0
  have c1 : (w.alloc (.cells #[.bool n, .string t, .int .i64 x] 35)).cell? ⟨w.heap.size, 1, none⟩ = some (.string t) := A0.cell 1
  clear A0
  have hc := hC.out
  unfold sgnS at hc
  clear hC
  by_cases h0 : t.size = 0
  · rw [if_pos h0] at hc
    subst hc
    have e0 : (((t.size : Nat) : Int) == 0) = true := by simp [h0]
    clear h0
    go_wp2
    go_ret
    exact ⟨rfl, hBU⟩
  · rw [if_neg h0] at hc
    have e0 : (((t.size : Nat) : Int) == 0) = false := beq_eq_false_iff_ne.2 (by omega)
    clear h0
    cases n
    · obtain rfl := hc
      go_wp2
      go_ret
      exact ⟨rfl, hBU⟩
    · obtain rfl := hc
      go_wp2
      go_ret
      exact ⟨rfl, hBU⟩

set_option maxRecDepth 10000 in
set_option maxHeartbeats 2000000 in
theorem above_calls (n : Bool) (t : ByteArray) (x : Int) (n' : Bool) (t' : ByteArray) (x' : Int) (hs : t.size ≤ 4611686018427387904) (h0 : -4611686018427387904 ≤ x) (h1 : x ≤ 4611686018427387903) (hs' : t'.size ≤ 4611686018427387904) (h0' : -4611686018427387904 ≤ x') (h1' : x' ≤ 4611686018427387903)
    (B : Bool) (hB : Hid (abvS t x t' x' = B)) (w : World) :
    Calls Tryd.prog 47 #[.agg #[.bool n, .string t, .int .i64 x], .agg #[.bool n', .string t', .int .i64 x']] w fun e w' => e = .returned (.bool B) ∧ Below w.heap.size w w' := by
  have T0 := hid (TwoD.new w n t x n' t' x')
  obtain ⟨p, hp⟩ : ∃ p, IntKind.i64.wrap ((t.size : Int) + x) = p := ⟨_, rfl⟩
  obtain ⟨q, hq'⟩ : ∃ q, IntKind.i64.wrap ((t'.size : Int) + x') = q := ⟨_, rfl⟩
  have hpe := hid (show topS t x = p by rw [← hp, IntKind.wrap_i64]; unfold topS; omega)
  have hqe := hid (show topS t' x' = q by rw [← hq', IntKind.wrap_i64]; unfold topS; omega)
  have hb := hB.out
  unfold abvS at hb
  rw [hpe.out, hqe.out] at hb
  have hb' := hid hb
  clear hb hB hpe hqe hs hs' h0 h1 h0' h1'
  go_enter Tryd.func47, Tryd.ntmps47
  go_wp2
  refine wp_region_quiet (C := (fun w' => (w'.cell? ⟨w.heap.size, 1, none⟩ = some (.string t) ∧ w'.cell? ⟨w.heap.size, 2, none⟩ = some (.int .i64 x) ∧ w'.cell? ⟨w.heap.size + 1, 1, none⟩ = some (.string t') ∧ w'.cell? ⟨w.heap.size + 1, 2, none⟩ = some (.int .i64 x')) ∧ TwoD w n t x n' t' x' w')) (by kernel_rfl) (by kernel_rfl) (⟨⟨T0.out.drew.facts.2.1, T0.out.drew.facts.2.2.1, T0.out.drew.facts.2.2.2.2.1, T0.out.drew.facts.2.2.2.2.2⟩, T0.out.drew⟩) ?_
  dsimp only
  repeat (first
    | (refine wpQuiet_skip (by rfl) ?_; simp only [Act.put, List.setIfInBounds_toArray, List.set_cons_zero, List.set_cons_succ])
    | (refine' wpQuiet_take (by rfl) ?_ ?_
       rotate_left
       · (intro wq hq; (try dsimp only at hq); go_simp
          first
            | done
            | with_reducible rfl
         )
       simp only [Act.put, List.setIfInBounds_toArray, List.set_cons_zero, List.set_cons_succ]))
  refine wpQuiet_nil ?_
  rintro w1 ⟨⟨c1, c2, d1, d2⟩, T1⟩
  have T1' := hid T1
  clear T0 T1 hp hq'
  by_cases hq : p = q
  · have e0 : (p != q) = false := by simpa using hq
    have hz := hb'.out
    rw [if_neg (by simpa using hq)] at hz
    have hz' := hid hz
    clear hz hb' hq
    go_wp2
    go_ret
    refine ⟨?_, T1'.out.below⟩
    rw [← hz'.out, ← gt_cmp, ← Lib.toList_data, ← Lib.toList_data, Bool.not_or]
    rfl
  · have e0 : (p != q) = true := by simpa using hq
    have hz := hb'.out
    rw [if_pos hq] at hz
    have hz' := hid hz
    clear hz hb' hq
    go_wp2
    go_ret
    refine ⟨?_, T1'.out.below⟩
    rw [← hz'.out]
    rfl

theorem refcmp_eq {n : Bool} {t : ByteArray} {x : Int} {n' : Bool} {t' : ByteArray} {x' : Int} :
    cmpS n t x n' t' x' = if sgnS n t < sgnS n' t' then -1 else if sgnS n' t' < sgnS n t then 1 else if sgnS n t = 0 then 0 else if abvS t x t' x' = true then sgnS n t else if abvS t' x' t x = true then - sgnS n t else 0 := by
  rw [abv_siz, abv_siz, siz_neg t x t' x']
  unfold cmpS
  have h1 := siz_in t x t' x'
  generalize sgnS n t = p
  generalize sgnS n' t' = q
  generalize sizS t x t' x' = M at *
  by_cases hpq : p = q
  · subst hpq
    rw [if_neg (by simp), if_neg (by omega), if_neg (by omega)]
    by_cases hp : p = 0
    · rw [if_pos hp, hp, Int.zero_mul]
    · rw [if_neg hp]
      rcases h1 with rfl | rfl | rfl <;> simp
  · rw [if_pos hpq]
    unfold Lib.compareInt
    by_cases h2 : p < q
    · rw [if_pos h2, if_pos h2]
    · rw [if_neg h2, if_neg h2, if_pos (by omega), if_pos (by omega)]

set_option maxRecDepth 10000 in
set_option maxHeartbeats 4000000 in
theorem refCmp_calls (n : Bool) (t : ByteArray) (x : Int) (n' : Bool) (t' : ByteArray) (x' : Int) (hs : t.size ≤ 4611686018427387904) (hs' : t'.size ≤ 4611686018427387904)
    (C E : Int) (hC : Hid (cmpR n t x n' t' x' = (C, E))) (w : World) :
    Calls Tryd.prog 36 #[.agg #[.bool n, .string t, .int .i64 x], .agg #[.bool n', .string t', .int .i64 x']] w fun e w' => e = .returned (.tuple #[.int .i64 C, .int .i64 E]) ∧ Below w.heap.size w w' := by
  obtain ⟨F, hF⟩ : ∃ F, Hid (frmS t x = F) := ⟨_, rfl⟩
  obtain ⟨G, hG⟩ : ∃ G, Hid (frmS t' x' = G) := ⟨_, rfl⟩
  have cF := hid (fun w1 => refFormed_calls n t x hs F hF w1)
  have cG := hid (fun w1 => refFormed_calls n' t' x' hs' G hG w1)
  have T0 := hid (TwoD.new w n t x n' t' x')
  obtain ⟨c0, c1, c2, d0, d1, d2⟩ := T0.out.facts
  have hs2 := hid hs
  have hs2' := hid hs'
  clear hs hs'
  go_enter Tryd.func36, Tryd.ntmps36
  go_wp2_with fail
  refine Calls.mono (cF.out _) ?_
  rintro e w1 ⟨rfl, hb⟩
  have T1 := hid (T0.out.kept hb)
  clear c0 c1 c2 d0 d1 d2 T0 cF hb
  obtain ⟨c0, c1, c2, d0, d1, d2⟩ := T1.out.facts
  cases F with
  | false =>
    have hCE := hC.out
    rw [cmpR, hF.out] at hCE
    obtain ⟨rfl, rfl⟩ : 0 = C ∧ 1 = E := by simpa using hCE
    clear hCE hC hF hG cG
    go_wp2
    refine bodyPost_ret (results_tmp2 rfl _ _ _) rfl ?_
    exact ⟨rfl, T1.out.below⟩
  | true =>
    go_wp2_with fail
    refine Calls.mono (cG.out _) ?_
    rintro e w2 ⟨rfl, hb⟩
    have T2 := hid (T1.out.kept hb)
    clear c0 c1 c2 d0 d1 d2 T1 cG hb
    cases G with
    | false =>
      have hCE := hC.out
      rw [cmpR, hF.out, hG.out] at hCE
      obtain ⟨rfl, rfl⟩ : 0 = C ∧ 1 = E := by simpa using hCE
      clear hCE hC hF hG
      go_wp2
      refine bodyPost_ret (results_tmp2 rfl _ _ _) rfl ?_
      exact ⟨rfl, T2.out.below⟩
    | true =>
      have hCE := hC.out
      rw [cmpR, hF.out, hG.out, Bool.and_self, if_pos rfl] at hCE
      obtain ⟨hCC, rfl⟩ : cmpS n t x n' t' x' = C ∧ 0 = E := by simpa using hCE
      obtain ⟨x0, x1⟩ := frm_in hF.out
      obtain ⟨y0, y1⟩ := frm_in hG.out
      obtain ⟨p, hp⟩ : ∃ p, Hid (sgnS n t = p) := ⟨_, rfl⟩
      obtain ⟨q, hq⟩ : ∃ q, Hid (sgnS n' t' = q) := ⟨_, rfl⟩
      obtain ⟨A, hA⟩ : ∃ A, Hid (abvS t x t' x' = A) := ⟨_, rfl⟩
      obtain ⟨B, hB⟩ : ∃ B, Hid (abvS t' x' t x = B) := ⟨_, rfl⟩
      have hpi := hid (show p = -1 ∨ p = 0 ∨ p = 1 by rw [← hp.out]; exact sgn_in _ _)
      have hCe := hid (show (if p < q then -1 else if q < p then 1 else if p = 0 then 0 else if A = true then p else if B = true then - p else 0) = C by rw [← hCC, refcmp_eq, hp.out, hq.out, hA.out, hB.out])
      have cp := hid (fun w1 => refSign_calls n t x p hp w1)
      have cq := hid (fun w1 => refSign_calls n' t' x' q hq w1)
      have cA := hid (fun w1 => above_calls n t x n' t' x' hs2.out (by omega) (by omega) hs2'.out (by omega) (by omega) A hA w1)
      have cB := hid (fun w1 => above_calls n' t' x' n t x hs2'.out (by omega) (by omega) hs2.out (by omega) (by omega) B hB w1)
      clear hC hF hG hCE hCC hp hq hA hB x0 x1 y0 y1
      go_wp2
      refine wp_region_quiet (C := (fun w' => TwoD w n t x n' t' x' w')) (by kernel_rfl) (by kernel_rfl) (T2.out.drew) ?_
      dsimp only
      repeat (first
        | (refine wpQuiet_skip (by rfl) ?_; simp only [Act.put, List.setIfInBounds_toArray, List.set_cons_zero, List.set_cons_succ])
        | (refine wpQuiet_load 35 _ (w.heap.size) (0) [.bool n, .string t, .int .i64 x] _ (fun wq hq => At.range (TwoD.one hq) rfl) Tryd.underlying35 sizeDec rfl rfl rfl (by rfl) ?_; simp only [Act.put, List.setIfInBounds_toArray, List.set_cons_zero, List.set_cons_succ])
        | (refine wpQuiet_load 35 _ (w.heap.size + 1) (0) [.bool n', .string t', .int .i64 x'] _ (fun wq hq => At.range (TwoD.two hq) rfl) Tryd.underlying35 sizeDec rfl rfl rfl (by rfl) ?_; simp only [Act.put, List.setIfInBounds_toArray, List.set_cons_zero, List.set_cons_succ])
        | (refine' wpQuiet_take (by rfl) ?_ ?_
           rotate_left
           · (intro wq hq; (try dsimp only at hq); go_simp
              first
                | done
                | with_reducible rfl
                | (go_at_call 46; with_reducible refine (cp.out _).mono ?_; rintro e wz ⟨rfl, hb⟩; exact ⟨rfl, TwoD.kept hq hb⟩)
                | (go_at_call 46; with_reducible refine (cq.out _).mono ?_; rintro e wz ⟨rfl, hb⟩; exact ⟨rfl, TwoD.kept hq hb⟩)
             )
           simp only [Act.put, List.setIfInBounds_toArray, List.set_cons_zero, List.set_cons_succ]))
      refine wpQuiet_nil ?_
      intro w3 T3
      have T3' := hid T3
      clear T2 T3 cp cq
      by_cases h1 : p < q
      · obtain rfl : -1 = C := by rw [← hCe.out, if_pos h1]
        clear hCe cA cB hpi
        go_wp2
        refine bodyPost_ret (results_tmp2 rfl _ _ _) rfl ?_
        exact ⟨rfl, T3'.out.below⟩
      · by_cases h2 : q < p
        · obtain rfl : 1 = C := by rw [← hCe.out, if_neg h1, if_pos h2]
          clear hCe cA cB hpi
          go_wp2
          refine bodyPost_ret (results_tmp2 rfl _ _ _) rfl ?_
          exact ⟨rfl, T3'.out.below⟩
        · obtain rfl : p = q := by omega
          have hCe2 := hCe.out
          rw [if_neg h1, if_neg h1] at hCe2
          have hCe3 := hid hCe2
          clear hCe hCe2
          by_cases h3 : p = 0
          · obtain rfl : 0 = C := by rw [← hCe3.out, if_pos h3]
            clear hCe3 cA cB hpi
            subst h3
            go_wp2
            refine bodyPost_ret (results_tmp2 rfl _ _ _) rfl ?_
            exact ⟨rfl, T3'.out.below⟩
          · have e3 : (p == 0) = false := by simpa using h3
            have hCe4 := hCe3.out
            rw [if_neg h3] at hCe4
            have hCe5 := hid hCe4
            obtain ⟨c0, c1, c2, d0, d1, d2⟩ := T3'.out.facts
            clear hCe3 hCe4 h1 h2
            go_wp2_with fail
            refine Calls.mono (cA.out _) ?_
            rintro e w4 ⟨rfl, hb⟩
            have T4 := hid (T3'.out.kept hb)
            clear c0 c1 c2 d0 d1 d2 T3' cA hb
            cases A with
            | true =>
              obtain rfl : p = C := by rw [← hCe5.out, if_pos rfl]
              clear hCe5 cB hpi h3
              go_wp2
              refine bodyPost_ret (results_tmp2 rfl _ _ _) rfl ?_
              exact ⟨rfl, T4.out.below⟩
            | false =>
              obtain ⟨c0, c1, c2, d0, d1, d2⟩ := T4.out.facts
              go_wp2_with fail
              refine Calls.mono (cB.out _) ?_
              rintro e w5 ⟨rfl, hb⟩
              have T5 := hid (T4.out.kept hb)
              clear c0 c1 c2 d0 d1 d2 T4 cB hb
              cases B with
              | true =>
                have hz := hCe5.out
                simp at hz
                rcases hpi.out with rfl | rfl | rfl
                all_goals
                  subst hz
                  clear hCe5 hpi h3
                  go_wp2
                  refine bodyPost_ret (results_tmp2 rfl _ _ _) rfl ?_
                  exact ⟨rfl, T5.out.below⟩
              | false =>
                obtain rfl : 0 = C := by have := hCe5.out; simpa using this
                clear hCe5 hpi h3
                go_wp2
                refine bodyPost_ret (results_tmp2 rfl _ _ _) rfl ?_
                exact ⟨rfl, T5.out.below⟩
end Go.Proofs.YthfbmelfflpenaaDoor
