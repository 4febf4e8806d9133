/-
  What decimal.Cmp answers.
-/
import Derived.Test.YtjlcliicdclooaaDoorDecR
import Derived.Lib.Bytealg
import Derived.Lib.Small
namespace Go.Proofs.YtjlcliicdclooaaDoor
open Go.RowKit Go.Shelf
def sgnS (n : Bool) (t : ByteArray) : Int := if t.size = 0 then 0 else if n then -1 else 1
def topS (t : ByteArray) (x : Int) : Int := (t.size : Int) + x
/-- Without the signs. -/
def sizS (t : ByteArray) (x : Int) (t' : ByteArray) (x' : Int) : Int := if Lib.compareInt (topS t x) (topS t' x') ≠ 0 then Lib.compareInt (topS t x) (topS t' x') else Lib.compareBytes t.data.toList t'.data.toList
def cmpS (n : Bool) (t : ByteArray) (x : Int) (n' : Bool) (t' : ByteArray) (x' : Int) : Int := if sgnS n t ≠ sgnS n' t' then Lib.compareInt (sgnS n t) (sgnS n' t') else sgnS n t * sizS t x t' x'
theorem sgn_in (n : Bool) (t : ByteArray) : sgnS n t = -1 ∨ sgnS n t = 0 ∨ sgnS n t = 1 := by
  unfold sgnS
  split
  · exact .inr (.inl rfl)
  · split
    · exact .inl rfl
    · exact .inr (.inr rfl)
theorem cmpI_in (a b : Int) : Lib.compareInt a b = -1 ∨ Lib.compareInt a b = 0 ∨ Lib.compareInt a b = 1 := by
  unfold Lib.compareInt
  split
  · exact .inl rfl
  · split
    · exact .inr (.inr rfl)
    · exact .inr (.inl rfl)
theorem cmpB_in : ∀ (a b : List UInt8), Lib.compareBytes a b = -1 ∨ Lib.compareBytes a b = 0 ∨ Lib.compareBytes a b = 1
  | [], [] => .inr (.inl rfl)
  | [], _ :: _ => .inl rfl
  | _ :: _, [] => .inr (.inr rfl)
  | a :: u, b :: v => by
    unfold Lib.compareBytes
    split
    · exact .inl rfl
    · split
      · exact .inr (.inr rfl)
      · exact cmpB_in u v
theorem siz_in (t : ByteArray) (x : Int) (t' : ByteArray) (x' : Int) : sizS t x t' x' = -1 ∨ sizS t x t' x' = 0 ∨ sizS t x t' x' = 1 := by
  unfold sizS
  split
  · exact cmpI_in _ _
  · exact cmpB_in _ _
theorem cmpI_calls (a b : Int) (C : Int) (hC : Hid (Lib.compareInt a b = C)) (w : World) :
    Calls Tryd.prog 72 #[.int .i64 a, .int .i64 b] w fun e w' => e = .returned (.int .i64 C) ∧ w' = w := by
  go_enter Tryd.func72, Tryd.ntmps72
  have hc := hC.out
  clear hC
  unfold Lib.compareInt at hc
  by_cases h1 : a < b
  · rw [if_pos h1] at hc
    subst hc
    go_wp2
    go_ret
    exact ⟨rfl, rfl⟩
  · rw [if_neg h1] at hc
    by_cases h2 : b < a
    · rw [if_pos h2] at hc
      subst hc
      go_wp2
      go_ret
      exact ⟨rfl, rfl⟩
    · rw [if_neg h2] at hc
      subst hc
      go_wp2
      go_ret
      exact ⟨rfl, rfl⟩
theorem cmpL_calls (a b : Int) (C : Int) (hC : Hid (Lib.compareInt a b = C)) (w : World) :
    Calls Tryd.prog 89 #[.int .i64 a, .int .i64 b] w fun e w' => e = .returned (.int .i64 C) ∧ w' = w := by
  go_enter Tryd.func89, Tryd.ntmps89
  have hc := hC.out
  clear hC
  unfold Lib.compareInt at hc
  by_cases h1 : a < b
  · rw [if_pos h1] at hc
    subst hc
    go_wp2
    go_ret
    exact ⟨rfl, rfl⟩
  · rw [if_neg h1] at hc
    by_cases h2 : b < a
    · rw [if_pos h2] at hc
      subst hc
      go_wp2
      go_ret
      exact ⟨rfl, rfl⟩
    · rw [if_neg h2] at hc
      subst hc
      go_wp2
      go_ret
      exact ⟨rfl, rfl⟩
set_option maxRecDepth 10000 in
theorem cmpT0_calls (a b : ByteArray) (w : World) :
    Calls Tryd.prog 104 #[.string a, .string b] w fun e w' => e = .returned (.int .i64 (Lib.compareBytes a.data.toList b.data.toList)) ∧ w' = w := by
  go_enter Tryd.func104, Tryd.ntmps104
  go_wp2
  rw [run_callFunc_extern Tryd.func117 (by kernel_rfl) (by kernel_rfl) (by kernel_rfl) (e := Extern.BytealgCompare.compare) (by kernel_rfl), Lib.run_compareString]
  simp only [Result.andThen]
  rw [Oper.upon_value]
  go_wp2
  go_ret
  exact ⟨rfl, rfl⟩
theorem cmpT_calls (a b : ByteArray) (C : Int) (hC : Hid (Lib.compareBytes a.data.toList b.data.toList = C)) (w : World) :
    Calls Tryd.prog 91 #[.string a, .string b] w fun e w' => e = .returned (.int .i64 C) ∧ w' = w := by
  have hc := hid (cmpT0_calls a b w)
  go_enter Tryd.func91, Tryd.ntmps91
  go_wp2_with fail
  refine Calls.mono hc.out ?_
  rintro e w1 ⟨rfl, rfl⟩
  rw [hC.out]
  clear hc hC
  go_wp2
  go_ret
  exact ⟨rfl, rfl⟩
set_option maxRecDepth 10000 in
theorem sign_calls (n : Bool) (t : ByteArray) (x : Int) (C : Int) (hC : Hid (sgnS n t = C)) (w : World) :
    Calls Tryd.prog 71 #[.agg #[.bool n, .string t, .int .i64 x]] w fun e w' => e = .returned (.int .i64 C) ∧ Below w.heap.size w w' := by
  go_enter Tryd.func71, Tryd.ntmps71
  have hBU : Below w.heap.size w (w.alloc (.cells #[.bool n, .string t, .int .i64 x] 79)) := by repeat (first | with_reducible exact Below.refl _ _ | with_reducible refine Below.setCell ?_ (by first | (simp; done) | (simp; omega)) _ | with_reducible refine below_drewN ?_ _ | with_reducible refine Below.alloc ?_ (by first | (simp; done) | (simp; omega)) _ | with_reducible refine Below.drew ?_)
  have A0 := At.new w #[.bool n, .string t, .int .i64 x] 79
  have c0 : (w.alloc (.cells #[.bool n, .string t, .int .i64 x] 79)).cell? ⟨w.heap.size, 0, none⟩ = some (.bool n) := A0.cell 0
  have c1 : (w.alloc (.cells #[.bool n, .string t, .int .i64 x] 79)).cell? ⟨w.heap.size, 1, none⟩ = some (.string t) := A0.cell 1
  clear A0
  have hc := hC.out
  unfold sgnS at hc
  clear hC
  by_cases h0 : t.size = 0
  · rw [if_pos h0] at hc
    subst hc
    have e0 : (t.toList == []) = true := by
      have : t.toList = [] := by rw [Lib.toList_data]; exact List.eq_nil_of_length_eq_zero (by rw [Array.length_toList]; exact h0)
      rw [this]; rfl
    clear h0
    go_wp2
    go_ret
    exact ⟨rfl, hBU⟩
  · rw [if_neg h0] at hc
    have e0 : (t.toList == []) = false := by
      apply beq_eq_false_iff_ne.2
      intro he
      apply h0
      have : t.size = t.data.toList.length := by rw [Array.length_toList]; rfl
      rw [this, ← Lib.toList_data, he]; rfl
    clear h0
    cases n
    · obtain rfl := hc
      go_wp2
      go_ret
      exact ⟨rfl, hBU⟩
    · obtain rfl := hc
      go_wp2
      go_ret
      exact ⟨rfl, hBU⟩
set_option maxRecDepth 10000 in
theorem top_calls (n : Bool) (t : ByteArray) (x : Int) (hs : t.size ≤ 4611686018427387904) (h0 : -4611686018427387904 ≤ x) (h1 : x ≤ 4611686018427387903) (C : Int) (hC : Hid (topS t x = C)) (w : World) :
    Calls Tryd.prog 90 #[.agg #[.bool n, .string t, .int .i64 x]] w fun e w' => e = .returned (.int .i64 C) ∧ Below w.heap.size w w' := by
  go_enter Tryd.func90, Tryd.ntmps90
  have hBU : Below w.heap.size w (w.alloc (.cells #[.bool n, .string t, .int .i64 x] 79)) := by repeat (first | with_reducible exact Below.refl _ _ | with_reducible refine Below.setCell ?_ (by first | (simp; done) | (simp; omega)) _ | with_reducible refine below_drewN ?_ _ | with_reducible refine Below.alloc ?_ (by first | (simp; done) | (simp; omega)) _ | with_reducible refine Below.drew ?_)
  have A0 := At.new w #[.bool n, .string t, .int .i64 x] 79
  have c1 : (w.alloc (.cells #[.bool n, .string t, .int .i64 x] 79)).cell? ⟨w.heap.size, 1, none⟩ = some (.string t) := A0.cell 1
  have c2 : (w.alloc (.cells #[.bool n, .string t, .int .i64 x] 79)).cell? ⟨w.heap.size, 2, none⟩ = some (.int .i64 x) := A0.cell 2
  clear A0
  go_wp2
  go_ret
  exact ⟨by rw [← hC.out]; rfl, hBU⟩
theorem sizeDec : (Tryd.prog.info? 79).map (·.size) = some 3 := by kernel_rfl
/-- Two decimals in two blocks, one behind the other. -/
def TwoD (w : World) (n : Bool) (t : ByteArray) (x : Int) (n' : Bool) (t' : ByteArray) (x' : Int) (w' : World) : Prop :=
  At w' w.heap.size #[.bool n, .string t, .int .i64 x] 79 ∧ At w' (w.heap.size + 1) #[.bool n', .string t', .int .i64 x'] 79 ∧ Below w.heap.size w w'
theorem TwoD.new (w : World) (n : Bool) (t : ByteArray) (x : Int) (n' : Bool) (t' : ByteArray) (x' : Int) : TwoD w n t x n' t' x' ((w.alloc (.cells #[.bool n, .string t, .int .i64 x] 79)).alloc (.cells #[.bool n', .string t', .int .i64 x'] 79)) := by
  refine ⟨(At.new w _ _).alloc _, ?_, by repeat (first | with_reducible exact Below.refl _ _ | with_reducible refine Below.setCell ?_ (by first | (simp; done) | (simp; omega)) _ | with_reducible refine below_drewN ?_ _ | with_reducible refine Below.alloc ?_ (by first | (simp; done) | (simp; omega)) _ | with_reducible refine Below.drew ?_)⟩
  have := At.new (w.alloc (.cells #[.bool n, .string t, .int .i64 x] 79)) #[.bool n', .string t', .int .i64 x'] 79
  simpa using this
section
variable {w : World} {n : Bool} {t : ByteArray} {x : Int} {n' : Bool} {t' : ByteArray} {x' : Int} {u v : World}
theorem TwoD.drew (h : TwoD w n t x n' t' x' u) : TwoD w n t x n' t' x' u.drew := ⟨h.1, h.2.1, h.2.2.drew⟩
theorem TwoD.kept (h : TwoD w n t x n' t' x' u) (hb : Below u.heap.size u v) : TwoD w n t x n' t' x' v := ⟨h.1.keptAll hb, h.2.1.keptAll hb, h.2.2.trans (hb.mono h.2.2.size)⟩
theorem TwoD.one (h : TwoD w n t x n' t' x' u) : At u w.heap.size #[.bool n, .string t, .int .i64 x] 79 := h.1
theorem TwoD.two (h : TwoD w n t x n' t' x' u) : At u (w.heap.size + 1) #[.bool n', .string t', .int .i64 x'] 79 := h.2.1
theorem TwoD.below (h : TwoD w n t x n' t' x' u) : Below w.heap.size w u := h.2.2
theorem TwoD.facts (h : TwoD w n t x n' t' x' u) : u.cell? ⟨w.heap.size, 0, none⟩ = some (.bool n) ∧ u.cell? ⟨w.heap.size, 1, none⟩ = some (.string t) ∧ u.cell? ⟨w.heap.size, 2, none⟩ = some (.int .i64 x) ∧ u.cell? ⟨w.heap.size + 1, 0, none⟩ = some (.bool n') ∧ u.cell? ⟨w.heap.size + 1, 1, none⟩ = some (.string t') ∧ u.cell? ⟨w.heap.size + 1, 2, none⟩ = some (.int .i64 x') :=
  ⟨h.1.cell 0, h.1.cell 1, h.1.cell 2, h.2.1.cell 0, h.2.1.cell 1, h.2.1.cell 2⟩
end
set_option maxRecDepth 10000 in
set_option maxHeartbeats 2000000 in
theorem cmpSize_calls (n : Bool) (t : ByteArray) (x : Int) (n' : Bool) (t' : ByteArray) (x' : Int) (hs : t.size ≤ 4611686018427387904) (h0 : -4611686018427387904 ≤ x) (h1 : x ≤ 4611686018427387903) (hs' : t'.size ≤ 4611686018427387904) (h0' : -4611686018427387904 ≤ x') (h1' : x' ≤ 4611686018427387903)
    (C : Int) (hC : Hid (sizS t x t' x' = C)) (w : World) :
    Calls Tryd.prog 73 #[.agg #[.bool n, .string t, .int .i64 x], .agg #[.bool n', .string t', .int .i64 x']] w fun e w' => e = .returned (.int .i64 C) ∧ Below w.heap.size w w' := by
  obtain ⟨p, hp⟩ : ∃ p, Hid (topS t x = p) := ⟨_, rfl⟩
  obtain ⟨q, hq⟩ : ∃ q, Hid (topS t' x' = q) := ⟨_, rfl⟩
  obtain ⟨D, hD⟩ : ∃ D, Hid (Lib.compareInt p q = D) := ⟨_, rfl⟩
  obtain ⟨E, hE⟩ : ∃ E, Hid (Lib.compareBytes t.data.toList t'.data.toList = E) := ⟨_, rfl⟩
  have hCe := hid (show (if D ≠ 0 then D else E) = C by rw [← hC.out, sizS, hp.out, hq.out, hD.out, hE.out])
  have cp := hid (fun w1 => top_calls n t x hs h0 h1 p hp w1)
  have cq := hid (fun w1 => top_calls n' t' x' hs' h0' h1' q hq w1)
  have cD := hid (fun w1 => cmpL_calls p q D hD w1)
  have cE := hid (fun w1 => cmpT_calls t t' E hE w1)
  clear hC hp hq hD hE hs h0 h1 hs' h0' h1'
  have T0 := hid (TwoD.new w n t x n' t' x')
  go_enter Tryd.func73, Tryd.ntmps73
  go_wp2
  refine wp_region_quiet (C := (fun w' => TwoD w n t x n' t' x' w')) (by kernel_rfl) (by kernel_rfl) (T0.out.drew) ?_
  dsimp only
  repeat (first
    | (refine wpQuiet_skip (by rfl) ?_; simp only [Act.put, List.setIfInBounds_toArray, List.set_cons_zero, List.set_cons_succ])
    | (refine wpQuiet_load 79 _ (w.heap.size) (0) [.bool n, .string t, .int .i64 x] _ (fun wq hq => At.range (TwoD.one hq) rfl) Tryd.underlying79 sizeDec rfl rfl rfl (by rfl) ?_; simp only [Act.put, List.setIfInBounds_toArray, List.set_cons_zero, List.set_cons_succ])
    | (refine wpQuiet_load 79 _ (w.heap.size + 1) (0) [.bool n', .string t', .int .i64 x'] _ (fun wq hq => At.range (TwoD.two hq) rfl) Tryd.underlying79 sizeDec rfl rfl rfl (by rfl) ?_; simp only [Act.put, List.setIfInBounds_toArray, List.set_cons_zero, List.set_cons_succ])
    | (refine' wpQuiet_take (by rfl) ?_ ?_
       rotate_left
       · (intro wq hq; (try dsimp only at hq); go_simp
          first
            | done
            | with_reducible rfl
            | (go_at_call 90; with_reducible refine (cp.out _).mono ?_; rintro e wz ⟨rfl, hb⟩; exact ⟨rfl, TwoD.kept hq hb⟩)
            | (go_at_call 90; with_reducible refine (cq.out _).mono ?_; rintro e wz ⟨rfl, hb⟩; exact ⟨rfl, TwoD.kept hq hb⟩)
            | (go_at_call 89; with_reducible refine (cD.out _).mono ?_; rintro e wz ⟨rfl, hb⟩; (subst hb; exact ⟨rfl, hq⟩))
         )
       simp only [Act.put, List.setIfInBounds_toArray, List.set_cons_zero, List.set_cons_succ]))
  refine wpQuiet_nil ?_
  intro w1 T1
  have T1' := hid T1
  obtain ⟨c0, c1, c2, d0, d1, d2⟩ := T1.facts
  clear T0 T1 cp cq cD
  by_cases hD0 : D = 0
  · have e0 : (D != 0) = false := by simp [hD0]
    have hEC : E = C := by rw [← hCe.out, if_neg (by simp [hD0])]
    clear hCe
    go_wp2_with fail
    refine Calls.mono (cE.out _) ?_
    rintro e w2 ⟨rfl, rfl⟩
    clear c0 c1 c2 d0 d1 d2
    go_wp2
    go_ret
    exact ⟨by first | rfl | (rw [hEC]; rfl), T1'.out.below⟩
  · have e0 : (D != 0) = true := by simpa using hD0
    have hEC : D = C := by rw [← hCe.out, if_pos hD0]
    clear hCe hD0
    go_wp2
    go_ret
    exact ⟨by first | rfl | (rw [hEC]; rfl), T1'.out.below⟩
/-- What Cmp answers. -/
def cmpR (n : Bool) (t : ByteArray) (x : Int) (n' : Bool) (t' : ByteArray) (x' : Int) : Int × Int := if frmS t x && frmS t' x' then (cmpS n t x n' t' x', 0) else (0, 1)
theorem inB_of {x : Int} (h : inB x = true) : -1073741824 ≤ x ∧ x ≤ 1073741824 := by simpa [inB] using h
theorem frm_in {t : ByteArray} {x : Int} (h : frmS t x = true) : -1073741824 ≤ x ∧ x ≤ 1073741824 := by
  unfold frmS at h
  split at h
  · have := of_decide_eq_true h; omega
  · rw [Bool.and_eq_true] at h
    exact inB_of h.2
set_option maxRecDepth 10000 in
set_option maxHeartbeats 4000000 in
theorem cmp_calls (n : Bool) (t : ByteArray) (x : Int) (n' : Bool) (t' : ByteArray) (x' : Int) (hs : t.size ≤ 4611686018427387904) (hs' : t'.size ≤ 4611686018427387904)
    (C E : Int) (hC : Hid (cmpR n t x n' t' x' = (C, E))) (w : World) :
    Calls Tryd.prog 59 #[.agg #[.bool n, .string t, .int .i64 x], .agg #[.bool n', .string t', .int .i64 x']] w fun e w' => e = .returned (.tuple #[.int .i64 C, .int .i64 E]) ∧ Below w.heap.size w w' := by
  obtain ⟨F, hF⟩ : ∃ F, Hid (frmS t x = F) := ⟨_, rfl⟩
  obtain ⟨G, hG⟩ : ∃ G, Hid (frmS t' x' = G) := ⟨_, rfl⟩
  have cF := hid (fun w1 => formedD_calls n t x hs F hF w1)
  have cG := hid (fun w1 => formedD_calls n' t' x' hs' G hG w1)
  have T0 := hid (TwoD.new w n t x n' t' x')
  obtain ⟨c0, c1, c2, d0, d1, d2⟩ := T0.out.facts
  have hs2 := hid hs
  have hs2' := hid hs'
  clear hs hs'
  go_enter Tryd.func59, Tryd.ntmps59
  go_wp2_with fail
  refine Calls.mono (cF.out _) ?_
  rintro e w1 ⟨rfl, hb⟩
  have T1 := hid (T0.out.kept hb)
  clear c0 c1 c2 d0 d1 d2 T0 cF hb
  obtain ⟨c0, c1, c2, d0, d1, d2⟩ := T1.out.facts
  cases F with
  | false =>
    have hCE := hC.out
    rw [cmpR, hF.out] at hCE
    obtain ⟨rfl, rfl⟩ : 0 = C ∧ 1 = E := by simpa using hCE
    clear hCE hC hF hG cG
    go_wp2
    refine bodyPost_ret (results_tmp2 rfl _ _ _) rfl ?_
    exact ⟨rfl, T1.out.below⟩
  | true =>
    go_wp2_with fail
    refine Calls.mono (cG.out _) ?_
    rintro e w2 ⟨rfl, hb⟩
    have T2 := hid (T1.out.kept hb)
    clear c0 c1 c2 d0 d1 d2 T1 cG hb
    cases G with
    | false =>
      have hCE := hC.out
      rw [cmpR, hF.out, hG.out] at hCE
      obtain ⟨rfl, rfl⟩ : 0 = C ∧ 1 = E := by simpa using hCE
      clear hCE hC hF hG
      go_wp2
      refine bodyPost_ret (results_tmp2 rfl _ _ _) rfl ?_
      exact ⟨rfl, T2.out.below⟩
    | true =>
      have hCE := hC.out
      rw [cmpR, hF.out, hG.out, Bool.and_self, if_pos rfl] at hCE
      obtain ⟨hCC, rfl⟩ : cmpS n t x n' t' x' = C ∧ 0 = E := by simpa using hCE
      obtain ⟨x0, x1⟩ := frm_in hF.out
      obtain ⟨y0, y1⟩ := frm_in hG.out
      obtain ⟨p, hp⟩ : ∃ p, Hid (sgnS n t = p) := ⟨_, rfl⟩
      obtain ⟨q, hq⟩ : ∃ q, Hid (sgnS n' t' = q) := ⟨_, rfl⟩
      obtain ⟨D, hD⟩ : ∃ D, Hid (Lib.compareInt p q = D) := ⟨_, rfl⟩
      obtain ⟨M, hM⟩ : ∃ M, Hid (sizS t x t' x' = M) := ⟨_, rfl⟩
      have hpi := hid (show p = -1 ∨ p = 0 ∨ p = 1 by rw [← hp.out]; exact sgn_in _ _)
      have hMi := hid (show M = -1 ∨ M = 0 ∨ M = 1 by rw [← hM.out]; exact siz_in _ _ _ _)
      have hCe := hid (show (if p ≠ q then D else p * M) = C by rw [← hCC, cmpS, hp.out, hq.out, hD.out, hM.out])
      have cp := hid (fun w1 => sign_calls n t x p hp w1)
      have cq := hid (fun w1 => sign_calls n' t' x' q hq w1)
      have cD := hid (fun w1 => cmpI_calls p q D hD w1)
      have cM := hid (fun w1 => cmpSize_calls n t x n' t' x' hs2.out (by omega) (by omega) hs2'.out (by omega) (by omega) M hM w1)
      clear hC hF hG hCE hCC hp hq hD hM x0 x1 y0 y1
      go_wp2
      refine wp_region_quiet (C := (fun w' => TwoD w n t x n' t' x' w')) (by kernel_rfl) (by kernel_rfl) (T2.out.drew) ?_
      dsimp only
      repeat (first
        | (refine wpQuiet_skip (by rfl) ?_; simp only [Act.put, List.setIfInBounds_toArray, List.set_cons_zero, List.set_cons_succ])
        | (refine wpQuiet_load 79 _ (w.heap.size) (0) [.bool n, .string t, .int .i64 x] _ (fun wq hq => At.range (TwoD.one hq) rfl) Tryd.underlying79 sizeDec rfl rfl rfl (by rfl) ?_; simp only [Act.put, List.setIfInBounds_toArray, List.set_cons_zero, List.set_cons_succ])
        | (refine wpQuiet_load 79 _ (w.heap.size + 1) (0) [.bool n', .string t', .int .i64 x'] _ (fun wq hq => At.range (TwoD.two hq) rfl) Tryd.underlying79 sizeDec rfl rfl rfl (by rfl) ?_; simp only [Act.put, List.setIfInBounds_toArray, List.set_cons_zero, List.set_cons_succ])
        | (refine' wpQuiet_take (by rfl) ?_ ?_
           rotate_left
           · (intro wq hq; (try dsimp only at hq); go_simp
              first
                | done
                | with_reducible rfl
                | (go_at_call 71; with_reducible refine (cp.out _).mono ?_; rintro e wz ⟨rfl, hb⟩; exact ⟨rfl, TwoD.kept hq hb⟩)
                | (go_at_call 71; with_reducible refine (cq.out _).mono ?_; rintro e wz ⟨rfl, hb⟩; exact ⟨rfl, TwoD.kept hq hb⟩)
             )
           simp only [Act.put, List.setIfInBounds_toArray, List.set_cons_zero, List.set_cons_succ]))
      refine wpQuiet_nil ?_
      intro w3 T3
      have T3' := hid T3
      clear T2 T3
      by_cases hpq : p = q
      · subst hpq
        have hEC := hid (show p * M = C by rw [← hCe.out, if_neg (by simp)])
        clear hCe cD cq
        go_wp2
        rcases hpi.out with rfl | rfl | rfl <;> rcases hMi.out with rfl | rfl | rfl
        all_goals
          have hEC2 := hEC.out
          simp only [Int.reduceMul, Int.reduceNeg, Int.zero_mul, Int.one_mul, Int.mul_zero, Int.mul_one] at hEC2
          clear hEC hpi hMi
          subst hEC2
          refine wp_region_quiet (C := (fun w' => TwoD w n t x n' t' x' w')) (by kernel_rfl) (by kernel_rfl) (T3'.out.drew) ?_
          dsimp only
          repeat (first
            | (refine wpQuiet_skip (by rfl) ?_; simp only [Act.put, List.setIfInBounds_toArray, List.set_cons_zero, List.set_cons_succ])
            | (refine wpQuiet_load 79 _ (w.heap.size) (0) [.bool n, .string t, .int .i64 x] _ (fun wq hq => At.range (TwoD.one hq) rfl) Tryd.underlying79 sizeDec rfl rfl rfl (by rfl) ?_; simp only [Act.put, List.setIfInBounds_toArray, List.set_cons_zero, List.set_cons_succ])
            | (refine wpQuiet_load 79 _ (w.heap.size + 1) (0) [.bool n', .string t', .int .i64 x'] _ (fun wq hq => At.range (TwoD.two hq) rfl) Tryd.underlying79 sizeDec rfl rfl rfl (by rfl) ?_; simp only [Act.put, List.setIfInBounds_toArray, List.set_cons_zero, List.set_cons_succ])
            | (refine' wpQuiet_take (by rfl) ?_ ?_
               rotate_left
               · (intro wq hq; (try dsimp only at hq); go_simp
                  first
                    | done
                    | with_reducible rfl
                    | (go_at_call 71; with_reducible refine (cp.out _).mono ?_; rintro e wz ⟨rfl, hb⟩; exact ⟨rfl, TwoD.kept hq hb⟩)
                    | (go_at_call 73; with_reducible refine (cM.out _).mono ?_; rintro e wz ⟨rfl, hb⟩; exact ⟨rfl, TwoD.kept hq hb⟩)
                 )
               simp only [Act.put, List.setIfInBounds_toArray, List.set_cons_zero, List.set_cons_succ]))
          refine wpQuiet_nil ?_
          intro w4 T4
          have T4' := hid T4
          clear T3' T4 cp cM
          go_wp2
          refine bodyPost_ret (results_tmp2 rfl _ _ _) rfl ?_
          exact ⟨rfl, T4'.out.below⟩
      · have e0 : (p != q) = true := by simpa using hpq
        have hEC : D = C := by rw [← hCe.out, if_pos hpq]
        subst hEC
        clear hCe hpq cp cq cM hpi hMi
        go_wp2_with fail
        refine Calls.mono (cD.out _) ?_
        rintro e w4 ⟨rfl, rfl⟩
        go_wp2
        refine bodyPost_ret (results_tmp2 rfl _ _ _) rfl ?_
        exact ⟨rfl, T3'.out.below⟩
end Go.Proofs.YtjlcliicdclooaaDoor
