/-
  quarryref00.SameValue: whether two values are the same.
-/
import Derived.Test.YthfbmelfflpenaaDoorTrB
namespace Go.Proofs.YthfbmelfflpenaaDoor
open Go.RowKit Go.Shelf

theorem sizeVl : (Tryd.prog.info? 25).map (·.size) = some 6 := by kernel_rfl
theorem row_range {w : World} {vo : Option Addr} {n : Nat} {X : Nat → Array Value} (h : RowAt w vo n X) {i : Nat} (hi : i < n) : ∃ b off, vo = some ⟨b, off, none⟩ ∧ b < w.heap.size ∧ w.rangeAt b (off + i * 6) (X i).toList ∧ (X i).toList.length = 6 := by
  obtain ⟨h0, b, off, h1, h2, h3⟩ := h i hi
  refine ⟨b, off, h1, h2, fun j v hv => ?_, by rw [Array.length_toList]; exact h0⟩
  have hj : j < 6 := by
    have := (List.getElem?_eq_some_iff.1 hv).1
    rw [Array.length_toList, h0] at this
    exact this
  rw [h3 j hj]
  simpa using hv

theorem no_iff {P : Prop} (h : ¬ P) : (false = true ↔ P) := ⟨fun e => (by cases e), fun p => absurd p h⟩
set_option maxRecDepth 10000 in
set_option maxHeartbeats 8000000 in
theorem sameV_ex : ∀ (n : Nat) (t u : Vt), SizeOf.sizeOf t ≤ n → ∀ (va vb : Value) (w : World), ValAt w t va → ValAt w u vb →
    Calls Tryd.prog 23 #[va, vb] w fun e w' => ∃ B : Bool, e = .returned (.bool B) ∧ (B = true ↔ t = u) ∧ Below w.heap.size w w' := by
  intro n
  induction n with
  | zero =>
    intro t u hs
    cases t
    simp at hs
  | succ n ih =>
    intro t u hs va vb w ha hb
    cases ha with
    | mk k b r t ks vs ko kc vo vc X hw hz hk hr hv =>
    cases hb with
    | mk k' b' r' t' ks' vs' ko' kc' vo' vc' X' hw' hz' hk' hr' hv' =>
    have ih' := hid ih
    have hs' := hid hs
    have hk1 := hid hk
    have hk2 := hid hk'
    have hr1 := hid hr
    have hr2 := hid hr'
    have hv1 := hid hv
    have hv2 := hid hv'
    have hz1 := hid hz
    have hz2 := hid hz'
    obtain ⟨N, hN⟩ : ∃ N, Hid (ks.length = N) := ⟨_, rfl⟩
    obtain ⟨N', hN'⟩ : ∃ N, Hid (ks'.length = N) := ⟨_, rfl⟩
    obtain ⟨M, hM⟩ : ∃ M, Hid (vs.length = M) := ⟨_, rfl⟩
    obtain ⟨M', hM'⟩ : ∃ M, Hid (vs'.length = M) := ⟨_, rfl⟩
    have hsK : Hid (∀ u : World, KeysAt u ko ks → KeysAt u ko' ks' → Calls Tryd.prog 34 #[.slice ko N kc, .slice ko' N' kc'] u fun e w' => ∃ B : Bool, e = .returned (.bool B) ∧ (B = true ↔ ks = ks') ∧ Below u.heap.size u w') := fun u g1 g2 => by
      rw [← hN.out, ← hN'.out]
      exact sameK_calls ks ks' hz1.out.2.2.1 hz2.out.2.2.1 ko ko' kc kc' u g1 g2
    rw [hN.out, hN'.out, hM.out, hM'.out]
    have hMi : (M : Int) ≤ 9223372036854775807 := by have := hz1.out.2.2.2; rw [hM.out] at this; unfold capT at this; omega
    have hMi' : (M' : Int) ≤ 9223372036854775807 := by have := hz2.out.2.2.2; rw [hM'.out] at this; unfold capT at this; omega
    clear ih hs hk hk' hr hr' hv hv' hz hz' hw hw'
    obtain ⟨W1, hW1⟩ : ∃ W, w.alloc (.cells #[.int .i64 k, .bool b, .string r, .string t, .slice ko N kc, .slice vo M vc] 25) = W := ⟨_, rfl⟩
    obtain ⟨W2, hW2⟩ : ∃ W, W1.alloc (.cells #[.int .i64 k', .bool b', .string r', .string t', .slice ko' N' kc', .slice vo' M' vc'] 25) = W := ⟨_, rfl⟩
    have A1 : Hid (At W2 w.heap.size #[.int .i64 k, .bool b, .string r, .string t, .slice ko N kc, .slice vo M vc] 25) := by
      rw [← hW2, ← hW1]
      exact (At.new w _ _).alloc _
    have A2 : Hid (At W2 (w.heap.size + 1) #[.int .i64 k', .bool b', .string r', .string t', .slice ko' N' kc', .slice vo' M' vc'] 25) := by
      have h := At.new W1 #[.int .i64 k', .bool b', .string r', .string t', .slice ko' N' kc', .slice vo' M' vc'] 25
      rw [hW2, ← hW1, World.size_alloc] at h
      exact h
    have hsz1 : W1.heap.size = w.heap.size + 1 := by rw [← hW1, World.size_alloc]
    have B2 : Hid (Below w.heap.size w W2) := by
      rw [← hW2, ← hW1]
      exact ((Below.refl _ w).alloc (Nat.le_refl _) _).alloc (by rw [World.size_alloc]; omega) _
    obtain ⟨a1, ha1⟩ : ∃ a, w.heap.size = a := ⟨_, rfl⟩
    obtain ⟨a2, ha2⟩ : ∃ a, a1 + 1 = a := ⟨_, rfl⟩
    rw [ha1] at A1 hsz1
    rw [ha1, ha2] at A2
    rw [ha2] at hsz1
    have c0 := A1.out.cell 0
    have c1 := A1.out.cell 1
    have c2 := A1.out.cell 2
    have c3 := A1.out.cell 3
    have c4 := A1.out.cell 4
    have c5 := A1.out.cell 5
    have d0 := A2.out.cell 0
    have d1 := A2.out.cell 1
    have d2 := A2.out.cell 2
    have d3 := A2.out.cell 3
    have d4 := A2.out.cell 4
    have d5 := A2.out.cell 5
    simp only [List.getElem?_toArray, List.getElem?_cons_zero, List.getElem?_cons_succ] at c0 c1 c2 c3 c4 c5 d0 d1 d2 d3 d4 d5
    clear ha2
    by_cases e1 : k = k'
    · by_cases e2 : b = b'
      · by_cases e3 : r = r'
        · by_cases e4 : t = t'
          · by_cases e5 : M = M'
            · subst e1 e2 e3 e4 e5
              have f1 : (k != k) = false := by simp
              have f3 : (r.toList != r.toList) = false := by simp
              have f4 : (t.toList != t.toList) = false := by simp
              have f5 : ((M : Int) != (M : Int)) = false := by simp
              have f2 : (b != b) = false := by simp
              go_enter Tryd.func23, Tryd.ntmps23
              go_wp2_with fail
              refine Calls.mono (hsK.out W2 (hk1.out.kept B2.out) (hk2.out.kept B2.out)) ?_
              rintro e w3 ⟨B1, rfl, hB1, hb3⟩
              have A1b := hid (A1.out.keptAll hb3)
              have A2b := hid (A2.out.keptAll hb3)
              have B3 := hid (B2.out.trans (hb3.mono B2.out.size))
              have hB1' := hid hB1
              clear hW1 hW2 hsz1 c0 c1 c2 c3 c4 c5 d0 d1 d2 d3 d4 d5 hb3 hB1 A1 A2 hsK
              cases B1 with
              | false =>
                go_wp2
                go_ret
                refine ⟨false, rfl, no_iff (fun h => ?_), B3.out⟩
                have := hB1'.out.2 (Vt.mk.inj h).2.2.2.2.1
                cases this
              | true =>
                have hks := hid (hB1'.out.1 rfl)
                clear f1 f2 f3 f4 f5
                go_wp2
                go_loopw [5] (fun ii wr => ∃ i : Nat, i ≤ M ∧ ii = .int .i64 (i : Int) ∧ Hid (∀ j, j < i → vs[j]? = vs'[j]?) ∧ Hid (At wr a1 #[.int .i64 k, .bool b, .string r, .string t, .slice ko N kc, .slice vo M vc] 25) ∧ Hid (At wr a2 #[.int .i64 k, .bool b, .string r, .string t, .slice ko' N' kc', .slice vo' M vc'] 25) ∧ Hid (Below w.heap.size w wr)) (fun ii _ => M - (intOf ii).toNat)
                case atStart => exact ⟨0, Nat.zero_le _, rfl, hid (fun j hj => by omega), A1b, A2b, B3⟩
                case round =>
                  obtain ⟨i, hi, rfl, hsm, hA1, hA2, hb⟩ := hrel
                  have c5 := hA1.out.cell 5
                  have d5 := hA2.out.cell 5
                  simp only [List.getElem?_toArray, List.getElem?_cons_zero, List.getElem?_cons_succ] at c5 d5
                  by_cases hlt : i < M
                  · have hli : (i : Int) < (M : Int) := by omega
                    obtain ⟨u1, hu1⟩ : ∃ u, Hid (vs[i]? = some u) := ⟨_, List.getElem?_eq_getElem (by rw [hM.out]; exact hlt)⟩
                    obtain ⟨u2, hu2⟩ : ∃ u, Hid (vs'[i]? = some u) := ⟨_, List.getElem?_eq_getElem (by rw [hM'.out]; exact hlt)⟩
                    obtain ⟨g, o, rfl, hg, hrg, hl1⟩ := row_range (hr1.out.kept hb.out) (i := i) (by rw [hM.out]; exact hlt)
                    obtain ⟨g', o', rfl, hg', hrg', hl2⟩ := row_range (hr2.out.kept hb.out) (i := i) (by rw [hM'.out]; exact hlt)
                    obtain ⟨L1, hL1⟩ : ∃ L, Hid ((X i).toList = L) := ⟨_, rfl⟩
                    obtain ⟨L2, hL2⟩ : ∃ L, Hid ((X' i).toList = L) := ⟨_, rfl⟩
                    rw [hL1.out] at hrg hl1
                    rw [hL2.out] at hrg' hl2
                    have z1 : (Tryd.prog.info? 25).map (·.size) = some L1.length := by rw [hl1]; exact sizeVl
                    have z2 : (Tryd.prog.info? 25).map (·.size) = some L2.length := by rw [hl2]; exact sizeVl
                    have v1 : Hid (ValAt wr u1 (.agg L1.toArray)) := by
                      have := (hv1.out i u1 hu1.out).kept hb.out
                      rw [← hL1.out, Array.toArray_toList]
                      exact this
                    have v2 : Hid (ValAt wr u2 (.agg L2.toArray)) := by
                      have := (hv2.out i u2 hu2.out).kept hb.out
                      rw [← hL2.out, Array.toArray_toList]
                      exact this
                    obtain ⟨S, hS⟩ : ∃ S : Bool, Hid (S = true ↔ u1 = u2) := by
                      by_cases h : u1 = u2
                      · exact ⟨true, hid ⟨fun _ => h, fun _ => rfl⟩⟩
                      · exact ⟨false, hid (no_iff h)⟩
                    have hcall : Hid (∀ wq : World, Below wr.heap.size wr wq → Calls Tryd.prog 23 #[.agg L1.toArray, .agg L2.toArray] wq fun e w' => e = .returned (.bool S) ∧ Below wq.heap.size wq w') := fun wq hq => by
                      have hsz := kid_size (k := k) (b := b) (r := r) (t := t) (ks := ks) hu1.out
                      refine (ih'.out u1 u2 (by have := hs'.out; omega) _ _ wq (v1.out.kept hq) (v2.out.kept hq)).mono ?_
                      rintro e w' ⟨B, rfl, hB, hbb⟩
                      refine ⟨?_, hbb⟩
                      have : B = S := by
                        cases B <;> cases S
                        · rfl
                        · exact absurd (hB.2 (hS.out.1 rfl)) (by simp)
                        · exact absurd (hS.out.2 (hB.1 rfl)) (by simp)
                        · rfl
                      rw [this]
                    have hrgk := hid hrg
                    have hrgk' := hid hrg'
                    clear hrg hrg' hl1 hl2
                    go_wp2
                    refine wp_region_quiet (C := (fun w' => w'.cell? ⟨a1, 5, none⟩ = some (.slice (some ⟨g, o, none⟩) M vc) ∧ w'.cell? ⟨a2, 5, none⟩ = some (.slice (some ⟨g', o', none⟩) M vc') ∧ Below wr.heap.size wr w')) (by kernel_rfl) (by kernel_rfl) (⟨c5, d5, (Below.refl _ _).drew⟩) ?_
                    dsimp only
                    repeat (first
                      | (refine wpQuiet_skip (by rfl) ?_; simp only [Act.put, List.setIfInBounds_toArray, List.set_cons_zero, List.set_cons_succ])
                      | (refine wpQuiet_load 25 _ (g) (o + i * 6) L1 _ (fun wq hq => range_kept hrgk.out hq.2.2) Tryd.underlying25 z1 rfl rfl rfl (by rfl) ?_; simp only [Act.put, List.setIfInBounds_toArray, List.set_cons_zero, List.set_cons_succ])
                      | (refine wpQuiet_load 25 _ (g') (o' + i * 6) L2 _ (fun wq hq => range_kept hrgk'.out hq.2.2) Tryd.underlying25 z2 rfl rfl rfl (by rfl) ?_; simp only [Act.put, List.setIfInBounds_toArray, List.set_cons_zero, List.set_cons_succ])
                      | (refine' wpQuiet_take (by rfl) ?_ ?_
                         rotate_left
                         · (intro wq hq; (try dsimp only at hq); go_simp
                            first
                              | done
                              | with_reducible rfl
                              | (go_at_call 23; have hzz := hcall.out wq hq.2.2; with_reducible refine hzz.mono ?_; clear hzz; rintro e wz ⟨rfl, hb⟩; exact ⟨rfl, (hb.cell (p := ⟨a1, 5, none⟩) (block_lt_of_cell hq.1)).trans hq.1, (hb.cell (p := ⟨a2, 5, none⟩) (block_lt_of_cell hq.2.1)).trans hq.2.1, Below.trans hq.2.2 (Below.mono hb hq.2.2.size)⟩)
                           )
                         simp only [Act.put, List.setIfInBounds_toArray, List.set_cons_zero, List.set_cons_succ]))
                    refine wpQuiet_nil ?_
                    intro w5 hw5
                    have J1 := hid (hA1.out.keptAll hw5.2.2)
                    have J2 := hid (hA2.out.keptAll hw5.2.2)
                    have Jb := hid (hb.out.trans (hw5.2.2.mono hb.out.size))
                    clear hw5 c5 d5 hcall hrgk hrgk'
                    cases S with
                    | true =>
                      have hue := hS.out.1 rfl
                      go_wp2
                      go_roundw
                      case rel => exact ⟨i + 1, by omega, by simp, hid (fun j hj => by
                        by_cases e : j = i
                        · subst e; rw [hu1.out, hu2.out, hue]
                        · exact hsm.out j (by omega)), J1, J2, Jb⟩
                      case measure => simp [intOf]; omega
                    | false =>
                      go_wp2
                      go_ret
                      refine ⟨false, rfl, no_iff (fun h => ?_), Jb.out⟩
                      have h2 := (Vt.mk.inj h).2.2.2.2.2
                      subst h2
                      have h3 := hu1.out
                      rw [hu2.out] at h3
                      injection h3 with h3
                      have := hS.out.2 h3.symm
                      cases this
                  · obtain rfl : i = M := by omega
                    go_wp2
                    go_ret
                    refine ⟨true, rfl, ⟨fun _ => ?_, fun _ => rfl⟩, hb.out⟩
                    have hvs : vs = vs' := by
                      apply List.ext_getElem?
                      intro j
                      by_cases hj : j < i
                      · exact hsm.out j hj
                      · rw [List.getElem?_eq_none (by rw [hM.out]; omega), List.getElem?_eq_none (by rw [hM'.out]; omega)]
                    rw [hvs, hks.out]
            · have f : ((M : Int) != (M' : Int)) = true := by simp; omega
              subst e1 e2 e3 e4
              have f1 : (k != k) = false := by simp
              have f3 : (r.toList != r.toList) = false := by simp
              have f4 : (t.toList != t.toList) = false := by simp
              have f2 : (b != b) = false := by simp
              go_enter Tryd.func23, Tryd.ntmps23
              go_wp2
              go_ret
              refine ⟨false, rfl, no_iff (fun h => e5 ?_), B2.out⟩
              rw [← hM.out, ← hM'.out, (Vt.mk.inj h).2.2.2.2.2]
          · have f : (t.toList != t'.toList) = true := by rw [text_beq, decide_eq_false e4]; rfl
            have f' : (t.toList == t'.toList) = false := by rw [bne] at f; simpa using f
            subst e1 e2 e3
            have f1 : (k != k) = false := by simp
            have f3 : (r.toList != r.toList) = false := by simp
            have f2 : (b != b) = false := by simp
            go_enter Tryd.func23, Tryd.ntmps23
            go_wp2
            go_ret
            exact ⟨false, rfl, no_iff (fun h => e4 (Vt.mk.inj h).2.2.2.1), B2.out⟩
        · have f : (r.toList != r'.toList) = true := by rw [text_beq, decide_eq_false e3]; rfl
          have f' : (r.toList == r'.toList) = false := by rw [bne] at f; simpa using f
          subst e1 e2
          have f1 : (k != k) = false := by simp
          have f2 : (b != b) = false := by simp
          go_enter Tryd.func23, Tryd.ntmps23
          go_wp2
          go_ret
          exact ⟨false, rfl, no_iff (fun h => e3 (Vt.mk.inj h).2.2.1), B2.out⟩
      · have f : (b != b') = true := by cases b <;> cases b' <;> simp_all
        have f' : (b == b') = false := by cases b <;> cases b' <;> simp_all
        subst e1
        have f1 : (k != k) = false := by simp
        go_enter Tryd.func23, Tryd.ntmps23
        go_wp2
        go_ret
        exact ⟨false, rfl, no_iff (fun h => e2 (Vt.mk.inj h).2.1), B2.out⟩
    · have f : (k != k') = true := by simp; exact e1
      have f' : (k == k') = false := by simp; exact e1
      go_enter Tryd.func23, Tryd.ntmps23
      go_wp2
      go_ret
      refine ⟨false, rfl, no_iff (fun h => e1 (Vt.mk.inj h).1), B2.out⟩
/-- Whether two values are the same. -/
theorem sameV_calls (t u : Vt) (va vb : Value) (B : Bool) (hB : Hid (B = true ↔ t = u)) (w : World) (ha : ValAt w t va) (hb : ValAt w u vb) :
    Calls Tryd.prog 23 #[va, vb] w fun e w' => e = .returned (.bool B) ∧ Below w.heap.size w w' := by
  refine (sameV_ex _ t u (Nat.le_refl _) va vb w ha hb).mono ?_
  rintro e w' ⟨C, rfl, hC, hbb⟩
  refine ⟨?_, hbb⟩
  have : C = B := by
    cases C <;> cases B
    · rfl
    · exact absurd (hC.2 (hB.out.1 rfl)) (by simp)
    · exact absurd (hB.out.2 (hC.1 rfl)) (by simp)
    · rfl
  rw [this]
end Go.Proofs.YthfbmelfflpenaaDoor
