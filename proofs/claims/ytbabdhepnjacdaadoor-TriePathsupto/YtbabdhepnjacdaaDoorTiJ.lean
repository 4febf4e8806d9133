/-
  quarryref23.node.
-/
import Derived.Test.YtbabdhepnjacdaaDoorTiI
import Derived.Test.YtbabdhepnjacdaaDoorFrA
namespace Go.Proofs.YtbabdhepnjacdaaDoor
open Go.RowKit Go.Shelf
theorem pw_snoc {L : List Int} {j : Nat} {a b : Int} (h : (L.take j).Pairwise (· < ·)) (h1 : 1 ≤ j) (ha : L[j - 1]? = some a) (hb : L[j]? = some b) (hab : a < b) : (L.take (j + 1)).Pairwise (· < ·) := by
  rw [take_snoc hb, List.pairwise_append]
  refine ⟨h, by simp, fun x hx y hy => ?_⟩
  obtain rfl := List.mem_singleton.1 hy
  obtain ⟨q, hq, e⟩ := List.mem_iff_getElem.1 hx
  have hq' : q < j := by rw [List.length_take] at hq; omega
  by_cases hqj : q = j - 1
  · subst hqj
    rw [List.getElem_take] at e
    obtain ⟨_, e2⟩ := List.getElem?_eq_some_iff.1 ha
    rw [← e, e2]
    exact hab
  · have hl : j - 1 < (L.take j).length := by
      obtain ⟨h3, _⟩ := List.getElem?_eq_some_iff.1 ha
      rw [List.length_take]
      omega
    have h2 := List.pairwise_iff_getElem.1 h q (j - 1) hq hl (by omega)
    rw [e, List.getElem_take] at h2
    obtain ⟨_, e2⟩ := List.getElem?_eq_some_iff.1 ha
    rw [e2] at h2
    omega
theorem pw_no {L : List Int} {j : Nat} {a b : Int} (h1 : 1 ≤ j) (ha : L[j - 1]? = some a) (hb : L[j]? = some b) (hab : b ≤ a) : ¬ L.Pairwise (· < ·) := fun h => by
  obtain ⟨l1, e1⟩ := List.getElem?_eq_some_iff.1 ha
  obtain ⟨l2, e2⟩ := List.getElem?_eq_some_iff.1 hb
  have := List.pairwise_iff_getElem.1 h (j - 1) j l1 l2 (by omega)
  rw [e1, e2] at this
  omega
theorem one_steps {w : World} {b : Nat} {s : Stp} (h : At w b #[.int .i64 s.kind, .string s.name, .int .i64 s.place] 53) (hs : s.name.size ≤ capT) : StepsAt w (some ⟨b, 0, none⟩) [s] := fun i x hi => by
  match i, hi with
  | 0, hi =>
    simp at hi
    subst hi
    refine ⟨hs, b, 0, rfl, h.lt, ?_⟩
    exact h.range rfl
  | i + 1, hi => simp at hi
set_option maxRecDepth 10000 in
set_option maxHeartbeats 8000000 in
theorem node23_calls (t : List Nod) (ao : Option Addr) (N cap : Nat) (hN : Hid (t.length = N)) (hm : Hid (Mid t)) (hsz : Hid (∀ n ∈ t, ∀ s ∈ n.steps, s.name.size ≤ 1048576)) (i : Nat) (n : Nod) (hn : Hid (t[i]? = some n)) (B : Bool) (hB : Hid (B = true ↔ nodOk N i n)) (w : World) (hk : Hid (NodesAt w ao t)) :
    Calls Tryd.prog 44 #[.slice ao N cap, .int .i64 (i : Int)] w fun e w' => e = .returned (.bool B) ∧ Below w.heap.size w w' := by
  have hNi : N ≤ 1048576 := by have := hm.out.1; have := hN.out; omega
  have hNi' : (N : Int) ≤ 1048576 := by omega
  have hiN : i < N := by have := (List.getElem?_eq_some_iff.1 hn.out).1; have := hN.out; omega
  have hii : (i : Int) < (N : Int) := by omega
  have hnm := hid (List.mem_of_getElem? hn.out)
  obtain ⟨g, o, sa, sc, ta, tc, ea, ec, rfl, hS, -, hT, hE, hcl⟩ := node_at hk.out hn.out
  have hrg' := hid (hcl w (Below.refl _ _)).2.2.2
  have hsl := hm.out.2.2.2 n hnm.out
  have hel : n.ends.length ≤ 1048576 := by
    have h1 := (flat_pre Nod.ends hn.out n.ends.length).length_le
    have h2 := hm.out.2.2.1
    unfold enA at h2
    rw [List.length_append, List.take_length] at h1
    omega
  obtain ⟨M, hM⟩ : ∃ M, Hid (n.steps.length = M) := ⟨_, rfl⟩
  obtain ⟨K, hK⟩ : ∃ K, Hid (n.ends.length = K) := ⟨_, rfl⟩
  obtain ⟨M2, hM2⟩ : ∃ M, Hid (n.tos.length = M) := ⟨_, rfl⟩
  rw [hM.out, hK.out, hM2.out] at hrg'
  rw [hM.out] at hsl
  rw [hK.out] at hel
  have hMi : (M : Int) ≤ 1048576 := by omega
  have hKi : (K : Int) ≤ 1048576 := by omega
  have z1 : (Tryd.prog.info? 50).map (·.size) = some ([.slice sa M sc, .slice ta M2 tc, .slice ea K ec] : List Value).length := by kernel_rfl
  obtain ⟨W1, hW1⟩ : ∃ W, w.alloc (.cells #[.slice sa M sc, .slice ta M2 tc, .slice ea K ec] 50) = W := ⟨_, rfl⟩
  have b1 : Below w.heap.size w W1 := by rw [← hW1]; exact (Below.refl _ w).alloc (Nat.le_refl _) _
  have A1 : At W1 w.heap.size #[.slice sa M sc, .slice ta M2 tc, .slice ea K ec] 50 := by rw [← hW1]; exact At.new _ _ _
  have A1' := hid A1
  have B1 := hid b1
  have hS' := hid (hS.kept b1)
  have hT' := hid (hT.kept b1)
  have hE' := hid (hE.kept b1)
  have hbox := hid (fun (u : World) (hu : Below W1.heap.size W1 u) => (show u.cell? ⟨w.heap.size, 0, none⟩ = some (.slice sa M sc) ∧ u.cell? ⟨w.heap.size, 1, none⟩ = some (.slice ta M2 tc) ∧ u.cell? ⟨w.heap.size, 2, none⟩ = some (.slice ea K ec) from by
    have h := A1'.out.keptAll hu
    exact ⟨h.cell 0, h.cell 1, h.cell 2⟩))
  have hsz' := hid (hsz.out n hnm.out)
  have c0 := (hbox.out W1 (Below.refl _ _)).1
  have c1 := (hbox.out W1 (Below.refl _ _)).2.1
  clear hS hT hE hcl A1 b1
  have hk' := hk
  clear hk
  go_enter Tryd.func44, Tryd.ntmps44
  by_cases hMM : M = M2
  · subst hMM
    have f0 : ((M : Int) != (M : Int)) = false := by simp
    go_wp2_with (first | refine wpList_load_want 50 _ g (o + i * 3) [.slice sa M sc, .slice ta M tc, .slice ea K ec] _ hrg'.out Tryd.underlying50 z1 rfl rfl rfl (by rfl) ?_ | fail)
    clear c0 c1
    go_loopw [6] (fun jj wr => ∃ j : Nat, j ≤ M ∧ jj = .int .i64 (j : Int) ∧ Hid ((n.steps.take j).all fmS = true) ∧ Hid (∀ x ∈ n.tos.take j, (i : Int) < x ∧ x < (N : Int)) ∧ Hid ((n.steps.take j).Nodup) ∧ Hid (Below W1.heap.size W1 wr)) (fun jj _ => M - (intOf jj).toNat)
    case atStart => exact ⟨0, Nat.zero_le _, rfl, hid (by simp), hid (by simp), hid (by simp), hid (Below.refl _ _)⟩
    case round =>
      obtain ⟨j, hj, rfl, hfm, hto, hnd, hb⟩ := hrel
      have c0 := (hbox.out wr hb.out).1
      by_cases hjl : j < M
      · have hji : (j : Int) < (M : Int) := by omega
        have hj' := hid (show j + 1 ≤ M by omega)
        obtain ⟨s, hs⟩ : ∃ s, Hid (n.steps[j]? = some s) := ⟨_, List.getElem?_eq_getElem (by rw [hM.out]; exact hjl)⟩
        obtain ⟨x, hx⟩ : ∃ x, Hid (n.tos[j]? = some x) := ⟨_, List.getElem?_eq_getElem (by rw [hM2.out]; exact hjl)⟩
        have hsm := hid (List.mem_of_getElem? hs.out)
        have hss := hsz'.out s hsm.out
        have hxm := hid (List.mem_of_getElem? hx.out)
        obtain ⟨g2, o2, rfl, hg2, hrg2⟩ := steps_at (hS'.out.kept hb.out) hs.out
        obtain ⟨g3, o3, rfl, hcx⟩ := ints_at hT'.out hx.out
        have hcx' := hid hcx
        have ad3 : (⟨g3, o3, none⟩ : Addr).add j = ⟨g3, o3 + j, none⟩ := by by_cases h : j = 0 <;> simp [Addr.add, h]
        have htk := hid (take_snoc hs.out)
        have htx := hid (take_snoc hx.out)
        have hF := hid (fun (u : World) (hu : At u wr.heap.size #[.int .i64 s.kind, .string s.name, .int .i64 s.place] 53) => formedR22_calls [s] (some ⟨wr.heap.size, 0, none⟩) 1 1 (hid rfl) (by omega) (hid (fun y hy => by obtain rfl := List.mem_singleton.1 hy; omega)) u (hid (one_steps hu (by unfold capT; omega))))
        have hall1 : [s].all fmS = fmS s := by simp
        rw [hall1] at hF
        have hRg := hid (fun (u : World) (hu : Below wr.heap.size wr u) => range_kept hrg2 hu)
        obtain ⟨sk, sn, sp⟩ := s
        dsimp only at hF hrg2 hRg
        have hrg3 := hid hrg2
        have z2 : (Tryd.prog.info? 53).map (·.size) = some ([.int .i64 sk, .string sn, .int .i64 sp] : List Value).length := sizeStp
        obtain ⟨W2, hW2⟩ : ∃ W, wr.alloc (.cells #[.int .i64 sk, .string sn, .int .i64 sp] 53) = W := ⟨_, rfl⟩
        have b2 : Below wr.heap.size wr W2 := by rw [← hW2]; exact (Below.refl _ wr).alloc (Nat.le_refl _) _
        have A2 := hid (show At W2 wr.heap.size #[.int .i64 sk, .string sn, .int .i64 sp] 53 by rw [← hW2]; exact At.new _ _ _)
        have B2 := hid (hb.out.trans (b2.mono hb.out.size))
        obtain ⟨V, hV⟩ : ∃ V, fmS ⟨sk, sn, sp⟩ = V := ⟨_, rfl⟩
        rw [hV] at hF
        have hV' := hid hV
        have hb2 := hid b2
        clear hs hx hrg2 hg2 hcx hss b2 hall1 hV
        cases V with
        | false =>
          have hfin : Hid (B = false) := hid (by
            cases hb : B with
            | false => rfl
            | true =>
              have h3 := (hB.out.1 hb).2.1
              rw [List.all_eq_true] at h3
              have := h3 _ hsm.out
              rw [hV'.out] at this
              cases this)
          go_wp2_with (first | refine wpList_load_want 53 _ g2 (o2 + j * 3) [.int .i64 sk, .string sn, .int .i64 sp] _ hrg3.out Tryd.underlying53 z2 rfl rfl rfl (by rfl) ?_ | fail)
          refine Calls.mono (hF.out _ A2.out) ?_
          rintro e w3 ⟨rfl, b3⟩
          have B3 := hid (B1.out.trans (((B2.out.trans (b3.mono B2.out.size))).mono B1.out.size))
          clear b3 hF
          go_wp2
          go_ret
          exact ⟨by rw [hfin.out] <;> rfl, B3.out⟩
        | true =>
          go_wp2_with (first | refine wpList_load_want 53 _ g2 (o2 + j * 3) [.int .i64 sk, .string sn, .int .i64 sp] _ hrg3.out Tryd.underlying53 z2 rfl rfl rfl (by rfl) ?_ | fail)
          refine Calls.mono (hF.out _ A2.out) ?_
          rintro e w3 ⟨rfl, b3⟩
          have B3 := hid (B2.out.trans (b3.mono B2.out.size))
          have Br3 := hid (hb2.out.trans (b3.mono hb2.out.size))
          have Bw3 := hid (B1.out.trans (B3.out.mono B1.out.size))
          clear b3 hF A2 hW2 c0
          have c1 := (hbox.out w3 B3.out).2.1
          have cx := hcx'.out w3 B3.out
          by_cases h1 : x ≤ (i : Int)
          · have f1 : decide (x ≤ (i : Int)) = true := decide_eq_true h1
            have hfin : Hid (B = false) := hid (by
              cases hb : B with
              | false => rfl
              | true => have := (hB.out.1 hb).2.2.2.1 x hxm.out; omega)
            clear h1
            go_wp2
            go_ret
            exact ⟨by rw [hfin.out] <;> rfl, Bw3.out⟩
          · have f1 : decide (x ≤ (i : Int)) = false := decide_eq_false h1
            by_cases h2 : (N : Int) ≤ x
            · have f2 : decide ((N : Int) ≤ x) = true := decide_eq_true h2
              have hfin : Hid (B = false) := hid (by
                cases hb : B with
                | false => rfl
                | true => have := (hB.out.1 hb).2.2.2.1 x hxm.out; omega)
              clear h1 h2
              go_wp2
              go_ret
              exact ⟨by rw [hfin.out] <;> rfl, Bw3.out⟩
            · have f2 : decide ((N : Int) ≤ x) = false := decide_eq_false h2
              have hxb := hid (show (i : Int) < x ∧ x < (N : Int) by omega)
              clear h1 h2
              go_wp2
              clear c1 cx
              go_loopw [7] (fun kk wq => ∃ k : Nat, k ≤ j ∧ kk = .int .i64 (k : Int) ∧ Hid (⟨sk, sn, sp⟩ ∉ n.steps.take k) ∧ Hid (Below w3.heap.size w3 wq)) (fun kk _ => j - (intOf kk).toNat)
              case atStart => exact ⟨0, Nat.zero_le _, rfl, hid (by simp), hid (Below.refl _ _)⟩
              case round =>
                obtain ⟨k, hkj, rfl, hno, hb4⟩ := hrel
                have hW4 := hid (B3.out.trans (hb4.out.mono B3.out.size))
                by_cases hkl : k < j
                · have hki : (k : Int) < (j : Int) := by omega
                  have hk1 := hid (show k + 1 ≤ j by omega)
                  have hkM : (k : Int) < (M : Int) := by omega
                  obtain ⟨u, hu⟩ : ∃ u, Hid (n.steps[k]? = some u) := ⟨_, List.getElem?_eq_getElem (by rw [hM.out]; omega)⟩
                  obtain ⟨g5, o5, eo, hg5, hrg5⟩ := steps_at (hS'.out.kept hW4.out) hu.out
                  cases eo
                  have R2 := hid (range_kept (hRg.out _ Br3.out) hb4.out)
                  have c00 := hid (hbox.out _ hW4.out).1
                  have hutk := hid (take_snoc hu.out)
                  have huk := hid (show u ∈ n.steps.take j from by
                    have h1 : (n.steps.take j)[k]? = some u := by rw [List.getElem?_take_of_lt hkl]; exact hu.out
                    exact List.mem_of_getElem? h1)
                  obtain ⟨uk, un, up⟩ := u
                  have R1 := hid (show wr.rangeAt g2 (o2 + k * 3) [.int .i64 uk, .string un, .int .i64 up] from hrg5)
                  have eqs := fun v => eqStp uk sk up sp un sn v
                  have hdec : Hid ((uk == sk && (un.toList == sn.toList && up == sp)) = decide ((⟨uk, un, up⟩ : Stp) = ⟨sk, sn, sp⟩)) := hid (by
                    rw [eq_str, Bool.eq_iff_iff]
                    simp)
                  clear hu hg5 hrg5
                  have e1 : decide ((k : Int) < (M : Int)) = true := by simp; omega
                  have e2 : decide ((j : Int) < (M : Int)) = true := by simp; omega
                  rw [hdec.out] at eqs
                  by_cases hus : (⟨uk, un, up⟩ : Stp) = ⟨sk, sn, sp⟩
                  · rw [decide_eq_true hus] at eqs
                    have hfin : Hid (B = false) := hid (by
                      cases hb : B with
                      | false => rfl
                      | true =>
                        have h3 := (hB.out.1 hb).2.2.1.sublist (List.take_sublist (j + 1) _)
                        rw [htk.out] at h3
                        exact absurd hus ((List.nodup_append.1 h3).2.2 _ huk.out _ (List.mem_singleton.2 rfl)))
                    clear hus hdec
                    go_wp2
                    refine wp_region_quiet (C := (fun w' => Below wr.heap.size wr w' ∧ w'.cell? ⟨w.heap.size, 0, none⟩ = some (.slice (some ⟨g2, o2, none⟩) M sc))) (by kernel_rfl) (by kernel_rfl) (⟨(Below.refl _ _).drew, c00.out⟩) ?_
                    dsimp only
                    repeat (first
                      | go_big_quiet_skip
                      | (refine' wpQuiet_take (by rfl) ?_ ?_
                         rotate_left
                         · (intro wq hq; (try dsimp only at hq); go_simp
                            first
                              | done
                              | with_reducible rfl
                           )
                         simp only [Act.put, List.setIfInBounds_toArray, List.set_cons_zero, List.set_cons_succ])
                      | (refine wpQuiet_load 53 _ (g2) (o2 + k * 3) [.int .i64 uk, .string un, .int .i64 up] _ (fun wq hq => range_kept R1.out hq.1) Tryd.underlying53 sizeStp rfl rfl rfl (by rfl) ?_; simp only [Act.put, List.setIfInBounds_toArray, List.set_cons_zero, List.set_cons_succ])
                      | (refine wpQuiet_load 53 _ (g2) (o2 + j * 3) [.int .i64 sk, .string sn, .int .i64 sp] _ (fun wq hq => range_kept R2.out hq.1) Tryd.underlying53 sizeStp rfl rfl rfl (by rfl) ?_; simp only [Act.put, List.setIfInBounds_toArray, List.set_cons_zero, List.set_cons_succ]))
                    refine wpQuiet_nil ?_
                    intro wz hwz
                    have hfz := hid (Bw3.out.trans ((hb4.out.trans (Below.mono hwz.1 hb4.out.size)).mono Bw3.out.size))
                    clear hwz
                    go_wp2
                    go_ret
                    exact ⟨by rw [hfin.out] <;> rfl, hfz.out⟩
                  · rw [decide_eq_false hus] at eqs
                    have hno2 : Hid (⟨sk, sn, sp⟩ ∉ n.steps.take (k + 1)) := hid (by
                      rw [hutk.out]
                      intro hh
                      rcases List.mem_append.1 hh with h | h
                      · exact hno.out h
                      · exact hus (List.mem_singleton.1 h).symm)
                    clear hus hdec hno
                    go_wp2
                    refine wp_region_quiet (C := (fun w' => Below wr.heap.size wr w' ∧ w'.cell? ⟨w.heap.size, 0, none⟩ = some (.slice (some ⟨g2, o2, none⟩) M sc))) (by kernel_rfl) (by kernel_rfl) (⟨(Below.refl _ _).drew, c00.out⟩) ?_
                    dsimp only
                    repeat (first
                      | go_big_quiet_skip
                      | (refine' wpQuiet_take (by rfl) ?_ ?_
                         rotate_left
                         · (intro wq hq; (try dsimp only at hq); go_simp
                            first
                              | done
                              | with_reducible rfl
                           )
                         simp only [Act.put, List.setIfInBounds_toArray, List.set_cons_zero, List.set_cons_succ])
                      | (refine wpQuiet_load 53 _ (g2) (o2 + k * 3) [.int .i64 uk, .string un, .int .i64 up] _ (fun wq hq => range_kept R1.out hq.1) Tryd.underlying53 sizeStp rfl rfl rfl (by rfl) ?_; simp only [Act.put, List.setIfInBounds_toArray, List.set_cons_zero, List.set_cons_succ])
                      | (refine wpQuiet_load 53 _ (g2) (o2 + j * 3) [.int .i64 sk, .string sn, .int .i64 sp] _ (fun wq hq => range_kept R2.out hq.1) Tryd.underlying53 sizeStp rfl rfl rfl (by rfl) ?_; simp only [Act.put, List.setIfInBounds_toArray, List.set_cons_zero, List.set_cons_succ]))
                    refine wpQuiet_nil ?_
                    intro wz hwz
                    have hfz := hid (hb4.out.trans (Below.mono hwz.1 hb4.out.size))
                    clear hwz
                    go_wp2
                    go_roundw
                    case rel => exact ⟨k + 1, hk1.out, by simp, hno2, hfz⟩
                    case measure => simp [intOf]; have := hk1.out; omega
                · obtain rfl : k = j := by omega
                  have hnd2 : Hid ((n.steps.take (k + 1)).Nodup) := hid (by
                    rw [htk.out, List.nodup_append]
                    refine ⟨hnd.out, by simp, fun a ha b hb e => ?_⟩
                    have := List.mem_singleton.1 hb
                    subst this
                    subst e
                    exact hno.out ha)
                  have hfm2 : Hid ((n.steps.take (k + 1)).all fmS = true) := hid (by rw [htk.out, List.all_append, hfm.out]; simp [hV'.out])
                  have hto2 : Hid (∀ x ∈ n.tos.take (k + 1), (i : Int) < x ∧ x < (N : Int)) := hid (fun y hy => by
                    rw [htx.out] at hy
                    rcases List.mem_append.1 hy with h | h
                    · exact hto.out y h
                    · obtain rfl := List.mem_singleton.1 h
                      exact hxb.out)
                  clear hnd hfm hto hno
                  go_wp2
                  go_roundw
                  case rel => exact ⟨k + 1, hj'.out, by simp, hfm2, hto2, hnd2, hW4⟩
                  case measure => simp [intOf]; have := hj'.out; omega
      · obtain rfl : j = M := by omega
        have hst : Hid (n.steps.take j = n.steps) := hid (List.take_of_length_le (by rw [hM.out]; exact Nat.le_refl _))
        have htt : Hid (n.tos.take j = n.tos) := hid (List.take_of_length_le (by rw [hM2.out]; exact Nat.le_refl _))
        rw [hst.out] at hfm hnd
        rw [htt.out] at hto
        have hfin1 : Hid (B = true ↔ n.ends.Pairwise (· < ·)) := hid (by
          rw [hB.out]
          exact ⟨fun h => h.2.2.2.2, fun h => ⟨by rw [hM.out, hM2.out], hfm.out, hnd.out, hto.out, h⟩⟩)
        clear hfm hnd hto
        go_wp2
        clear c0
        go_loopw [8] (fun qq wq => ∃ q : Nat, 1 ≤ q ∧ (q ≤ K ∨ q = 1) ∧ qq = .int .i64 (q : Int) ∧ Hid ((n.ends.take q).Pairwise (· < ·)) ∧ Hid (Below W1.heap.size W1 wq)) (fun qq _ => K + 1 - (intOf qq).toNat)
        case atStart =>
          refine ⟨1, by omega, .inr rfl, rfl, hid ?_, hb⟩
          match n.ends with
          | [] => simp
          | [a] => simp
          | a :: b :: l => simp
        case round =>
          obtain ⟨q, hq1, hqK, rfl, hpw, hb4⟩ := hrel
          have c2 := (hbox.out _ hb4.out).2.2
          have Bw4 := hid (B1.out.trans (hb4.out.mono B1.out.size))
          by_cases hql : q < K
          · have hqi : (q : Int) < (K : Int) := by omega
            have hq' := hid (show q + 1 ≤ K by omega)
            have hq1' := hid hq1
            obtain ⟨x, hx⟩ : ∃ x, Hid (n.ends[q]? = some x) := ⟨_, List.getElem?_eq_getElem (by rw [hK.out]; exact hql)⟩
            obtain ⟨y, hy⟩ : ∃ y, Hid (n.ends[q - 1]? = some y) := ⟨_, List.getElem?_eq_getElem (by rw [hK.out]; omega)⟩
            obtain ⟨g5, o5, rfl, hcx⟩ := ints_at hE'.out hx.out
            obtain ⟨g6, o6, eo, hcy⟩ := ints_at hE'.out hy.out
            cases eo
            obtain ⟨p, hpq⟩ : ∃ p, Hid (q = p + 1) := ⟨q - 1, hid (by omega)⟩
            have hqp0 := hid (show q - 1 = p by have := hpq.out; omega)
            rw [hqp0.out] at hy hcy
            have cx := hcx _ hb4.out
            have cy := hcy _ hb4.out
            have ad1 : (⟨g5, o5, none⟩ : Addr).add q = ⟨g5, o5 + q, none⟩ := by by_cases h : q = 0 <;> simp [Addr.add, h]
            have ad2 : (⟨g5, o5, none⟩ : Addr).add p = ⟨g5, o5 + p, none⟩ := by by_cases h : p = 0 <;> simp [Addr.add, h]
            have hpi : (p : Int) < (K : Int) := by have := hpq.out; omega
            have hp3 : (q : Int) - 1 = (p : Int) := by have := hpq.out; omega
            have hw1 : IntKind.i64.wrap (p : Int) = (p : Int) := by rw [IntKind.wrap_i64]; omega
            have c2' := hid c2
            have cx' := hid cx
            have cy' := hid cy
            have e1 : decide ((q : Int) < (K : Int)) = true := by simp; omega
            have e2 : decide ((p : Int) < (K : Int)) = true := by simp; omega
            have hwr := hid (show Below wr.heap.size wr wr from Below.refl _ _)
            clear hcx hcy cx cy
            by_cases hxy : x ≤ y
            · have f1 : decide (x ≤ y) = true := decide_eq_true hxy
              have hfin : Hid (B = false) := hid (by
                cases hb : B with
                | false => rfl
                | true => exact absurd (hfin1.out.1 hb) (pw_no (j := q) hq1'.out (by rw [hqp0.out]; exact hy.out) hx.out hxy))
              clear hxy
              go_wp2
              refine wp_region_quiet (C := (fun w' => Below wr.heap.size wr w' ∧ w'.cell? ⟨w.heap.size, 2, none⟩ = some (.slice (some ⟨g5, o5, none⟩) K ec) ∧ w'.cell? ⟨g5, o5 + q, none⟩ = some (.int .i64 x) ∧ w'.cell? ⟨g5, o5 + p, none⟩ = some (.int .i64 y))) (by kernel_rfl) (by kernel_rfl) (⟨(Below.refl _ _).drew, c2'.out, cx'.out, cy'.out⟩) ?_
              dsimp only
              repeat (first
                | (refine wpQuiet_skip (by rfl) ?_; simp only [Act.put, List.setIfInBounds_toArray, List.set_cons_zero, List.set_cons_succ])
                | (refine' wpQuiet_take (by rfl) ?_ ?_
                   rotate_left
                   · (intro wq hq; (try dsimp only at hq); go_simp
                      first
                        | done
                        | with_reducible rfl
                     )
                   simp only [Act.put, List.setIfInBounds_toArray, List.set_cons_zero, List.set_cons_succ]))
              refine wpQuiet_nil ?_
              intro wz hwz
              have hfz := hid (Bw4.out.trans (Below.mono hwz.1 Bw4.out.size))
              clear hwz
              go_wp2
              go_ret
              exact ⟨by rw [hfin.out] <;> rfl, hfz.out⟩
            · have f1 : decide (x ≤ y) = false := decide_eq_false hxy
              have hpw2 : Hid ((n.ends.take (q + 1)).Pairwise (· < ·)) := hid (pw_snoc hpw.out hq1'.out (by rw [hqp0.out]; exact hy.out) hx.out (by omega))
              clear hxy hpw
              go_wp2
              refine wp_region_quiet (C := (fun w' => Below wr.heap.size wr w' ∧ w'.cell? ⟨w.heap.size, 2, none⟩ = some (.slice (some ⟨g5, o5, none⟩) K ec) ∧ w'.cell? ⟨g5, o5 + q, none⟩ = some (.int .i64 x) ∧ w'.cell? ⟨g5, o5 + p, none⟩ = some (.int .i64 y))) (by kernel_rfl) (by kernel_rfl) (⟨(Below.refl _ _).drew, c2'.out, cx'.out, cy'.out⟩) ?_
              dsimp only
              repeat (first
                | (refine wpQuiet_skip (by rfl) ?_; simp only [Act.put, List.setIfInBounds_toArray, List.set_cons_zero, List.set_cons_succ])
                | (refine' wpQuiet_take (by rfl) ?_ ?_
                   rotate_left
                   · (intro wq hq; (try dsimp only at hq); go_simp
                      first
                        | done
                        | with_reducible rfl
                     )
                   simp only [Act.put, List.setIfInBounds_toArray, List.set_cons_zero, List.set_cons_succ]))
              refine wpQuiet_nil ?_
              intro wz hwz
              have hfz := hid (hb4.out.trans (Below.mono hwz.1 hb4.out.size))
              clear hwz
              go_wp2
              go_roundw
              case rel => exact ⟨q + 1, by omega, .inl hq'.out, by simp, hpw2, hfz⟩
              case measure => simp [intOf]; have := hq'.out; omega
          · have hfin : Hid (B = true) := hid (hfin1.out.2 (by have := hpw.out; rwa [List.take_of_length_le (by rw [hK.out]; omega)] at this))
            have hqi : ¬ ((q : Int) < (K : Int)) := by omega
            go_wp2
            go_ret
            exact ⟨by rw [hfin.out] <;> rfl, Bw4.out⟩
  · have f0 : ((M : Int) != (M2 : Int)) = true := by simp; omega
    have hfin : Hid (B = false) := hid (by
      cases hb : B with
      | false => rfl
      | true => have := (hB.out.1 hb).1; rw [hM.out, hM2.out] at this; exact absurd this hMM)
    go_wp2_with (first | refine wpList_load_want 50 _ g (o + i * 3) [.slice sa M sc, .slice ta M2 tc, .slice ea K ec] _ hrg'.out Tryd.underlying50 z1 rfl rfl rfl (by rfl) ?_ | fail)
    go_ret
    exact ⟨by rw [hfin.out] <;> rfl, B1.out⟩
end Go.Proofs.YtbabdhepnjacdaaDoor
