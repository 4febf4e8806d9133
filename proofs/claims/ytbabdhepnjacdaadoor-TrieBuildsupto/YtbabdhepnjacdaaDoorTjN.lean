/-
  quarryref23.where; quarrylaw23.vastPaths.
-/
import Derived.Test.YtbabdhepnjacdaaDoorTjM
namespace Go.Proofs.YtbabdhepnjacdaaDoor
open Go.ChangeShapes Go.WideShapes Go.ChangeAt Go.RowKit Go.Shelf
set_option maxRecDepth 10000 in
set_option maxHeartbeats 8000000 in
theorem where23_calls (n : Nod) (sa ta ea : Option Addr) (sc tc ec M EL : Nat) (hM : Hid (n.steps.length = M)) (hM2 : Hid (n.tos.length = M)) (hMb : M ≤ 1073741824) (s : Stp) (w : World) (hS : Hid (StepsAt w sa n.steps)) (hT : Hid (IntsZ w ta n.tos)) :
    Calls Tryd.prog 35 #[.agg #[.slice sa M sc, .slice ta M tc, .slice ea EL ec], .agg #[.int .i64 s.kind, .string s.name, .int .i64 s.place]] w fun e w' => (∃ r : Int, e = .returned (.int .i64 r) ∧ ((∃ j : Nat, n.steps[j]? = some s ∧ n.tos[j]? = some r) ∨ (s ∉ n.steps ∧ r = -1))) ∧ Below w.heap.size w w' := by
  have hMi : (M : Int) ≤ 1073741824 := by omega
  obtain ⟨sk, sn, sp⟩ := s
  dsimp only
  go_enter Tryd.func35, Tryd.ntmps35
  obtain ⟨b1, hb1⟩ : ∃ b, w.heap.size = b := ⟨_, rfl⟩
  obtain ⟨W1, hW1⟩ : ∃ W, w.alloc (.cells #[.slice sa M sc, .slice ta M tc, .slice ea EL ec] 50) = W := ⟨_, rfl⟩
  have c1 : Below w.heap.size w W1 := by rw [← hW1]; exact (Below.refl _ w).alloc (Nat.le_refl _) _
  have A1 : At W1 b1 #[.slice sa M sc, .slice ta M tc, .slice ea EL ec] 50 := by rw [← hW1, ← hb1]; exact At.new _ _ _
  obtain ⟨b2, hb2⟩ : ∃ b, W1.heap.size = b := ⟨_, rfl⟩
  obtain ⟨W2, hW2⟩ : ∃ W, W1.alloc (.cells #[.int .i64 sk, .string sn, .int .i64 sp] 53) = W := ⟨_, rfl⟩
  have c2 : Below W1.heap.size W1 W2 := by rw [← hW2]; exact (Below.refl _ W1).alloc (Nat.le_refl _) _
  have A2 : At W2 b2 #[.int .i64 sk, .string sn, .int .i64 sp] 53 := by rw [← hW2, ← hb2]; exact At.new _ _ _
  have B2 := hid (c1.trans (c2.mono c1.size))
  have A1' := hid (A1.keptAll c2)
  have A2' := hid A2
  have hbox := hid (fun (u : World) (hu : Below W2.heap.size W2 u) => (show u.cell? ⟨b1, 0, none⟩ = some (.slice sa M sc) ∧ u.cell? ⟨b1, 1, none⟩ = some (.slice ta M tc) from ⟨(A1'.out.keptAll hu).cell 0, (A1'.out.keptAll hu).cell 1⟩))
  have hrs := hid (fun (u : World) (hu : Below W2.heap.size W2 u) => (show u.rangeAt b2 0 [.int .i64 sk, .string sn, .int .i64 sp] from (A2'.out.keptAll hu).range rfl))
  have hS2 := hid (hS.out.kept B2.out)
  have hT2 := hid (hT.out.kept B2.out)
  clear c1 A1 c2 A2 hS hT
  go_wp2
  clear hb1 hW1 hb2 hW2
  go_loopw [5] (fun jj wr => ∃ j : Nat, j ≤ M ∧ jj = .int .i64 (j : Int) ∧ Hid ((⟨sk, sn, sp⟩ : Stp) ∉ n.steps.take j) ∧ Hid (Below W2.heap.size W2 wr)) (fun jj _ => M - (intOf jj).toNat)
  case atStart => exact ⟨0, Nat.zero_le _, rfl, hid (by simp), hid (Below.refl _ _)⟩
  case round =>
    obtain ⟨j, hj, rfl, hno, hb⟩ := hrel
    have k0 := (hbox.out wr hb.out).1
    by_cases hlt : j < M
    · have hli : (j : Int) < (M : Int) := by omega
      have hj' := hid (show j + 1 ≤ M by omega)
      obtain ⟨u, hu⟩ : ∃ u, Hid (n.steps[j]? = some u) := ⟨_, List.getElem?_eq_getElem (by rw [hM.out]; exact hlt)⟩
      obtain ⟨x, hx⟩ : ∃ u, Hid (n.tos[j]? = some u) := ⟨_, List.getElem?_eq_getElem (by rw [hM2.out]; exact hlt)⟩
      obtain ⟨g2, o2, rfl, -, hr1⟩ := steps_at (hS2.out.kept hb.out) hu.out
      obtain ⟨g3, o3, rfl, hcx⟩ := ints_at hT2.out hx.out
      have hutk := hid (take_snoc hu.out)
      obtain ⟨uk, un, up⟩ := u
      obtain ⟨D, hD⟩ : ∃ D : Bool, Hid (decide ((⟨uk, un, up⟩ : Stp) = ⟨sk, sn, sp⟩) = D) := ⟨_, rfl⟩
      have R1 := hid (show wr.rangeAt g2 (o2 + j * 3) [.int .i64 uk, .string un, .int .i64 up] from hr1)
      have R2 := hid (hrs.out wr hb.out)
      have kz0 := hid k0
      have hcx' := hid hcx
      have eqs : ∀ u, (Op.equalIn 10000 53 (.agg #[.int .i64 uk, .string un, .int .i64 up]) (.agg #[.int .i64 sk, .string sn, .int .i64 sp])).run Tryd.prog u = .ok D u := fun u => by
        rw [eqStp, ← hD.out, eq_str]
        congr 1
        rw [Bool.eq_iff_iff]
        simp [Stp.mk.injEq]
      clear hr1 hcx
      go_wp2
      clear k0
      refine wp_region_quiet (C := (fun w' => Below wr.heap.size wr w' ∧ w'.cell? ⟨b1, 0, none⟩ = some (.slice (some ⟨g2, o2, none⟩) M sc))) (by kernel_rfl) (by kernel_rfl) (⟨(Below.refl _ _).drew, kz0.out⟩) ?_
      dsimp only
      repeat (first
        | go_big_quiet_skip
        | (refine' wpQuiet_take (by rfl) ?_ ?_
           rotate_left
           · (intro wq hq; (try dsimp only at hq); go_simp
              first
                | done
                | with_reducible rfl
             )
           simp only [Act.put, List.setIfInBounds_toArray, List.set_cons_zero, List.set_cons_succ])
        | (refine wpQuiet_load 53 _ (g2) (o2 + j * 3) [.int .i64 uk, .string un, .int .i64 up] _ (fun wq hq => range_kept R1.out hq.1) Tryd.underlying53 sizeStp rfl rfl rfl (by rfl) ?_; simp only [Act.put, List.setIfInBounds_toArray, List.set_cons_zero, List.set_cons_succ])
        | (refine wpQuiet_load 53 _ (b2) (0) [.int .i64 sk, .string sn, .int .i64 sp] _ (fun wq hq => range_kept R2.out hq.1) Tryd.underlying53 sizeStp rfl rfl rfl (by rfl) ?_; simp only [Act.put, List.setIfInBounds_toArray, List.set_cons_zero, List.set_cons_succ]))
      refine wpQuiet_nil ?_
      intro wz hwz
      have hfz := hid (hb.out.trans (Below.mono hwz.1 hb.out.size))
      clear hwz eqs
      cases D with
      | true =>
        have hfin := hid (show ∃ j : Nat, n.steps[j]? = some (⟨sk, sn, sp⟩ : Stp) ∧ n.tos[j]? = some x from ⟨j, by rw [hu.out, of_decide_eq_true hD.out], hx.out⟩)
        have k1 := (hbox.out wz hfz.out).2
        have kx := hcx'.out wz hfz.out
        have ad3 : (⟨g3, o3, none⟩ : Addr).add j = ⟨g3, o3 + j, none⟩ := by by_cases h : j = 0 <;> simp [Addr.add, h]
        have Bz := hid (B2.out.trans (hfz.out.mono B2.out.size))
        clear hu hx hD hutk hno
        go_wp2
        go_ret
        exact ⟨⟨x, rfl, .inl hfin.out⟩, Bz.out⟩
      | false =>
        have hno2 := hid (show (⟨sk, sn, sp⟩ : Stp) ∉ n.steps.take (j + 1) from by
          rw [hutk.out]
          intro h
          rcases List.mem_append.1 h with h | h
          · exact hno.out h
          · exact of_decide_eq_false hD.out (List.mem_singleton.1 h).symm)
        clear hu hx hD hutk hno
        go_wp2
        go_roundw
        case rel => exact ⟨j + 1, hj'.out, by simp, hno2, hfz⟩
        case measure => simp [intOf]; have := hj'.out; omega
    · obtain rfl : M = j := by omega
      have hno2 : Hid ((⟨sk, sn, sp⟩ : Stp) ∉ n.steps) := hid (by
        have h := hno.out
        rwa [List.take_of_length_le (by rw [hM.out]; exact Nat.le_refl _)] at h)
      have Bz := hid (B2.out.trans (hb.out.mono B2.out.size))
      go_wp2
      go_ret
      exact ⟨⟨-1, rfl, .inr ⟨hno2.out, rfl⟩⟩, Bz.out⟩
set_option maxRecDepth 10000 in
set_option maxHeartbeats 4000000 in
theorem vastP_calls (L : List (List Stp)) (ao : Option Addr) (N cap : Nat) (hN : Hid (L.length = N)) (hNb : N ≤ 1048576) (hm : Hid (MidP L)) (w : World) (hk : Hid (PthsAt w ao L)) :
    Calls Tryd.prog 13 #[.slice ao N cap] w fun e w' => (∃ V, e = .returned (.bool V)) ∧ Below w.heap.size w w' := by
  have hNi' : (N : Int) ≤ 1048576 := by omega
  go_enter Tryd.func13, Tryd.ntmps13
  go_wp2
  go_loopw [3, 4] (fun cc ii wr => ∃ i c : Nat, i ≤ N ∧ ii = .int .i64 (i : Int) ∧ cc = .int .i64 (c : Int) ∧ c ≤ 2097152 ∧ Hid (c ≤ N + ((L.take i).map List.length).sum) ∧ Hid (Below w.heap.size w wr)) (fun _ ii _ => N - (intOf ii).toNat)
  case atStart => exact ⟨0, N, Nat.zero_le _, rfl, rfl, by omega, hid (by simp), hid (Below.refl _ _)⟩
  case round =>
    obtain ⟨i, c, hi, rfl, rfl, hcb, hc, hb⟩ := hrel
    by_cases hlt : i < N
    · have hli : (i : Int) < (N : Int) := by omega
      by_cases hc3 : c ≤ 3000
      · have f1 : decide ((c : Int) ≤ 3000) = true := decide_eq_true (by omega)
        have f2 : decide (c ≤ 3000) = true := decide_eq_true hc3
        have hi' := hid (show i + 1 ≤ N by omega)
        obtain ⟨p, hp⟩ : ∃ n, Hid (L[i]? = some n) := ⟨_, List.getElem?_eq_getElem (by rw [hN.out]; exact hlt)⟩
        obtain ⟨g, o, so, sc, rfl, -, hcl⟩ := pths_at hk.out hp.out
        have cp := hcl wr hb.out
        have ad1 : (⟨g, o, none⟩ : Addr).add i = ⟨g, o + i, none⟩ := by by_cases h : i = 0 <;> simp [Addr.add, h]
        have hst : ((L.take (i + 1)).map List.length).sum = ((L.take i).map List.length).sum + p.length := by rw [take_snoc hp.out]; simp
        have hsb := sum_take2 L (i + 1)
        have hmm := hm.out.1
        have hc1 := hid (show c + p.length ≤ N + ((L.take (i + 1)).map List.length).sum by have := hc.out; omega)
        have hc2 := hid (show c + p.length ≤ 2097152 by have := hc1.out; omega)
        clear hst hsb hcl hp hmm
        generalize p.length = x0 at *
        have r1 : (c : Int) + (x0 : Int) ≤ 2097152 := by have := hc2.out; omega
        go_wp2
        go_roundw
        case rel => exact ⟨i + 1, c + x0, hi'.out, by simp, by simp, hc2.out, hc1, hb⟩
        case measure => simp [intOf]; have := hi'.out; omega
      · have f1 : decide ((c : Int) ≤ 3000) = false := decide_eq_false (by omega)
        have f2 : decide (c ≤ 3000) = false := decide_eq_false hc3
        go_wp2
        go_ret
        exact ⟨⟨_, rfl⟩, hb.out⟩
    · obtain rfl : i = N := by omega
      go_wp2
      go_ret
      exact ⟨⟨_, rfl⟩, hb.out⟩
end Go.Proofs.YtbabdhepnjacdaaDoor
