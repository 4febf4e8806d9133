/-
  The law TreeShapes, walked.
-/
import Derived.Test.YthfbmelfflpenaaDoorTrO
import Derived.Test.YthfbmelfflpenaaDoorTrBd
import Derived.Test.YthfbmelfflpenaaDoorTpB2
import Derived.Test.YthfbmelfflpenaaDoorTpC2
namespace Go.Proofs.YthfbmelfflpenaaDoor
open Go.RowKit Go.Shelf

theorem small_byd : byd smallT = false := by decide +kernel
theorem small_wf : wfV smallT 1024 = true := by decide +kernel
theorem small_dep : depV smallT = 2 := by decide +kernel
theorem small_cnt : cntV smallT = 5 := by decide +kernel
set_option maxRecDepth 10000 in
set_option maxHeartbeats 8000000 in
theorem treeShapes_walk (t : Vt) (va : Value) (w : World) (hTw : TabU w) (ha : ValAt w t va) :
    Calls Tryd.prog 3 #[va] w fun e w' => e = .returned (.bool true) ∧ Below w.heap.size w w' := by
  have hs := hid (fun u => small_calls u)
  have hT' := hid hTw
  clear hTw
  have p1 : Hid (∀ v u, TabU u → ValAt u smallT v → Calls Tryd.prog 5 #[v] u fun e w' => e = .returned (.bool true) ∧ Below u.heap.size u w') := fun v u hu h => by
    have := formedP_calls smallT v u hu h
    rwa [small_wf] at this
  have p2 : Hid (∀ v u, ValAt u smallT v → Calls Tryd.prog 7 #[v] u fun e w' => e = .returned (.int .i64 2) ∧ Below u.heap.size u w') := fun v u h => by
    have := depP_ex _ smallT (Nat.le_refl _) (by have := (byd_bnd small_byd).2.2.2; omega) v u h
    rwa [small_dep] at this
  have p3 : Hid (∀ v u, ValAt u smallT v → Calls Tryd.prog 8 #[v] u fun e w' => e = .returned (.int .i64 5) ∧ Below u.heap.size u w') := fun v u h => by
    have := cntP_ex _ smallT (Nat.le_refl _) (by have := (byd_bnd small_byd).2.2.1; omega) v u h
    rwa [small_cnt] at this
  obtain ⟨B, hB⟩ : ∃ B, Hid (byd t = B) := ⟨_, rfl⟩
  obtain ⟨F, hF⟩ : ∃ F, Hid (wfV t 1024 = F) := ⟨_, rfl⟩
  obtain ⟨D, hD⟩ : ∃ D : Int, Hid (((depV t : Nat) : Int) = D) := ⟨_, rfl⟩
  obtain ⟨C, hC⟩ : ∃ C : Int, Hid (((cntV t : Nat) : Int) = C) := ⟨_, rfl⟩
  have q0 := hid (fun u hu => beyond_calls t B hB va u hu)
  have q1 : Hid (∀ u, TabU u → ValAt u t va → Calls Tryd.prog 5 #[va] u fun e w' => e = .returned (.bool F) ∧ Below u.heap.size u w') := fun u hu h => by
    rw [← hF.out]; exact formedP_calls t va u hu h
  have q2 : Hid (B = false → ∀ u, ValAt u t va → Calls Tryd.prog 7 #[va] u fun e w' => e = .returned (.int .i64 D) ∧ Below u.heap.size u w') := fun e u h => by
    have hbd := byd_bnd (hB.out.trans e)
    rw [← hD.out]; exact depP_ex _ t (Nat.le_refl _) (by omega) va u h
  have q3 : Hid (B = false → ∀ u, ValAt u t va → Calls Tryd.prog 8 #[va] u fun e w' => e = .returned (.int .i64 C) ∧ Below u.heap.size u w') := fun e u h => by
    have hbd := byd_bnd (hB.out.trans e)
    rw [← hC.out]; exact cntP_ex _ t (Nat.le_refl _) (by omega) va u h
  have r1 : Hid (B = false → ∀ u, ValAt u t va → Calls Tryd.prog 10 #[va] u fun e w' => e = .returned (.bool F) ∧ Below u.heap.size u w') := fun e u h => by
    have hbd := byd_bnd (hB.out.trans e)
    rw [← hF.out]; exact formed17_calls t hbd.1 va u h
  have r2 : Hid (B = false → ∀ u, ValAt u t va → Calls Tryd.prog 11 #[va] u fun e w' => e = .returned (.int .i64 D) ∧ Below u.heap.size u w') := fun e u h => by
    have hbd := byd_bnd (hB.out.trans e)
    rw [← hD.out]; exact dep_ex _ t (Nat.le_refl _) (by omega) va u h
  have r3 : Hid (B = false → ∀ u, ValAt u t va → Calls Tryd.prog 12 #[va] u fun e w' => e = .returned (.int .i64 C) ∧ Below u.heap.size u w') := fun e u h => by
    have hbd := byd_bnd (hB.out.trans e)
    rw [← hC.out]; exact cnt_ex _ t (Nat.le_refl _) (by omega) va u h
  have ha' := hid ha
  clear hB hF hD hC
  cases ha with
  | mk k b r t ks vs ko kc vo vc X hw hzz hk hr hv =>
  clear hw hzz hk hr hv
  generalize ks.length = N at *
  generalize vs.length = M at *
  have A1 : Hid (At (w.alloc (.cells #[.int .i64 k, .bool b, .string r, .string t, .slice ko N kc, .slice vo M vc] 25)) w.heap.size #[.int .i64 k, .bool b, .string r, .string t, .slice ko N kc, .slice vo M vc] 25) := At.new _ _ _
  have B1 : Hid (Below w.heap.size w (w.alloc (.cells #[.int .i64 k, .bool b, .string r, .string t, .slice ko N kc, .slice vo M vc] 25))) := (Below.refl _ w).alloc (Nat.le_refl _) _
  go_enter Tryd.func3, Tryd.ntmps3
  go_wp2_with fail
  generalize w.alloc (.cells #[.int .i64 k, .bool b, .string r, .string t, .slice ko N kc, .slice vo M vc] 25) = W at A1 B1 ⊢
  -- steps
  refine Calls.mono (hs.out _) ?_
  rintro e w1 ⟨v, rfl, hv, hb⟩
  have A2 := hid (A1.out.keptAll hb)
  have B2 := hid (B1.out.trans (hb.mono B1.out.size))
  clear hb A1 B1
  have hv' := hid hv
  clear hv
  go_wp2_with fail
  refine Calls.mono (p1.out v _ (hT'.out.below B2.out) hv'.out) ?_
  rintro e w2 ⟨rfl, hb⟩
  have A3 := hid (A2.out.keptAll hb)
  have B3 := hid (B2.out.trans (hb.mono B2.out.size))
  clear hb A2 B2
  clear hv'
  go_wp2_with fail
  refine Calls.mono (hs.out _) ?_
  rintro e w3 ⟨v, rfl, hv, hb⟩
  have A4 := hid (A3.out.keptAll hb)
  have B4 := hid (B3.out.trans (hb.mono B3.out.size))
  clear hb A3 B3
  have hv' := hid hv
  clear hv
  go_wp2_with fail
  refine Calls.mono (p2.out v _ hv'.out) ?_
  rintro e w4 ⟨rfl, hb⟩
  have A5 := hid (A4.out.keptAll hb)
  have B5 := hid (B4.out.trans (hb.mono B4.out.size))
  clear hb A4 B4
  clear hv'
  go_wp2_with fail
  refine Calls.mono (hs.out _) ?_
  rintro e w5 ⟨v, rfl, hv, hb⟩
  have A6 := hid (A5.out.keptAll hb)
  have B6 := hid (B5.out.trans (hb.mono B5.out.size))
  clear hb A5 B5
  have hv' := hid hv
  clear hv
  go_wp2_with fail
  refine Calls.mono (p3.out v _ hv'.out) ?_
  rintro e w6 ⟨rfl, hb⟩
  have A7 := hid (A6.out.keptAll hb)
  have B7 := hid (B6.out.trans (hb.mono B6.out.size))
  clear hb A6 B6
  clear hv'
  have c0 := A7.out.cell 0
  have c1 := A7.out.cell 1
  have c2 := A7.out.cell 2
  have c3 := A7.out.cell 3
  have c4 := A7.out.cell 4
  have c5 := A7.out.cell 5
  simp only [List.getElem?_toArray, List.getElem?_cons_zero, List.getElem?_cons_succ] at c0 c1 c2 c3 c4 c5
  clear hs p1 p2 p3
  go_wp2_with fail
  refine Calls.mono (q0.out _ (ha'.out.kept B7.out)) ?_
  rintro e w7 ⟨rfl, hb⟩
  clear c0 c1 c2 c3 c4 c5
  have A8 := hid (A7.out.keptAll hb)
  have B8 := hid (B7.out.trans (hb.mono B7.out.size))
  clear hb A7 B7
  clear q0
  cases B with
  | true =>
    go_wp2
    go_ret
    exact ⟨rfl, B8.out⟩
  | false =>
    have q2' := hid (q2.out rfl)
    have q3' := hid (q3.out rfl)
    have r1' := hid (r1.out rfl)
    have r2' := hid (r2.out rfl)
    have r3' := hid (r3.out rfl)
    clear q2 q3 r1 r2 r3
    have e1 : (F == F) = true := by simp
    have e2 : (D == D) = true := by simp
    have e3 : (C == C) = true := by simp
    go_wp2
    refine wp_region_quiet (C := (fun w' => Below w7.heap.size w7 w')) (by kernel_rfl) (by kernel_rfl) ((Below.refl _ _).drew) ?_
    dsimp only
    repeat (first
      | (refine wpQuiet_skip (by rfl) ?_; simp only [Act.put, List.setIfInBounds_toArray, List.set_cons_zero, List.set_cons_succ])
      | (refine wpQuiet_load 25 _ (w.heap.size) (0) [.int .i64 k, .bool b, .string r, .string t, .slice ko N kc, .slice vo M vc] _ (fun wq hq => (A8.out.keptAll hq).range rfl) Tryd.underlying25 sizeVl rfl rfl rfl (by rfl) ?_; simp only [Act.put, List.setIfInBounds_toArray, List.set_cons_zero, List.set_cons_succ])
      | (refine' wpQuiet_take (by rfl) ?_ ?_
         rotate_left
         · (intro wq hq; (try dsimp only at hq); go_simp
            first
              | done
              | with_reducible rfl
              | (go_at_call 5; have hzz := q1.out wq (hT'.out.below (B8.out.trans (Below.mono hq B8.out.size))) (ha'.out.kept (B8.out.trans (Below.mono hq B8.out.size))); with_reducible refine hzz.mono ?_; clear hzz; rintro e wz ⟨rfl, hb⟩; exact ⟨rfl, Below.trans hq (Below.mono hb hq.size)⟩)
              | (go_at_call 10; have hzz := r1'.out wq (ha'.out.kept (B8.out.trans (Below.mono hq B8.out.size))); with_reducible refine hzz.mono ?_; clear hzz; rintro e wz ⟨rfl, hb⟩; exact ⟨rfl, Below.trans hq (Below.mono hb hq.size)⟩)
              | (go_at_call 7; have hzz := q2'.out wq (ha'.out.kept (B8.out.trans (Below.mono hq B8.out.size))); with_reducible refine hzz.mono ?_; clear hzz; rintro e wz ⟨rfl, hb⟩; exact ⟨rfl, Below.trans hq (Below.mono hb hq.size)⟩)
              | (go_at_call 11; have hzz := r2'.out wq (ha'.out.kept (B8.out.trans (Below.mono hq B8.out.size))); with_reducible refine hzz.mono ?_; clear hzz; rintro e wz ⟨rfl, hb⟩; exact ⟨rfl, Below.trans hq (Below.mono hb hq.size)⟩)
              | (go_at_call 8; have hzz := q3'.out wq (ha'.out.kept (B8.out.trans (Below.mono hq B8.out.size))); with_reducible refine hzz.mono ?_; clear hzz; rintro e wz ⟨rfl, hb⟩; exact ⟨rfl, Below.trans hq (Below.mono hb hq.size)⟩)
              | (go_at_call 12; have hzz := r3'.out wq (ha'.out.kept (B8.out.trans (Below.mono hq B8.out.size))); with_reducible refine hzz.mono ?_; clear hzz; rintro e wz ⟨rfl, hb⟩; exact ⟨rfl, Below.trans hq (Below.mono hb hq.size)⟩)
           )
         simp only [Act.put, List.setIfInBounds_toArray, List.set_cons_zero, List.set_cons_succ]))
    refine wpQuiet_nil ?_
    intro wz hwz
    have hfin := hid (B8.out.trans (Below.mono hwz B8.out.size))
    clear hwz
    go_wp2
    go_ret
    exact ⟨rfl, hfin.out⟩
end Go.Proofs.YthfbmelfflpenaaDoor
