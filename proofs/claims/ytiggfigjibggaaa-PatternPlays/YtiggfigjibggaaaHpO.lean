/-
  A pattern: All.
-/
import Derived.Test.YtiggfigjibggaaaHpN
namespace Go.Proofs.Ytiggfigjibggaaa
open Go.RowKit Go.Shelf Go.Sort

theorem sizeLr : (Try.prog.info? 25).map (·.size) = some 4 := by kernel_rfl
theorem ret_lr1 {fn : Func} {p : Tmp} {R : Ending → World → Prop} {a : Act} {w : World} {b : Nat} {x0 x1 x2 x3 : Value} (hres : fn.results = #[.cell p 25]) (hp : a.tmps.getD p undef = .pointer (some ⟨b, 0, none⟩))
    (h : At w b #[x0, x1, x2, x3] 25) (hd : a.defers = []) (hR : R (.returned (.agg #[x0, x1, x2, x3])) w) : bodyPost Try.prog fn R .ret a w :=
  bodyPost_ret (v := .agg #[x0, x1, x2, x3]) (results_cell_row (P := Try.prog) hres _ w b 25 #[x0, x1, x2, x3] (0, 0) _ hp h Try.underlying25 rfl sizeLr) hd hR
abbrev lrE (e : Ent) : Value := lrA e.r e.n (e.p : Int) (e.h : Int)
set_option maxRecDepth 10000 in
set_option maxHeartbeats 4000000 in
theorem learnt_calls (b : Nat) (e : Ent) (q : Int) (hk : KyOk e.r e.n) (w : World) (hb : At w b (entC e q) 78) :
    Calls Try.prog 32 #[ptB b] w fun en w' => en = .returned (lrE e) ∧ Below w.heap.size w w' := by
  have hb' := hid hb
  obtain ⟨er, en, ep, eh, ea⟩ := e
  have hrz : er.size ≤ 281474976710656 := by have h1 := hk.1; dsimp only at h1; omega
  have hnz : en.size ≤ 281474976710656 := by have h1 := hk.2; dsimp only at h1; omega
  have hcl := hid (fun (u : World) => cloneP_calls25 er hrz u)
  have hcl2 := hid (fun (u : World) => cloneP_calls25 en hnz u)
  obtain ⟨X, hX⟩ : ∃ X, w.heap.size = X := ⟨_, rfl⟩
  obtain ⟨W0, hW0⟩ : ∃ W, w.alloc (.cells #[.string ⟨#[]⟩, .string ⟨#[]⟩, .int .i64 0, .int .i64 0] 25) = W := ⟨_, rfl⟩
  have b0 : Below w.heap.size w W0 := by rw [← hW0]; exact (Below.refl _ w).alloc (Nat.le_refl _) _
  have A0 : At W0 X #[.string ⟨#[]⟩, .string ⟨#[]⟩, .int .i64 0, .int .i64 0] 25 := by rw [← hW0, ← hX]; exact At.new _ _ _
  have hSu := hid (fun (u : World) (hu : Below W0.heap.size W0 u) => (show u.cell? ⟨b, 0, none⟩ = some (.string er) ∧ u.cell? ⟨b, 1, none⟩ = some (.string en) ∧ u.cell? ⟨b, 2, none⟩ = some (.int .i64 (ep : Int)) ∧ u.cell? ⟨b, 3, none⟩ = some (.int .i64 (eh : Int)) from by
    have a1 := (hb'.out.keptAll b0).keptAll hu
    exact ⟨a1.cell 0, a1.cell 1, a1.cell 2, a1.cell 3⟩))
  have hX0 := hid (fun (u : World) (hu : Below W0.heap.size W0 u) => A0.keptAll hu)
  have B0 := hid b0
  clear hb hk b0 A0
  go_enter Try.func32, Try.ntmps32
  go_wp2_with fail
  rename_i Kr hKr
  refine wp_region_held_drew (S := fun u => u.cell? ⟨b, 0, none⟩ = some (.string er) ∧ u.cell? ⟨b, 1, none⟩ = some (.string en) ∧ u.cell? ⟨b, 2, none⟩ = some (.int .i64 (ep : Int)) ∧ u.cell? ⟨b, 3, none⟩ = some (.int .i64 (eh : Int))) (by kernel_rfl) (hSu.out _ (below_drewN _ _ 1)) (fun hH => ?_)
  (refine' wpAnyH_take (i := 0) rfl (by kernel_rfl) (by kernel_rfl) (by kernel_rfl) (fun _ _ _ h => h) (Or.inl ⟨by rfl, ?_⟩) (by assumption) ?_; rotate_left; (· (intro wq hq; (try dsimp only at hq); go_simp; first | done | with_reducible rfl)); simp only [Act.put, List.getElem_toArray, List.getElem_cons_zero, List.setIfInBounds_toArray, List.set_cons_zero, List.set_cons_succ])
  (refine' wpAnyH_take (i := 1) rfl (by kernel_rfl) (by kernel_rfl) (by kernel_rfl) (fun _ _ _ h => h) (Or.inl ⟨by rfl, ?_⟩) (by assumption) ?_; rotate_left; (· (intro wq hq; (try dsimp only at hq); go_simp; first | done | with_reducible rfl)); simp only [Act.put, List.getElem_toArray, List.getElem_cons_zero, List.getElem_cons_succ, List.setIfInBounds_toArray, List.set_cons_zero, List.set_cons_succ])
  (refine' wpAnyH_take (i := 2) rfl (by kernel_rfl) (by kernel_rfl) (by kernel_rfl) (fun _ _ _ h => h) (Or.inl ⟨by rfl, ?_⟩) (by assumption) ?_; rotate_left; (· (intro wq hq; (try dsimp only at hq); go_simp; first | done | with_reducible rfl)); simp only [Act.put, List.getElem_toArray, List.getElem_cons_zero, List.getElem_cons_succ, List.setIfInBounds_toArray, List.set_cons_zero, List.set_cons_succ])
  (refine' wpAnyH_take (i := 3) rfl (by kernel_rfl) (by kernel_rfl) (by kernel_rfl) (fun _ _ _ h => h) (Or.inl ⟨by rfl, ?_⟩) (by assumption) ?_; rotate_left; (· (intro wq hq; (try dsimp only at hq); go_simp; first | done | with_reducible rfl)); simp only [Act.put, List.getElem_toArray, List.getElem_cons_zero, List.getElem_cons_succ, List.setIfInBounds_toArray, List.set_cons_zero, List.set_cons_succ])
  (refine' wpAnyH_take (i := 4) rfl (by kernel_rfl) (by kernel_rfl) (by kernel_rfl) (fun _ _ _ h => h) (Or.inl ⟨by rfl, ?_⟩) (by assumption) ?_; rotate_left; (· (intro wq hq; (try dsimp only at hq); go_simp; first | done | with_reducible rfl)); simp only [Act.put, List.getElem_toArray, List.getElem_cons_zero, List.getElem_cons_succ, List.setIfInBounds_toArray, List.set_cons_zero, List.set_cons_succ])
  (refine' wpAnyH_take (i := 6) rfl (by kernel_rfl) (by kernel_rfl) (by kernel_rfl) (fun _ _ _ h => h) (Or.inl ⟨by rfl, ?_⟩) (by assumption) ?_; rotate_left; (· (intro wq hq; (try dsimp only at hq); go_simp; first | done | with_reducible rfl)); simp only [Act.put, List.getElem_toArray, List.getElem_cons_zero, List.getElem_cons_succ, List.setIfInBounds_toArray, List.set_cons_zero, List.set_cons_succ])
  (refine' wpAnyH_take (i := 7) rfl (by kernel_rfl) (by kernel_rfl) (by kernel_rfl) (fun _ _ _ h => h) (Or.inl ⟨by rfl, ?_⟩) (by assumption) ?_; rotate_left; (· (intro wq hq; (try dsimp only at hq); go_simp; first | done | with_reducible rfl)); simp only [Act.put, List.getElem_toArray, List.getElem_cons_zero, List.getElem_cons_succ, List.setIfInBounds_toArray, List.set_cons_zero, List.set_cons_succ])
  (refine' wpAnyH_take (i := 8) rfl (by kernel_rfl) (by kernel_rfl) (by kernel_rfl) (fun _ _ _ h => h) (Or.inl ⟨by rfl, ?_⟩) (by assumption) ?_; rotate_left; (· (intro wq hq; (try dsimp only at hq); go_simp; first | done | with_reducible rfl)); simp only [Act.put, List.getElem_toArray, List.getElem_cons_zero, List.getElem_cons_succ, List.setIfInBounds_toArray, List.set_cons_zero, List.set_cons_succ])
  (refine' wpAnyH_take (i := 9) rfl (by kernel_rfl) (by kernel_rfl) (by kernel_rfl) (fun _ _ _ h => h) (Or.inl ⟨by rfl, ?_⟩) (by assumption) ?_; rotate_left; (· (intro wq hq; (try dsimp only at hq); go_simp; first | done | with_reducible rfl)); simp only [Act.put, List.getElem_toArray, List.getElem_cons_zero, List.getElem_cons_succ, List.setIfInBounds_toArray, List.set_cons_zero, List.set_cons_succ])
  (refine' wpAnyH_take (i := 10) rfl (by kernel_rfl) (by kernel_rfl) (by kernel_rfl) (fun _ _ _ h => h) (Or.inl ⟨by rfl, ?_⟩) (by assumption) ?_; rotate_left; (· (intro wq hq; (try dsimp only at hq); go_simp; first | done | with_reducible rfl)); simp only [Act.put, List.getElem_toArray, List.getElem_cons_zero, List.getElem_cons_succ, List.setIfInBounds_toArray, List.set_cons_zero, List.set_cons_succ])
  (refine' wpAnyH_take (i := 12) rfl (by kernel_rfl) (by kernel_rfl) (by kernel_rfl) (fun _ _ _ h => h) (Or.inl ⟨by rfl, ?_⟩) (by assumption) ?_; rotate_left; (· (intro wq hq; (try dsimp only at hq); go_simp; first | done | with_reducible rfl)); simp only [Act.put, List.getElem_toArray, List.getElem_cons_zero, List.getElem_cons_succ, List.setIfInBounds_toArray, List.set_cons_zero, List.set_cons_succ])
  (refine' wpAnyH_take (i := 13) rfl (by kernel_rfl) (by kernel_rfl) (by kernel_rfl) (fun _ _ _ h => h) (Or.inl ⟨by rfl, ?_⟩) (by assumption) ?_; rotate_left; (· (intro wq hq; (try dsimp only at hq); go_simp; first | done | with_reducible rfl)); simp only [Act.put, List.getElem_toArray, List.getElem_cons_zero, List.getElem_cons_succ, List.setIfInBounds_toArray, List.set_cons_zero, List.set_cons_succ])
  (refine' wpAnyH_take (i := 14) rfl (by kernel_rfl) (by kernel_rfl) (by kernel_rfl) (fun _ _ _ h => h) (Or.inl ⟨by rfl, ?_⟩) (by assumption) ?_; rotate_left; (· (intro wq hq; (try dsimp only at hq); go_simp; first | done | with_reducible rfl)); simp only [Act.put, List.getElem_toArray, List.getElem_cons_zero, List.getElem_cons_succ, List.setIfInBounds_toArray, List.set_cons_zero, List.set_cons_succ])
  (refine' wpAnyH_take (i := 15) rfl (by kernel_rfl) (by kernel_rfl) (by kernel_rfl) (fun _ _ _ h => h) (Or.inl ⟨by rfl, ?_⟩) (by assumption) ?_; rotate_left; (· (intro wq hq; (try dsimp only at hq); go_simp; first | done | with_reducible rfl)); simp only [Act.put, List.getElem_toArray, List.getElem_cons_zero, List.getElem_cons_succ, List.setIfInBounds_toArray, List.set_cons_zero, List.set_cons_succ])
  (refine' wpAnyH_take (i := 16) rfl (by kernel_rfl) (by kernel_rfl) (by kernel_rfl) (fun _ _ _ h => h) (Or.inl ⟨by rfl, ?_⟩) (by assumption) ?_; rotate_left; (· (intro wq hq; (try dsimp only at hq); go_simp; first | done | with_reducible rfl)); simp only [Act.put, List.getElem_toArray, List.getElem_cons_zero, List.getElem_cons_succ, List.setIfInBounds_toArray, List.set_cons_zero, List.set_cons_succ])
  (refine' wpAnyH_take (i := 17) rfl (by kernel_rfl) (by kernel_rfl) (by kernel_rfl) (fun _ _ _ h => h) (Or.inl ⟨by rfl, ?_⟩) (by assumption) ?_; rotate_left; (· (intro wq hq; (try dsimp only at hq); go_simp; first | done | with_reducible rfl)); simp only [Act.put, List.getElem_toArray, List.getElem_cons_zero, List.getElem_cons_succ, List.setIfInBounds_toArray, List.set_cons_zero, List.set_cons_succ])
  (refine' wpAnyH_take (i := 18) rfl (by kernel_rfl) (by kernel_rfl) (by kernel_rfl) (fun _ _ _ h => h) (Or.inl ⟨by rfl, ?_⟩) (by assumption) ?_; rotate_left; (· (intro wq hq; (try dsimp only at hq); go_simp; first | done | with_reducible rfl)); simp only [Act.put, List.getElem_toArray, List.getElem_cons_zero, List.getElem_cons_succ, List.setIfInBounds_toArray, List.set_cons_zero, List.set_cons_succ])
  (refine' wpAnyH_take (i := 19) rfl (by kernel_rfl) (by kernel_rfl) (by kernel_rfl) (fun _ _ _ h => h) (Or.inl ⟨by rfl, ?_⟩) (by assumption) ?_; rotate_left; (· (intro wq hq; (try dsimp only at hq); go_simp; first | done | with_reducible rfl)); simp only [Act.put, List.getElem_toArray, List.getElem_cons_zero, List.getElem_cons_succ, List.setIfInBounds_toArray, List.set_cons_zero, List.set_cons_succ])
  refine wpAnyH_ready (rs := [5]) (by kernel_rfl) (by simp) ?_
  refine AllReadyH.cons rfl (fun K hK => ?_) ?_
  rotate_left
  · exact AllReadyH.nil
  rw [if_pos (by rfl)]
  go_simp
  refine Calls.mono (hcl.out _) ?_
  rintro e w1 ⟨rfl, b1⟩
  have B1 := hid (show Below W0.heap.size W0 w1 from (below_drewN W0.heap.size W0 1).trans (b1.mono (Nat.le_refl _)))
  refine hK.out _ _ (hSu.out _ B1.out) (fun hH1 => ?_)
  clear hK K b1
  refine wpAnyH_ready (rs := [11]) (by kernel_rfl) (by simp) ?_
  refine AllReadyH.cons rfl (fun K hK => ?_) ?_
  rotate_left
  · exact AllReadyH.nil
  rw [if_pos (by rfl)]
  go_simp
  refine Calls.mono (hcl2.out _) ?_
  rintro e w2 ⟨rfl, b2⟩
  have B2 := hid (show Below W0.heap.size W0 w2 from B1.out.trans (b2.mono B1.out.size))
  refine hK.out _ _ (hSu.out _ B2.out) (fun hH2 => ?_)
  clear hK K b2 hcl hcl2
  (refine' wpAnyH_take (i := 20) rfl (by kernel_rfl) (by kernel_rfl) (by kernel_rfl) (fun _ _ _ h => h) (Or.inl ⟨by rfl, ?_⟩) (by assumption) ?_; rotate_left; (· (intro wq hq; (try dsimp only at hq); go_simp; first | done | with_reducible rfl)); simp only [Act.put, List.getElem_toArray, List.getElem_cons_zero, List.getElem_cons_succ, List.setIfInBounds_toArray, List.set_cons_zero, List.set_cons_succ])
  have A2 := hid (hX0.out w2 B2.out)
  have x0 := A2.out.cell 0
  have x1 := A2.out.cell 1
  have x2 := A2.out.cell 2
  have x3 := A2.out.cell 3
  have z0 := A2.out.frozen 0
  have z1 := A2.out.frozen 1
  have z2 := A2.out.frozen 2
  have z3 := A2.out.frozen 3
  simp only [List.getElem?_toArray, List.getElem?_cons_succ, List.getElem?_cons_zero] at x0 x1 x2 x3
  refine wpAnyH_ready (rs := [21]) (by kernel_rfl) (by simp) ?_
  refine AllReadyH.cons rfl (fun K hK => ?_) ?_
  rotate_left
  · exact AllReadyH.nil
  rw [if_pos (by rfl)]
  go_simp
  have A3 := hid ((((A2.out.set 0 (.string er)).set 1 (.string en)).set 2 (.int .i64 (ep : Int))).set 3 (.int .i64 (eh : Int)))
  have hXle : w.heap.size ≤ X := Nat.le_of_eq hX
  have B3 := hid (((((B0.out.trans (B2.out.mono B0.out.size)).setCell (p := ⟨X, 0, none⟩) hXle (.string er)).setCell (p := ⟨X, 1, none⟩) hXle (.string en)).setCell (p := ⟨X, 2, none⟩) hXle (.int .i64 (ep : Int))).setCell (p := ⟨X, 3, none⟩) hXle (.int .i64 (eh : Int)))
  clear x0 x1 x2 x3 z0 z1 z2 z3
  obtain ⟨W3, hW3⟩ : ∃ W, (((w2.setCell ⟨X, 0, none⟩ (.string er)).setCell ⟨X, 1, none⟩ (.string en)).setCell ⟨X, 2, none⟩ (.int .i64 (ep : Int))).setCell ⟨X, 3, none⟩ (.int .i64 (eh : Int)) = W := ⟨_, rfl⟩
  rw [hW3] at A3 B3 ⊢
  have hS3 := hid (show W3.cell? ⟨b, 0, none⟩ = some (.string er) ∧ W3.cell? ⟨b, 1, none⟩ = some (.string en) ∧ W3.cell? ⟨b, 2, none⟩ = some (.int .i64 (ep : Int)) ∧ W3.cell? ⟨b, 3, none⟩ = some (.int .i64 (eh : Int)) from by
    have a1 := hb'.out.keptAll B3.out
    exact ⟨a1.cell 0, a1.cell 1, a1.cell 2, a1.cell 3⟩)
  have A4 := hid (show At W3 X #[.string er, .string en, .int .i64 (ep : Int), .int .i64 (eh : Int)] 25 from by simpa using A3.out)
  refine hK _ _ hS3.out (fun hH3 => ?_)
  clear hK K hW3 A3 hSu hX0 hH hH1 hH2 hH3
  refine wpAnyH_done (by kernel_rfl) ?_ _
  refine hKr _ _ ?_
  go_wp2
  exact ret_lr1 rfl rfl A4.out rfl ⟨rfl, B3.out⟩
end Go.Proofs.Ytiggfigjibggaaa
