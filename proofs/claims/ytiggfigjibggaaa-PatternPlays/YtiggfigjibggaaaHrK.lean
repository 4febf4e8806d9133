/-
  PatternPlays: the walk (gen_hrk.py).
-/
import Derived.Test.YtiggfigjibggaaaHrJ
import Derived.Test.YtiggfigjibggaaaHpV
namespace Go.Proofs.Ytiggfigjibggaaa
open Go.RowKit Go.Shelf Go.Maps

theorem sizeOp : (Try.prog.info? 47).map (·.size) = some 5 := by kernel_rfl
theorem two_set {w : World} {Y Z j k q : Nat} {u v : Value} (h1 : q ≠ Y) (h2 : q ≠ Z) : ((w.setCell ⟨Y, j, none⟩ u).setCell ⟨Z, k, none⟩ v).heap[q]? = w.heap[q]? := (Below.heap_setCell _ ⟨Z, k, none⟩ v q h2).trans (Below.heap_setCell w ⟨Y, j, none⟩ u q h1)
/-- A pair, beyond the law's own boxes; how many have come at most. -/
def Bo (w : World) (Z pb qb : Nat) (S : Nat → Prop) (c : Nat) : Prop := ∃ R came L, came ≤ c ∧ Both w pb qb S R came L ∧ ∀ q, S q → Z < q
theorem Bo.kept {w w' : World} {Z pb qb c : Nat} {S : Nat → Prop} (h : Bo w Z pb qb S c) (hs : w.heap.size ≤ w'.heap.size) (hk : ∀ q, S q → q < w.heap.size → w'.heap[q]? = w.heap[q]?) : Bo w' Z pb qb S c := by
  obtain ⟨R, m, L, h1, h2, h3⟩ := h
  exact ⟨R, m, L, h1, h2.kept hs hk, h3⟩
theorem Bo.keptB {w w' : World} {Z pb qb c : Nat} {S : Nat → Prop} (h : Bo w Z pb qb S c) (hb : Below w.heap.size w w') : Bo w' Z pb qb S c := h.kept hb.size (fun q _ hl => hb.block q hl)
theorem Bo.more {w : World} {Z pb qb c c' : Nat} {S : Nat → Prop} (h : Bo w Z pb qb S c) (hc : c ≤ c') : Bo w Z pb qb S c' := by
  obtain ⟨R, m, L, h1, h2, h3⟩ := h
  exact ⟨R, m, L, Nat.le_trans h1 hc, h2, h3⟩
theorem Bo.far {w : World} {Z pb qb c : Nat} {S : Nat → Prop} (h : Bo w Z pb qb S c) : ∀ q, S q → Z < q := by
  obtain ⟨R, m, L, h1, h2, h3⟩ := h
  exact h3
theorem Bo.bound {w : World} {Z pb qb c : Nat} {S : Nat → Prop} (h : Bo w Z pb qb S c) : ∀ q, S q → q < w.heap.size := by
  obtain ⟨R, m, L, h1, h2, h3⟩ := h
  exact h2.bound
/-- The law's own boxes: what it is given, the patterns, the document's. -/
structure Bxs (X Y Z : Nat) (w wr : World) (cs : Array Value) (P0 P1 Q0 Q1 : Value) : Prop where
  sc : At wr X cs 39
  pa : At wr Y #[P0, P1] 40
  qa : At wr Z #[Q0, Q1] 42
  b : Below w.heap.size w wr
section
variable {X Y Z : Nat} {w wr u : World} {cs : Array Value} {P0 P1 Q0 Q1 : Value} {S : Nat → Prop}
theorem Bxs.keptB (h : Bxs X Y Z w wr cs P0 P1 Q0 Q1) (hb : Below wr.heap.size wr u) : Bxs X Y Z w u cs P0 P1 Q0 Q1 := ⟨h.sc.keptAll hb, h.pa.keptAll hb, h.qa.keptAll hb, h.b.trans (hb.mono h.b.size)⟩
theorem Bxs.lap (h : Bxs X Y Z w wr cs P0 P1 Q0 Q1) (hl : Lap S wr u) (hS : ∀ q, S q → Z < q) (h1 : X < Y) (h2 : Y < Z) (h3 : w.heap.size ≤ X) : Bxs X Y Z w u cs P0 P1 Q0 Q1 :=
  ⟨hl.at h.sc (fun e => by have := hS _ e; omega), hl.at h.pa (fun e => by have := hS _ e; omega), hl.at h.qa (fun e => by have := hS _ e; omega), h.b.trans (hl.below h.b.size (fun q e => by have := hS _ e; omega))⟩
end
set_option maxRecDepth 10000 in
set_option maxHeartbeats 32000000 in
theorem patternPlays_walk (r0 r1 : Int) (ao : Option Addr) (ca : Nat) (l0 : List Lr) (hz0 : l0.length ≤ 2932031007400) (bo : Option Addr) (cb : Nat) (l1 : List Lr) (hz1 : l1.length ≤ 2932031007400) (co : Option Addr) (cc : Nat) (ops : List OpV) (hz2 : ops.length ≤ 140737488355328) (w : World) (h0 : LnsAt w ao l0) (h1 : LnsAt w bo l1) (h2 : OpsAt w co ops) :
    Calls Try.prog 4 #[.agg #[.int .i64 r0, .int .i64 r1, .slice ao l0.length ca, .slice bo l1.length cb, .slice co ops.length cc]] w fun e w' => e = .returned (.bool true) ∧ Below w.heap.size w w' := by
  obtain ⟨N0, hN0⟩ : ∃ N, Hid (l0.length = N) := ⟨_, rfl⟩
  obtain ⟨N1, hN1⟩ : ∃ N, Hid (l1.length = N) := ⟨_, rfl⟩
  obtain ⟨n, hn⟩ : ∃ N, Hid (ops.length = N) := ⟨_, rfl⟩
  rw [hN0.out] at hz0 ⊢
  rw [hN1.out] at hz1 ⊢
  rw [hn.out] at hz2 ⊢
  have h0 := hid h0
  have h1 := hid h1
  have h2 := hid h2
  have hni : (n : Int) ≤ 140737488355328 := by omega
  obtain ⟨X, hX⟩ : ∃ X, w.heap.size = X := ⟨_, rfl⟩
  obtain ⟨W1, hW1⟩ : ∃ W, w.alloc (.cells #[.int .i64 r0, .int .i64 r1, .slice ao N0 ca, .slice bo N1 cb, .slice co n cc] 39) = W := ⟨_, rfl⟩
  obtain ⟨Y, hY⟩ : ∃ X, W1.heap.size = X := ⟨_, rfl⟩
  obtain ⟨W2, hW2⟩ : ∃ W, W1.alloc (.cells #[.pointer none, .pointer none] 40) = W := ⟨_, rfl⟩
  obtain ⟨Z, hZ⟩ : ∃ X, W2.heap.size = X := ⟨_, rfl⟩
  obtain ⟨W3, hW3⟩ : ∃ W, W2.alloc (.cells #[.pointer none, .pointer none] 42) = W := ⟨_, rfl⟩
  have hXY : X < Y := by rw [← hY, ← hW1, ← hX]; simp
  have hYZ : Y < Z := by rw [← hZ, ← hW2, ← hY]; simp
  have hXX : w.heap.size ≤ X := by omega
  have b1 : Below w.heap.size w W1 := by rw [← hW1]; exact (Below.refl _ w).alloc (Nat.le_refl _) _
  have b2 : Below W1.heap.size W1 W2 := by rw [← hW2]; exact (Below.refl _ W1).alloc (Nat.le_refl _) _
  have b3 : Below W2.heap.size W2 W3 := by rw [← hW3]; exact (Below.refl _ W2).alloc (Nat.le_refl _) _
  have hbx0 := hid (show Bxs X Y Z w W3 #[.int .i64 r0, .int .i64 r1, .slice ao N0 ca, .slice bo N1 cb, .slice co n cc] (.pointer none) (.pointer none) (.pointer none) (.pointer none) from
    ⟨((show At W1 X _ _ by rw [← hW1]; exact at_newP hX).keptAll b2).keptAll b3, (show At W2 Y _ _ by rw [← hW2]; exact at_newP hY).keptAll b3, by rw [← hW3]; exact at_newP hZ, b1.trans ((b2.trans (b3.mono b2.size)).mono b1.size)⟩)
  clear b1 b2 b3
  go_enter Try.func4, Try.ntmps4
  go_wp2_with fail
  go_loopw [5] (fun kk wr => (kk = .int .i64 0 ∧ Hid (Bxs X Y Z w wr #[.int .i64 r0, .int .i64 r1, .slice ao N0 ca, .slice bo N1 cb, .slice co n cc] (.pointer none) (.pointer none) (.pointer none) (.pointer none))) ∨ (kk = .int .i64 1 ∧ ∃ p0 q0 S0, Hid (Bxs X Y Z w wr #[.int .i64 r0, .int .i64 r1, .slice ao N0 ca, .slice bo N1 cb, .slice co n cc] (ptB p0) (.pointer none) (ptB q0) (.pointer none)) ∧ Hid (Bo wr Z p0 q0 S0 4096)) ∨ (kk = .int .i64 2 ∧ ∃ p0 q0 S0 p1 q1 S1, Hid (Bxs X Y Z w wr #[.int .i64 r0, .int .i64 r1, .slice ao N0 ca, .slice bo N1 cb, .slice co n cc] (ptB p0) (ptB p1) (ptB q0) (ptB q1)) ∧ Hid (Bo wr Z p0 q0 S0 4096) ∧ Hid (Bo wr Z p1 q1 S1 4096) ∧ Hid (∀ q, S0 q → S1 q → False))) (fun kk _ => 2 - (intOf kk).toNat)
  case atStart => exact .inl ⟨rfl, hbx0⟩
  case round =>
    clear hbx0 hW1 hW2 hW3 hX hY hZ
    rcases hrel with ⟨rfl, hbx⟩ | ⟨rfl, p0, q0, S0, hbx, hb0⟩ | ⟨rfl, p0, q0, S0, p1, q1, S1, hbx, hb0, hb1, hdis⟩
    · have c1 := hbx.out.sc.cell 0
      have c2 := hbx.out.sc.cell 2
      simp only [List.getElem?_toArray, List.getElem?_cons_succ, List.getElem?_cons_zero] at c1 c2
      have hbg := hid (begun_calls r0 l0 ao N0 ca hN0 hz0 wr.drew (hid ((h0.out.kept hbx.out.b).kept (below_drewN wr.heap.size wr 1))))
      go_wp2_with fail
      rename_i Kr hKr
      refine wp_region_held_drew (S := fun u => u.cell? ⟨X, 0, none⟩ = some (.int .i64 r0) ∧ u.cell? ⟨X, 2, none⟩ = some (.slice ao N0 ca)) (by kernel_rfl) ⟨c1, c2⟩ (fun hH => ?_)
      (refine' wpAnyH_take (i := 0) rfl (by kernel_rfl) (by kernel_rfl) (by kernel_rfl) (fun _ _ _ h => h) (Or.inl ⟨by rfl, ?_⟩) (by assumption) ?_; rotate_left; (· (intro wq hq; (try dsimp only at hq); go_simp; first | done | with_reducible rfl)); simp only [Act.put, List.getElem_toArray, List.getElem_cons_zero, List.setIfInBounds_toArray, List.set_cons_zero, List.set_cons_succ])
      (refine' wpAnyH_take (i := 1) rfl (by kernel_rfl) (by kernel_rfl) (by kernel_rfl) (fun _ _ _ h => h) (Or.inl ⟨by rfl, ?_⟩) (by assumption) ?_; rotate_left; (· (intro wq hq; (try dsimp only at hq); go_simp; first | done | with_reducible rfl)); simp only [Act.put, List.getElem_toArray, List.getElem_cons_zero, List.getElem_cons_succ, List.setIfInBounds_toArray, List.set_cons_zero, List.set_cons_succ])
      (refine' wpAnyH_take (i := 2) rfl (by kernel_rfl) (by kernel_rfl) (by kernel_rfl) (fun _ _ _ h => h) (Or.inl ⟨by rfl, ?_⟩) (by assumption) ?_; rotate_left; (· (intro wq hq; (try dsimp only at hq); go_simp; first | done | with_reducible rfl)); simp only [Act.put, List.getElem_toArray, List.getElem_cons_zero, List.getElem_cons_succ, List.setIfInBounds_toArray, List.set_cons_zero, List.set_cons_succ])
      (refine' wpAnyH_take (i := 3) rfl (by kernel_rfl) (by kernel_rfl) (by kernel_rfl) (fun _ _ _ h => h) (Or.inl ⟨by rfl, ?_⟩) (by assumption) ?_; rotate_left; (· (intro wq hq; (try dsimp only at hq); go_simp; first | done | with_reducible rfl)); simp only [Act.put, List.getElem_toArray, List.getElem_cons_zero, List.getElem_cons_succ, List.setIfInBounds_toArray, List.set_cons_zero, List.set_cons_succ])
      (refine' wpAnyH_take (i := 4) rfl (by kernel_rfl) (by kernel_rfl) (by kernel_rfl) (fun _ _ _ h => h) (Or.inl ⟨by rfl, ?_⟩) (by assumption) ?_; rotate_left; (· (intro wq hq; (try dsimp only at hq); go_simp; first | done | with_reducible rfl)); simp only [Act.put, List.getElem_toArray, List.getElem_cons_zero, List.getElem_cons_succ, List.setIfInBounds_toArray, List.set_cons_zero, List.set_cons_succ])
      (refine' wpAnyH_take (i := 5) rfl (by kernel_rfl) (by kernel_rfl) (by kernel_rfl) (fun _ _ _ h => h) (Or.inl ⟨by rfl, ?_⟩) (by assumption) ?_; rotate_left; (· (intro wq hq; (try dsimp only at hq); go_simp; first | done | with_reducible rfl)); simp only [Act.put, List.getElem_toArray, List.getElem_cons_zero, List.getElem_cons_succ, List.setIfInBounds_toArray, List.set_cons_zero, List.set_cons_succ])
      (refine' wpAnyH_take (i := 6) rfl (by kernel_rfl) (by kernel_rfl) (by kernel_rfl) (fun _ _ _ h => h) (Or.inl ⟨by rfl, ?_⟩) (by assumption) ?_; rotate_left; (· (intro wq hq; (try dsimp only at hq); go_simp; first | done | with_reducible rfl)); simp only [Act.put, List.getElem_toArray, List.getElem_cons_zero, List.getElem_cons_succ, List.setIfInBounds_toArray, List.set_cons_zero, List.set_cons_succ])
      (refine' wpAnyH_take (i := 7) rfl (by kernel_rfl) (by kernel_rfl) (by kernel_rfl) (fun _ _ _ h => h) (Or.inl ⟨by rfl, ?_⟩) (by assumption) ?_; rotate_left; (· (intro wq hq; (try dsimp only at hq); go_simp; first | done | with_reducible rfl)); simp only [Act.put, List.getElem_toArray, List.getElem_cons_zero, List.getElem_cons_succ, List.setIfInBounds_toArray, List.set_cons_zero, List.set_cons_succ])
      refine wpAnyH_ready (rs := [8]) (by kernel_rfl) (by simp) ?_
      refine AllReadyH.cons rfl (fun K hK => ?_) ?_
      rotate_left
      · exact AllReadyH.nil
      rw [if_pos (by rfl)]
      go_simp
      refine Calls.mono hbg.out ?_
      rintro e w2 ⟨p0, q0, R, came, L, rfl, hcm, hbo, b2⟩
      have hbx2 := hid ((hbx.out.keptB (below_drewN wr.heap.size wr 1)).keptB b2.out)
      have hz2' := hid (show Z < wr.heap.size from hbx.out.qa.lt)
      have d1 := hbx2.out.sc.cell 0
      have d2 := hbx2.out.sc.cell 2
      simp only [List.getElem?_toArray, List.getElem?_cons_succ, List.getElem?_cons_zero] at d1 d2
      refine hK _ _ ⟨d1, d2⟩ (fun hH2 => ?_)
      clear hK d1 d2
      (refine' wpAnyH_take (i := 9) rfl (by kernel_rfl) (by kernel_rfl) (by kernel_rfl) (fun _ _ _ h => h) (Or.inl ⟨by rfl, ?_⟩) (by assumption) ?_; rotate_left; (· (intro wq hq; (try dsimp only at hq); go_simp; first | done | with_reducible rfl)); simp only [Act.put, List.getElem_toArray, List.getElem_cons_zero, List.getElem_cons_succ, List.setIfInBounds_toArray, List.set_cons_zero, List.set_cons_succ])
      (refine' wpAnyH_take (i := 10) rfl (by kernel_rfl) (by kernel_rfl) (by kernel_rfl) (fun _ _ _ h => h) (Or.inl ⟨by rfl, ?_⟩) (by assumption) ?_; rotate_left; (· (intro wq hq; (try dsimp only at hq); go_simp; first | done | with_reducible rfl)); simp only [Act.put, List.getElem_toArray, List.getElem_cons_zero, List.getElem_cons_succ, List.setIfInBounds_toArray, List.set_cons_zero, List.set_cons_succ])
      (refine' wpAnyH_take (i := 11) rfl (by kernel_rfl) (by kernel_rfl) (by kernel_rfl) (fun _ _ _ h => h) (Or.inl ⟨by rfl, ?_⟩) (by assumption) ?_; rotate_left; (· (intro wq hq; (try dsimp only at hq); go_simp; first | done | with_reducible rfl)); simp only [Act.put, List.getElem_toArray, List.getElem_cons_zero, List.getElem_cons_succ, List.setIfInBounds_toArray, List.set_cons_zero, List.set_cons_succ])
      (refine' wpAnyH_take (i := 12) rfl (by kernel_rfl) (by kernel_rfl) (by kernel_rfl) (fun _ _ _ h => h) (Or.inl ⟨by rfl, ?_⟩) (by assumption) ?_; rotate_left; (· (intro wq hq; (try dsimp only at hq); go_simp; first | done | with_reducible rfl)); simp only [Act.put, List.getElem_toArray, List.getElem_cons_zero, List.getElem_cons_succ, List.setIfInBounds_toArray, List.set_cons_zero, List.set_cons_succ])
      (refine' wpAnyH_take (i := 13) rfl (by kernel_rfl) (by kernel_rfl) (by kernel_rfl) (fun _ _ _ h => h) (Or.inl ⟨by rfl, ?_⟩) (by assumption) ?_; rotate_left; (· (intro wq hq; (try dsimp only at hq); go_simp; first | done | with_reducible rfl)); simp only [Act.put, List.getElem_toArray, List.getElem_cons_zero, List.getElem_cons_succ, List.setIfInBounds_toArray, List.set_cons_zero, List.set_cons_succ])
      (refine' wpAnyH_take (i := 14) rfl (by kernel_rfl) (by kernel_rfl) (by kernel_rfl) (fun _ _ _ h => h) (Or.inl ⟨by rfl, ?_⟩) (by assumption) ?_; rotate_left; (· (intro wq hq; (try dsimp only at hq); go_simp; first | done | with_reducible rfl)); simp only [Act.put, List.getElem_toArray, List.getElem_cons_zero, List.getElem_cons_succ, List.setIfInBounds_toArray, List.set_cons_zero, List.set_cons_succ])
      (refine' wpAnyH_take (i := 15) rfl (by kernel_rfl) (by kernel_rfl) (by kernel_rfl) (fun _ _ _ h => h) (Or.inl ⟨by rfl, ?_⟩) (by assumption) ?_; rotate_left; (· (intro wq hq; (try dsimp only at hq); go_simp; first | done | with_reducible rfl)); simp only [Act.put, List.getElem_toArray, List.getElem_cons_zero, List.getElem_cons_succ, List.setIfInBounds_toArray, List.set_cons_zero, List.set_cons_succ])
      refine wpAnyH_done (by kernel_rfl) ?_ _
      refine hKr _ _ ?_
      have e1 := hbx2.out.pa.cell 0
      have f1 := hbx2.out.pa.frozen 0
      have hqa2 := hbx2.out.qa.other (p := ⟨Y, 0, none⟩) (by show Z ≠ Y; omega) (ptB p0)
      have e2 := hqa2.cell 0
      have f2 := hqa2.frozen 0
      simp only [List.getElem?_toArray, List.getElem?_cons_zero] at e1 e2
      have hbx3 := hid (show Bxs X Y Z w ((w2.setCell ⟨Y, 0, none⟩ (ptB p0)).setCell ⟨Z, 0, none⟩ (ptB q0)) #[.int .i64 r0, .int .i64 r1, .slice ao N0 ca, .slice bo N1 cb, .slice co n cc] (ptB p0) (.pointer none) (ptB q0) (.pointer none) from
        ⟨(hbx2.out.sc.other (p := ⟨Y, 0, none⟩) (by show X ≠ Y; omega) _).other (p := ⟨Z, 0, none⟩) (by show X ≠ Z; omega) _, by simpa using (hbx2.out.pa.set 0 (ptB p0)).other (p := ⟨Z, 0, none⟩) (by show Y ≠ Z; omega) (ptB q0), by simpa using hqa2.set 0 (ptB q0), (hbx2.out.b.setCell (p := ⟨Y, 0, none⟩) (by show w.heap.size ≤ Y; omega) _).setCell (p := ⟨Z, 0, none⟩) (by show w.heap.size ≤ Z; omega) _⟩)
      have hb3 := hid (show Bo ((w2.setCell ⟨Y, 0, none⟩ (ptB p0)).setCell ⟨Z, 0, none⟩ (ptB q0)) Z p0 q0 (fun q => wr.heap.size ≤ q ∧ q < w2.heap.size) 4096 from
        ⟨R, came, L, hcm, hbo.out.kept (by simp [World.setCell]) (fun q h _ => two_set (by have := hz2'.out; have := h.1; have h5 : wr.drew.heap.size = wr.heap.size := rfl; omega) (by have := hz2'.out; have := h.1; have h5 : wr.drew.heap.size = wr.heap.size := rfl; omega)), fun q h => by have := hz2'.out; have := h.1; omega⟩)

      clear hbx hbx2 hqa2 hbo b2 c1 c2 hbg hH hH2
      go_wp2
      go_roundw
      case rel => exact .inr (.inl ⟨by simp, p0, q0, _, hbx3, hb3⟩)
      case measure => simp [intOf]
    · have c1 := hbx.out.sc.cell 1
      have c2 := hbx.out.sc.cell 3
      simp only [List.getElem?_toArray, List.getElem?_cons_succ, List.getElem?_cons_zero] at c1 c2
      have hbg := hid (begun_calls r1 l1 bo N1 cb hN1 hz1 wr.drew (hid ((h1.out.kept hbx.out.b).kept (below_drewN wr.heap.size wr 1))))
      go_wp2_with fail
      rename_i Kr hKr
      refine wp_region_held_drew (S := fun u => u.cell? ⟨X, 1, none⟩ = some (.int .i64 r1) ∧ u.cell? ⟨X, 3, none⟩ = some (.slice bo N1 cb)) (by kernel_rfl) ⟨c1, c2⟩ (fun hH => ?_)
      (refine' wpAnyH_take (i := 0) rfl (by kernel_rfl) (by kernel_rfl) (by kernel_rfl) (fun _ _ _ h => h) (Or.inl ⟨by rfl, ?_⟩) (by assumption) ?_; rotate_left; (· (intro wq hq; (try dsimp only at hq); go_simp; first | done | with_reducible rfl)); simp only [Act.put, List.getElem_toArray, List.getElem_cons_zero, List.setIfInBounds_toArray, List.set_cons_zero, List.set_cons_succ])
      (refine' wpAnyH_take (i := 1) rfl (by kernel_rfl) (by kernel_rfl) (by kernel_rfl) (fun _ _ _ h => h) (Or.inl ⟨by rfl, ?_⟩) (by assumption) ?_; rotate_left; (· (intro wq hq; (try dsimp only at hq); go_simp; first | done | with_reducible rfl)); simp only [Act.put, List.getElem_toArray, List.getElem_cons_zero, List.getElem_cons_succ, List.setIfInBounds_toArray, List.set_cons_zero, List.set_cons_succ])
      (refine' wpAnyH_take (i := 2) rfl (by kernel_rfl) (by kernel_rfl) (by kernel_rfl) (fun _ _ _ h => h) (Or.inl ⟨by rfl, ?_⟩) (by assumption) ?_; rotate_left; (· (intro wq hq; (try dsimp only at hq); go_simp; first | done | with_reducible rfl)); simp only [Act.put, List.getElem_toArray, List.getElem_cons_zero, List.getElem_cons_succ, List.setIfInBounds_toArray, List.set_cons_zero, List.set_cons_succ])
      (refine' wpAnyH_take (i := 3) rfl (by kernel_rfl) (by kernel_rfl) (by kernel_rfl) (fun _ _ _ h => h) (Or.inl ⟨by rfl, ?_⟩) (by assumption) ?_; rotate_left; (· (intro wq hq; (try dsimp only at hq); go_simp; first | done | with_reducible rfl)); simp only [Act.put, List.getElem_toArray, List.getElem_cons_zero, List.getElem_cons_succ, List.setIfInBounds_toArray, List.set_cons_zero, List.set_cons_succ])
      (refine' wpAnyH_take (i := 4) rfl (by kernel_rfl) (by kernel_rfl) (by kernel_rfl) (fun _ _ _ h => h) (Or.inl ⟨by rfl, ?_⟩) (by assumption) ?_; rotate_left; (· (intro wq hq; (try dsimp only at hq); go_simp; first | done | with_reducible rfl)); simp only [Act.put, List.getElem_toArray, List.getElem_cons_zero, List.getElem_cons_succ, List.setIfInBounds_toArray, List.set_cons_zero, List.set_cons_succ])
      (refine' wpAnyH_take (i := 5) rfl (by kernel_rfl) (by kernel_rfl) (by kernel_rfl) (fun _ _ _ h => h) (Or.inl ⟨by rfl, ?_⟩) (by assumption) ?_; rotate_left; (· (intro wq hq; (try dsimp only at hq); go_simp; first | done | with_reducible rfl)); simp only [Act.put, List.getElem_toArray, List.getElem_cons_zero, List.getElem_cons_succ, List.setIfInBounds_toArray, List.set_cons_zero, List.set_cons_succ])
      (refine' wpAnyH_take (i := 6) rfl (by kernel_rfl) (by kernel_rfl) (by kernel_rfl) (fun _ _ _ h => h) (Or.inl ⟨by rfl, ?_⟩) (by assumption) ?_; rotate_left; (· (intro wq hq; (try dsimp only at hq); go_simp; first | done | with_reducible rfl)); simp only [Act.put, List.getElem_toArray, List.getElem_cons_zero, List.getElem_cons_succ, List.setIfInBounds_toArray, List.set_cons_zero, List.set_cons_succ])
      (refine' wpAnyH_take (i := 7) rfl (by kernel_rfl) (by kernel_rfl) (by kernel_rfl) (fun _ _ _ h => h) (Or.inl ⟨by rfl, ?_⟩) (by assumption) ?_; rotate_left; (· (intro wq hq; (try dsimp only at hq); go_simp; first | done | with_reducible rfl)); simp only [Act.put, List.getElem_toArray, List.getElem_cons_zero, List.getElem_cons_succ, List.setIfInBounds_toArray, List.set_cons_zero, List.set_cons_succ])
      refine wpAnyH_ready (rs := [8]) (by kernel_rfl) (by simp) ?_
      refine AllReadyH.cons rfl (fun K hK => ?_) ?_
      rotate_left
      · exact AllReadyH.nil
      rw [if_pos (by rfl)]
      go_simp
      refine Calls.mono hbg.out ?_
      rintro e w2 ⟨p1, q1, R, came, L, rfl, hcm, hbo, b2⟩
      have hbx2 := hid ((hbx.out.keptB (below_drewN wr.heap.size wr 1)).keptB b2.out)
      have hz2' := hid (show Z < wr.heap.size from hbx.out.qa.lt)
      have d1 := hbx2.out.sc.cell 1
      have d2 := hbx2.out.sc.cell 3
      simp only [List.getElem?_toArray, List.getElem?_cons_succ, List.getElem?_cons_zero] at d1 d2
      refine hK _ _ ⟨d1, d2⟩ (fun hH2 => ?_)
      clear hK d1 d2
      (refine' wpAnyH_take (i := 9) rfl (by kernel_rfl) (by kernel_rfl) (by kernel_rfl) (fun _ _ _ h => h) (Or.inl ⟨by rfl, ?_⟩) (by assumption) ?_; rotate_left; (· (intro wq hq; (try dsimp only at hq); go_simp; first | done | with_reducible rfl)); simp only [Act.put, List.getElem_toArray, List.getElem_cons_zero, List.getElem_cons_succ, List.setIfInBounds_toArray, List.set_cons_zero, List.set_cons_succ])
      (refine' wpAnyH_take (i := 10) rfl (by kernel_rfl) (by kernel_rfl) (by kernel_rfl) (fun _ _ _ h => h) (Or.inl ⟨by rfl, ?_⟩) (by assumption) ?_; rotate_left; (· (intro wq hq; (try dsimp only at hq); go_simp; first | done | with_reducible rfl)); simp only [Act.put, List.getElem_toArray, List.getElem_cons_zero, List.getElem_cons_succ, List.setIfInBounds_toArray, List.set_cons_zero, List.set_cons_succ])
      (refine' wpAnyH_take (i := 11) rfl (by kernel_rfl) (by kernel_rfl) (by kernel_rfl) (fun _ _ _ h => h) (Or.inl ⟨by rfl, ?_⟩) (by assumption) ?_; rotate_left; (· (intro wq hq; (try dsimp only at hq); go_simp; first | done | with_reducible rfl)); simp only [Act.put, List.getElem_toArray, List.getElem_cons_zero, List.getElem_cons_succ, List.setIfInBounds_toArray, List.set_cons_zero, List.set_cons_succ])
      (refine' wpAnyH_take (i := 12) rfl (by kernel_rfl) (by kernel_rfl) (by kernel_rfl) (fun _ _ _ h => h) (Or.inl ⟨by rfl, ?_⟩) (by assumption) ?_; rotate_left; (· (intro wq hq; (try dsimp only at hq); go_simp; first | done | with_reducible rfl)); simp only [Act.put, List.getElem_toArray, List.getElem_cons_zero, List.getElem_cons_succ, List.setIfInBounds_toArray, List.set_cons_zero, List.set_cons_succ])
      (refine' wpAnyH_take (i := 13) rfl (by kernel_rfl) (by kernel_rfl) (by kernel_rfl) (fun _ _ _ h => h) (Or.inl ⟨by rfl, ?_⟩) (by assumption) ?_; rotate_left; (· (intro wq hq; (try dsimp only at hq); go_simp; first | done | with_reducible rfl)); simp only [Act.put, List.getElem_toArray, List.getElem_cons_zero, List.getElem_cons_succ, List.setIfInBounds_toArray, List.set_cons_zero, List.set_cons_succ])
      (refine' wpAnyH_take (i := 14) rfl (by kernel_rfl) (by kernel_rfl) (by kernel_rfl) (fun _ _ _ h => h) (Or.inl ⟨by rfl, ?_⟩) (by assumption) ?_; rotate_left; (· (intro wq hq; (try dsimp only at hq); go_simp; first | done | with_reducible rfl)); simp only [Act.put, List.getElem_toArray, List.getElem_cons_zero, List.getElem_cons_succ, List.setIfInBounds_toArray, List.set_cons_zero, List.set_cons_succ])
      (refine' wpAnyH_take (i := 15) rfl (by kernel_rfl) (by kernel_rfl) (by kernel_rfl) (fun _ _ _ h => h) (Or.inl ⟨by rfl, ?_⟩) (by assumption) ?_; rotate_left; (· (intro wq hq; (try dsimp only at hq); go_simp; first | done | with_reducible rfl)); simp only [Act.put, List.getElem_toArray, List.getElem_cons_zero, List.getElem_cons_succ, List.setIfInBounds_toArray, List.set_cons_zero, List.set_cons_succ])
      refine wpAnyH_done (by kernel_rfl) ?_ _
      refine hKr _ _ ?_
      have e1 := hbx2.out.pa.cell 1
      have f1 := hbx2.out.pa.frozen 1
      have hqa2 := hbx2.out.qa.other (p := ⟨Y, 1, none⟩) (by show Z ≠ Y; omega) (ptB p1)
      have e2 := hqa2.cell 1
      have f2 := hqa2.frozen 1
      simp only [List.getElem?_toArray, List.getElem?_cons_succ, List.getElem?_cons_zero] at e1 e2
      have hbx3 := hid (show Bxs X Y Z w ((w2.setCell ⟨Y, 1, none⟩ (ptB p1)).setCell ⟨Z, 1, none⟩ (ptB q1)) #[.int .i64 r0, .int .i64 r1, .slice ao N0 ca, .slice bo N1 cb, .slice co n cc] (ptB p0) (ptB p1) (ptB q0) (ptB q1) from
        ⟨(hbx2.out.sc.other (p := ⟨Y, 1, none⟩) (by show X ≠ Y; omega) _).other (p := ⟨Z, 1, none⟩) (by show X ≠ Z; omega) _, by simpa using (hbx2.out.pa.set 1 (ptB p1)).other (p := ⟨Z, 1, none⟩) (by show Y ≠ Z; omega) (ptB q1), by simpa using hqa2.set 1 (ptB q1), (hbx2.out.b.setCell (p := ⟨Y, 1, none⟩) (by show w.heap.size ≤ Y; omega) _).setCell (p := ⟨Z, 1, none⟩) (by show w.heap.size ≤ Z; omega) _⟩)
      have hb3 := hid (show Bo ((w2.setCell ⟨Y, 1, none⟩ (ptB p1)).setCell ⟨Z, 1, none⟩ (ptB q1)) Z p1 q1 (fun q => wr.heap.size ≤ q ∧ q < w2.heap.size) 4096 from
        ⟨R, came, L, hcm, hbo.out.kept (by simp [World.setCell]) (fun q h _ => two_set (by have := hz2'.out; have := h.1; have h5 : wr.drew.heap.size = wr.heap.size := rfl; omega) (by have := hz2'.out; have := h.1; have h5 : wr.drew.heap.size = wr.heap.size := rfl; omega)), fun q h => by have := hz2'.out; have := h.1; omega⟩)

      have hb30 := hid (show Bo ((w2.setCell ⟨Y, 1, none⟩ (ptB p1)).setCell ⟨Z, 1, none⟩ (ptB q1)) Z p0 q0 S0 4096 from
        ((hb0.out.keptB (below_drewN wr.heap.size wr 1)).keptB b2.out).kept (by simp [World.setCell]) (fun q h _ => two_set (by have := hb0.out.far q h; omega) (by have := hb0.out.far q h; omega)))
      have hdis := hid (fun (q : Nat) (h : S0 q) (h2 : wr.heap.size ≤ q ∧ q < w2.heap.size) => (by
        have := hb0.out.bound q h
        omega : False))
      clear hbx hbx2 hqa2 hbo b2 c1 c2 hbg hH hH2 hb0
      go_wp2
      go_roundw
      case rel => exact .inr (.inr ⟨by simp, p0, q0, S0, p1, q1, _, hbx3, hb30, hb3, hdis⟩)
      case measure => simp [intOf]
    · have hb0 := hid (hb0.out.more (show 4096 ≤ 4096 + 0 by omega))
      have hb1 := hid (hb1.out.more (show 4096 ≤ 4096 + 0 by omega))
      go_wp2_with fail
      go_loopw [9, 10] (fun aa ii wr => ∃ (i a : Nat) (S0 S1 : Nat → Prop), i ≤ n ∧ a ≤ i ∧ aa = .int .i64 (a : Int) ∧ ii = .int .i64 (i : Int) ∧ Hid (Bxs X Y Z w wr #[.int .i64 r0, .int .i64 r1, .slice ao N0 ca, .slice bo N1 cb, .slice co n cc] (ptB p0) (ptB p1) (ptB q0) (ptB q1)) ∧ Hid (Bo wr Z p0 q0 S0 (4096 + i)) ∧ Hid (Bo wr Z p1 q1 S1 (4096 + i)) ∧ Hid (∀ q, S0 q → S1 q → False)) (fun _ ii _ => n - (intOf ii).toNat)
      case atStart => exact ⟨0, 0, S0, S1, Nat.zero_le _, Nat.le_refl _, rfl, rfl, hbx, hb0, hb1, hdis⟩
      case round =>
        clear hbx hb0 hb1 hdis
        obtain ⟨i, a, S0, S1, hi, ha, rfl, rfl, hbx, hb0, hb1, hdis⟩ := hrel
        have c4 := hbx.out.sc.cell 4
        simp only [List.getElem?_toArray, List.getElem?_cons_succ, List.getElem?_cons_zero] at c4
        by_cases hlt : i < n
        · have hlti : (i : Int) < (n : Int) := by omega
          have hi' := hid (show i + 1 ≤ n by omega)
          have hai : (a : Int) + 1 ≤ 140737488355329 := by omega
          obtain ⟨x, hx⟩ : ∃ x, Hid (ops[i]? = some x) := ⟨ops[i]'(by rw [hn.out]; exact hlt), List.getElem?_eq_getElem _⟩
          have hxo := hid (h2.out i x hx.out).1
          obtain ⟨-, b, o, rfl, hbw, -⟩ := h2.out i x hx.out
          obtain ⟨-, b', o', e, -, hrg⟩ := (h2.out.kept hbx.out.b) i x hx.out
          cases e
          have hbw := hid hbw
          have ad : (⟨b, o, none⟩ : Addr).add (i * 5) = ⟨b, o + i * 5, none⟩ := by by_cases h : i * 5 = 0 <;> simp [Addr.add, h]
          obtain ⟨on, kd, r, nn, p⟩ := x
          dsimp only at *
          have x0 := hrg 0 _ rfl
          have x1 := hrg 1 _ rfl
          rw [Nat.add_zero] at x0
          have hrg := hid (show wr.rangeAt b (o + i * 5) [.int .i64 on, .int .i64 kd, .string r, .string nn, .int .i64 p] from hrg)
          have hpo := hid (fun u => pick25_calls on 2 (by omega) (by omega) u)
          have hpk := hid (fun u => pick25_calls kd 4 (by omega) (by omega) u)
          go_wp2_with fail
          refine Calls.mono (hpo.out _) ?_
          rintro e w1 ⟨⟨I, hI, rfl⟩, hww⟩
          rw [hww]
          clear hpo hww w1
          go_wp2_with fail
          refine Calls.mono (hpk.out _) ?_
          rintro e w1 ⟨⟨J, hJ, rfl⟩, hww⟩
          rw [hww]
          clear hpk hww w1
          by_cases hJ2 : J = 2
          · subst hJ2
            by_cases h300 : 300 < a + 1
            · have h3i : (300 : Int) < (a : Int) + 1 := by omega
              go_wp2
              go_roundw
              case rel => exact ⟨i + 1, a + 1, S0, S1, hi'.out, by omega, by simp, by simp, hbx, hid (hb0.out.more (by omega)), hid (hb1.out.more (by omega)), hdis⟩
              case measure => simp [intOf]; have := hi'.out; omega
            · have h3i : decide ((300 : Int) < (a : Int) + 1) = false := by simp; omega
              clear h300
              by_cases hI0 : I = 0
              · subst hI0
                obtain ⟨R, came, L, hcm, hbo, hfar⟩ := hb0.out
                have hst := hid (step_calls p0 q0 S0 R came L (by omega) ⟨on, kd, r, nn, p⟩ hxo.out wr.drew (hid (hbo.keptB (below_drewN wr.heap.size wr 1))))
                have g1 := hbx.out.pa.cell 0
                have g2 := hbx.out.qa.cell 0
                simp only [List.getElem?_toArray, List.getElem?_cons_zero] at g1 g2
                have g1 := hid g1
                have g2 := hid g2
                have g4 := hid c4
                go_wp2_with fail
                rename_i Kr hKr
                refine wp_region_held_drew (S := fun u => u.cell? ⟨Y, 0, none⟩ = some (ptB p0) ∧ u.cell? ⟨Z, 0, none⟩ = some (ptB q0) ∧ u.cell? ⟨X, 4, none⟩ = some (.slice (some ⟨b, o, none⟩) n cc) ∧ u.rangeAt b (o + i * 5) [.int .i64 on, .int .i64 kd, .string r, .string nn, .int .i64 p]) (by kernel_rfl) ⟨g1.out, g2.out, g4.out, hrg.out⟩ (fun hH => ?_)
                (refine' wpAnyH_take (i := 0) rfl (by kernel_rfl) (by kernel_rfl) (by kernel_rfl) (fun _ _ _ h => h) (Or.inl ⟨by rfl, ?_⟩) (by assumption) ?_; rotate_left; (· (intro wq hq; (try dsimp only at hq); go_simp; first | done | with_reducible rfl)); simp only [Act.put, List.getElem_toArray, List.getElem_cons_zero, List.setIfInBounds_toArray, List.set_cons_zero, List.set_cons_succ])
                (refine' wpAnyH_take (i := 1) rfl (by kernel_rfl) (by kernel_rfl) (by kernel_rfl) (fun _ _ _ h => h) (Or.inl ⟨by rfl, ?_⟩) (by assumption) ?_; rotate_left; (· (intro wq hq; (try dsimp only at hq); go_simp; first | done | with_reducible rfl)); simp only [Act.put, List.getElem_toArray, List.getElem_cons_zero, List.getElem_cons_succ, List.setIfInBounds_toArray, List.set_cons_zero, List.set_cons_succ])
                (refine' wpAnyH_take (i := 2) rfl (by kernel_rfl) (by kernel_rfl) (by kernel_rfl) (fun _ _ _ h => h) (Or.inl ⟨by rfl, ?_⟩) (by assumption) ?_; rotate_left; (· (intro wq hq; (try dsimp only at hq); go_simp; first | done | with_reducible rfl)); simp only [Act.put, List.getElem_toArray, List.getElem_cons_zero, List.getElem_cons_succ, List.setIfInBounds_toArray, List.set_cons_zero, List.set_cons_succ])
                (refine' wpAnyH_take (i := 3) rfl (by kernel_rfl) (by kernel_rfl) (by kernel_rfl) (fun _ _ _ h => h) (Or.inl ⟨by rfl, ?_⟩) (by assumption) ?_; rotate_left; (· (intro wq hq; (try dsimp only at hq); go_simp; first | done | with_reducible rfl)); simp only [Act.put, List.getElem_toArray, List.getElem_cons_zero, List.getElem_cons_succ, List.setIfInBounds_toArray, List.set_cons_zero, List.set_cons_succ])
                (refine' wpAnyH_take (i := 4) rfl (by kernel_rfl) (by kernel_rfl) (by kernel_rfl) (fun _ _ _ h => h) (Or.inl ⟨by rfl, ?_⟩) (by assumption) ?_; rotate_left; (· (intro wq hq; (try dsimp only at hq); go_simp; first | done | with_reducible rfl)); simp only [Act.put, List.getElem_toArray, List.getElem_cons_zero, List.getElem_cons_succ, List.setIfInBounds_toArray, List.set_cons_zero, List.set_cons_succ])
                (refine' wpAnyH_take (i := 5) rfl (by kernel_rfl) (by kernel_rfl) (by kernel_rfl) (fun _ _ _ h => h) (Or.inl ⟨by rfl, ?_⟩) (by assumption) ?_; rotate_left; (· (intro wq hq; (try dsimp only at hq); go_simp; first | done | with_reducible rfl)); simp only [Act.put, List.getElem_toArray, List.getElem_cons_zero, List.getElem_cons_succ, List.setIfInBounds_toArray, List.set_cons_zero, List.set_cons_succ])
                (refine' wpAnyH_take (i := 6) rfl (by kernel_rfl) (by kernel_rfl) (by kernel_rfl) (fun _ _ _ h => h) (Or.inl ⟨by rfl, ?_⟩) (by assumption) ?_; rotate_left; (· (intro wq hq; (try dsimp only at hq); go_simp; first | done | with_reducible rfl)); simp only [Act.put, List.getElem_toArray, List.getElem_cons_zero, List.getElem_cons_succ, List.setIfInBounds_toArray, List.set_cons_zero, List.set_cons_succ])
                (refine' wpAnyH_take (i := 7) rfl (by kernel_rfl) (by kernel_rfl) (by kernel_rfl) (fun _ _ _ h => h) (Or.inl ⟨by rfl, ?_⟩) (by assumption) ?_; rotate_left; (· (intro wq hq; (try dsimp only at hq); go_simp; first | done | with_reducible rfl)); simp only [Act.put, List.getElem_toArray, List.getElem_cons_zero, List.getElem_cons_succ, List.setIfInBounds_toArray, List.set_cons_zero, List.set_cons_succ])
                (refine' wpAnyH_take (i := 8) rfl (by kernel_rfl) (by kernel_rfl) (by kernel_rfl) (fun _ _ _ h => h) (Or.inl ⟨by rfl, ?_⟩) (by assumption) ?_; rotate_left; (· (intro wq hq; (try dsimp only at hq); go_simp; first | done | with_reducible rfl)); simp only [Act.put, List.getElem_toArray, List.getElem_cons_zero, List.getElem_cons_succ, List.setIfInBounds_toArray, List.set_cons_zero, List.set_cons_succ])
                (refine' wpAnyH_take (i := 9) rfl (by kernel_rfl) (by kernel_rfl) (by kernel_rfl) (fun _ _ _ h => h) (Or.inl ⟨by rfl, ?_⟩) (by assumption) ?_; rotate_left; (· (intro wq hq; (try dsimp only at hq); go_simp; first | done | with_reducible rfl)); simp only [Act.put, List.getElem_toArray, List.getElem_cons_zero, List.getElem_cons_succ, List.setIfInBounds_toArray, List.set_cons_zero, List.set_cons_succ])
                (refine wpAnyH_take (i := 10) (v := .agg [.int .i64 on, .int .i64 kd, .string r, .string nn, .int .i64 p].toArray) rfl (by kernel_rfl) (by kernel_rfl) (by kernel_rfl) (fun _ _ _ h => h) (yieldsIf_load_mid (by rfl) 47 _ rfl (b) (o + i * 5) rfl [.int .i64 on, .int .i64 kd, .string r, .string nn, .int .i64 p] _ (fun wq hq => hq.2.2.2) Try.underlying47 rfl sizeOp) (by assumption) ?_; simp only [Act.put, List.getElem_toArray, List.getElem_cons_zero, List.getElem_cons_succ, List.setIfInBounds_toArray, List.set_cons_zero, List.set_cons_succ])
                refine wpAnyH_ready (rs := [11]) (by kernel_rfl) (by simp) ?_
                refine AllReadyH.cons rfl (fun K hK => ?_) ?_
                rotate_left
                · exact AllReadyH.nil
                rw [if_pos (by rfl)]
                go_simp
                refine Calls.mono hst.out ?_
                rintro e w2 ⟨rfl, c', L', hc', hb', lp⟩
                have l2 := hid ((Lap.refl S0 wr).drew.trans lp.out (fun q _ h => h))
                have hbx2 := hid (hbx.out.lap l2.out hfar (by omega) (by omega) (by omega))
                have hz2' := hid (show Z < wr.heap.size from hbx.out.qa.lt)
                have k1 := hbx2.out.pa.cell 0
                have k2 := hbx2.out.qa.cell 0
                have k4 := hbx2.out.sc.cell 4
                simp only [List.getElem?_toArray, List.getElem?_cons_succ, List.getElem?_cons_zero] at k1 k2 k4
                have hr2 := hid (show w2.rangeAt b (o + i * 5) [.int .i64 on, .int .i64 kd, .string r, .string nn, .int .i64 p] from fun j u hj => by
                  rw [World.cell?_of_block (w := wr) (a := ⟨b, o + i * 5 + j, none⟩) (l2.out.block b (Nat.lt_of_lt_of_le hbw.out hbx.out.b.size) (fun h => by have := hfar b h; have := hbw.out; omega))]
                  exact hrg.out j u hj)
                have hme := hid (show Bo w2 Z p0 q0 (fun q => S0 q ∨ (wr.heap.size ≤ q ∧ q < w2.heap.size)) (4096 + (i + 1)) from ⟨R, c', L', by omega, hb'.out, fun q h => h.elim (hfar q) (fun h => by have := hz2'.out; have := h.1; omega)⟩)
                have hot := hid (show Bo w2 Z p1 q1 S1 (4096 + (i + 1)) from (hb1.out.kept l2.out.size (fun q h hl => l2.out.block q hl (fun h2 => hdis.out q h2 h))).more (by omega))
                have hdis2 := hid (show ∀ q, (S0 q ∨ (wr.heap.size ≤ q ∧ q < w2.heap.size)) → S1 q → False from fun q h1 h2 => by
                  rcases h1 with h1 | h1
                  · exact hdis.out q h1 h2
                  · have := hb1.out.bound q h2
                    omega)
                refine hK _ _ ⟨k1, k2, k4, hr2.out⟩ (fun hH2 => ?_)
                clear hK k1 k2 k4
                (refine' wpAnyH_take (i := 12) rfl (by kernel_rfl) (by kernel_rfl) (by kernel_rfl) (fun _ _ _ h => h) (Or.inl ⟨by rfl, ?_⟩) (by assumption) ?_; rotate_left; (· (intro wq hq; (try dsimp only at hq); go_simp; first | done | with_reducible rfl)); simp only [Act.put, List.getElem_toArray, List.getElem_cons_zero, List.getElem_cons_succ, List.setIfInBounds_toArray, List.set_cons_zero, List.set_cons_succ])
                refine wpAnyH_done (by kernel_rfl) ?_ _
                refine hKr _ _ ?_
                clear hbx hb0 hb1 hdis hst lp l2 hbo hb' hr2 g1 g2 g4 hH hH2 c4 hrg x0 x1
                go_wp2
                go_roundw
                case rel => exact ⟨i + 1, a + 1, _, _, hi'.out, by omega, by simp, by simp, hbx2, hme, hot, hdis2⟩
                case measure => simp [intOf]; have := hi'.out; omega
              · obtain rfl : I = 1 := by omega
                obtain ⟨R, came, L, hcm, hbo, hfar⟩ := hb1.out
                have hst := hid (step_calls p1 q1 S1 R came L (by omega) ⟨on, kd, r, nn, p⟩ hxo.out wr.drew (hid (hbo.keptB (below_drewN wr.heap.size wr 1))))
                have g1 := hbx.out.pa.cell 1
                have g2 := hbx.out.qa.cell 1
                simp only [List.getElem?_toArray, List.getElem?_cons_succ, List.getElem?_cons_zero] at g1 g2
                have g1 := hid g1
                have g2 := hid g2
                have g4 := hid c4
                go_wp2_with fail
                rename_i Kr hKr
                refine wp_region_held_drew (S := fun u => u.cell? ⟨Y, 1, none⟩ = some (ptB p1) ∧ u.cell? ⟨Z, 1, none⟩ = some (ptB q1) ∧ u.cell? ⟨X, 4, none⟩ = some (.slice (some ⟨b, o, none⟩) n cc) ∧ u.rangeAt b (o + i * 5) [.int .i64 on, .int .i64 kd, .string r, .string nn, .int .i64 p]) (by kernel_rfl) ⟨g1.out, g2.out, g4.out, hrg.out⟩ (fun hH => ?_)
                (refine' wpAnyH_take (i := 0) rfl (by kernel_rfl) (by kernel_rfl) (by kernel_rfl) (fun _ _ _ h => h) (Or.inl ⟨by rfl, ?_⟩) (by assumption) ?_; rotate_left; (· (intro wq hq; (try dsimp only at hq); go_simp; first | done | with_reducible rfl)); simp only [Act.put, List.getElem_toArray, List.getElem_cons_zero, List.setIfInBounds_toArray, List.set_cons_zero, List.set_cons_succ])
                (refine' wpAnyH_take (i := 1) rfl (by kernel_rfl) (by kernel_rfl) (by kernel_rfl) (fun _ _ _ h => h) (Or.inl ⟨by rfl, ?_⟩) (by assumption) ?_; rotate_left; (· (intro wq hq; (try dsimp only at hq); go_simp; first | done | with_reducible rfl)); simp only [Act.put, List.getElem_toArray, List.getElem_cons_zero, List.getElem_cons_succ, List.setIfInBounds_toArray, List.set_cons_zero, List.set_cons_succ])
                (refine' wpAnyH_take (i := 2) rfl (by kernel_rfl) (by kernel_rfl) (by kernel_rfl) (fun _ _ _ h => h) (Or.inl ⟨by rfl, ?_⟩) (by assumption) ?_; rotate_left; (· (intro wq hq; (try dsimp only at hq); go_simp; first | done | with_reducible rfl)); simp only [Act.put, List.getElem_toArray, List.getElem_cons_zero, List.getElem_cons_succ, List.setIfInBounds_toArray, List.set_cons_zero, List.set_cons_succ])
                (refine' wpAnyH_take (i := 3) rfl (by kernel_rfl) (by kernel_rfl) (by kernel_rfl) (fun _ _ _ h => h) (Or.inl ⟨by rfl, ?_⟩) (by assumption) ?_; rotate_left; (· (intro wq hq; (try dsimp only at hq); go_simp; first | done | with_reducible rfl)); simp only [Act.put, List.getElem_toArray, List.getElem_cons_zero, List.getElem_cons_succ, List.setIfInBounds_toArray, List.set_cons_zero, List.set_cons_succ])
                (refine' wpAnyH_take (i := 4) rfl (by kernel_rfl) (by kernel_rfl) (by kernel_rfl) (fun _ _ _ h => h) (Or.inl ⟨by rfl, ?_⟩) (by assumption) ?_; rotate_left; (· (intro wq hq; (try dsimp only at hq); go_simp; first | done | with_reducible rfl)); simp only [Act.put, List.getElem_toArray, List.getElem_cons_zero, List.getElem_cons_succ, List.setIfInBounds_toArray, List.set_cons_zero, List.set_cons_succ])
                (refine' wpAnyH_take (i := 5) rfl (by kernel_rfl) (by kernel_rfl) (by kernel_rfl) (fun _ _ _ h => h) (Or.inl ⟨by rfl, ?_⟩) (by assumption) ?_; rotate_left; (· (intro wq hq; (try dsimp only at hq); go_simp; first | done | with_reducible rfl)); simp only [Act.put, List.getElem_toArray, List.getElem_cons_zero, List.getElem_cons_succ, List.setIfInBounds_toArray, List.set_cons_zero, List.set_cons_succ])
                (refine' wpAnyH_take (i := 6) rfl (by kernel_rfl) (by kernel_rfl) (by kernel_rfl) (fun _ _ _ h => h) (Or.inl ⟨by rfl, ?_⟩) (by assumption) ?_; rotate_left; (· (intro wq hq; (try dsimp only at hq); go_simp; first | done | with_reducible rfl)); simp only [Act.put, List.getElem_toArray, List.getElem_cons_zero, List.getElem_cons_succ, List.setIfInBounds_toArray, List.set_cons_zero, List.set_cons_succ])
                (refine' wpAnyH_take (i := 7) rfl (by kernel_rfl) (by kernel_rfl) (by kernel_rfl) (fun _ _ _ h => h) (Or.inl ⟨by rfl, ?_⟩) (by assumption) ?_; rotate_left; (· (intro wq hq; (try dsimp only at hq); go_simp; first | done | with_reducible rfl)); simp only [Act.put, List.getElem_toArray, List.getElem_cons_zero, List.getElem_cons_succ, List.setIfInBounds_toArray, List.set_cons_zero, List.set_cons_succ])
                (refine' wpAnyH_take (i := 8) rfl (by kernel_rfl) (by kernel_rfl) (by kernel_rfl) (fun _ _ _ h => h) (Or.inl ⟨by rfl, ?_⟩) (by assumption) ?_; rotate_left; (· (intro wq hq; (try dsimp only at hq); go_simp; first | done | with_reducible rfl)); simp only [Act.put, List.getElem_toArray, List.getElem_cons_zero, List.getElem_cons_succ, List.setIfInBounds_toArray, List.set_cons_zero, List.set_cons_succ])
                (refine' wpAnyH_take (i := 9) rfl (by kernel_rfl) (by kernel_rfl) (by kernel_rfl) (fun _ _ _ h => h) (Or.inl ⟨by rfl, ?_⟩) (by assumption) ?_; rotate_left; (· (intro wq hq; (try dsimp only at hq); go_simp; first | done | with_reducible rfl)); simp only [Act.put, List.getElem_toArray, List.getElem_cons_zero, List.getElem_cons_succ, List.setIfInBounds_toArray, List.set_cons_zero, List.set_cons_succ])
                (refine wpAnyH_take (i := 10) (v := .agg [.int .i64 on, .int .i64 kd, .string r, .string nn, .int .i64 p].toArray) rfl (by kernel_rfl) (by kernel_rfl) (by kernel_rfl) (fun _ _ _ h => h) (yieldsIf_load_mid (by rfl) 47 _ rfl (b) (o + i * 5) rfl [.int .i64 on, .int .i64 kd, .string r, .string nn, .int .i64 p] _ (fun wq hq => hq.2.2.2) Try.underlying47 rfl sizeOp) (by assumption) ?_; simp only [Act.put, List.getElem_toArray, List.getElem_cons_zero, List.getElem_cons_succ, List.setIfInBounds_toArray, List.set_cons_zero, List.set_cons_succ])
                refine wpAnyH_ready (rs := [11]) (by kernel_rfl) (by simp) ?_
                refine AllReadyH.cons rfl (fun K hK => ?_) ?_
                rotate_left
                · exact AllReadyH.nil
                rw [if_pos (by rfl)]
                go_simp
                refine Calls.mono hst.out ?_
                rintro e w2 ⟨rfl, c', L', hc', hb', lp⟩
                have l2 := hid ((Lap.refl S1 wr).drew.trans lp.out (fun q _ h => h))
                have hbx2 := hid (hbx.out.lap l2.out hfar (by omega) (by omega) (by omega))
                have hz2' := hid (show Z < wr.heap.size from hbx.out.qa.lt)
                have k1 := hbx2.out.pa.cell 1
                have k2 := hbx2.out.qa.cell 1
                have k4 := hbx2.out.sc.cell 4
                simp only [List.getElem?_toArray, List.getElem?_cons_succ, List.getElem?_cons_zero] at k1 k2 k4
                have hr2 := hid (show w2.rangeAt b (o + i * 5) [.int .i64 on, .int .i64 kd, .string r, .string nn, .int .i64 p] from fun j u hj => by
                  rw [World.cell?_of_block (w := wr) (a := ⟨b, o + i * 5 + j, none⟩) (l2.out.block b (Nat.lt_of_lt_of_le hbw.out hbx.out.b.size) (fun h => by have := hfar b h; have := hbw.out; omega))]
                  exact hrg.out j u hj)
                have hme := hid (show Bo w2 Z p1 q1 (fun q => S1 q ∨ (wr.heap.size ≤ q ∧ q < w2.heap.size)) (4096 + (i + 1)) from ⟨R, c', L', by omega, hb'.out, fun q h => h.elim (hfar q) (fun h => by have := hz2'.out; have := h.1; omega)⟩)
                have hot := hid (show Bo w2 Z p0 q0 S0 (4096 + (i + 1)) from (hb0.out.kept l2.out.size (fun q h hl => l2.out.block q hl (fun h2 => hdis.out q h h2))).more (by omega))
                have hdis2 := hid (show ∀ q, S0 q → (S1 q ∨ (wr.heap.size ≤ q ∧ q < w2.heap.size)) → False from fun q h1 h2 => by
                  rcases h2 with h2 | h2
                  · exact hdis.out q h1 h2
                  · have := hb0.out.bound q h1
                    omega)
                refine hK _ _ ⟨k1, k2, k4, hr2.out⟩ (fun hH2 => ?_)
                clear hK k1 k2 k4
                (refine' wpAnyH_take (i := 12) rfl (by kernel_rfl) (by kernel_rfl) (by kernel_rfl) (fun _ _ _ h => h) (Or.inl ⟨by rfl, ?_⟩) (by assumption) ?_; rotate_left; (· (intro wq hq; (try dsimp only at hq); go_simp; first | done | with_reducible rfl)); simp only [Act.put, List.getElem_toArray, List.getElem_cons_zero, List.getElem_cons_succ, List.setIfInBounds_toArray, List.set_cons_zero, List.set_cons_succ])
                refine wpAnyH_done (by kernel_rfl) ?_ _
                refine hKr _ _ ?_
                clear hbx hb0 hb1 hdis hst lp l2 hbo hb' hr2 g1 g2 g4 hH hH2 c4 hrg x0 x1
                go_wp2
                go_roundw
                case rel => exact ⟨i + 1, a + 1, _, _, hi'.out, by omega, by simp, by simp, hbx2, hot, hme, hdis2⟩
                case measure => simp [intOf]; have := hi'.out; omega
          · have hJi : ((J : Int) == 2) = false := by simp; omega
            by_cases hI0 : I = 0
            · subst hI0
              obtain ⟨R, came, L, hcm, hbo, hfar⟩ := hb0.out
              have hst := hid (step_calls p0 q0 S0 R came L (by omega) ⟨on, kd, r, nn, p⟩ hxo.out wr.drew (hid (hbo.keptB (below_drewN wr.heap.size wr 1))))
              have g1 := hbx.out.pa.cell 0
              have g2 := hbx.out.qa.cell 0
              simp only [List.getElem?_toArray, List.getElem?_cons_zero] at g1 g2
              have g1 := hid g1
              have g2 := hid g2
              have g4 := hid c4
              go_wp2_with fail
              rename_i Kr hKr
              refine wp_region_held_drew (S := fun u => u.cell? ⟨Y, 0, none⟩ = some (ptB p0) ∧ u.cell? ⟨Z, 0, none⟩ = some (ptB q0) ∧ u.cell? ⟨X, 4, none⟩ = some (.slice (some ⟨b, o, none⟩) n cc) ∧ u.rangeAt b (o + i * 5) [.int .i64 on, .int .i64 kd, .string r, .string nn, .int .i64 p]) (by kernel_rfl) ⟨g1.out, g2.out, g4.out, hrg.out⟩ (fun hH => ?_)
              (refine' wpAnyH_take (i := 0) rfl (by kernel_rfl) (by kernel_rfl) (by kernel_rfl) (fun _ _ _ h => h) (Or.inl ⟨by rfl, ?_⟩) (by assumption) ?_; rotate_left; (· (intro wq hq; (try dsimp only at hq); go_simp; first | done | with_reducible rfl)); simp only [Act.put, List.getElem_toArray, List.getElem_cons_zero, List.setIfInBounds_toArray, List.set_cons_zero, List.set_cons_succ])
              (refine' wpAnyH_take (i := 1) rfl (by kernel_rfl) (by kernel_rfl) (by kernel_rfl) (fun _ _ _ h => h) (Or.inl ⟨by rfl, ?_⟩) (by assumption) ?_; rotate_left; (· (intro wq hq; (try dsimp only at hq); go_simp; first | done | with_reducible rfl)); simp only [Act.put, List.getElem_toArray, List.getElem_cons_zero, List.getElem_cons_succ, List.setIfInBounds_toArray, List.set_cons_zero, List.set_cons_succ])
              (refine' wpAnyH_take (i := 2) rfl (by kernel_rfl) (by kernel_rfl) (by kernel_rfl) (fun _ _ _ h => h) (Or.inl ⟨by rfl, ?_⟩) (by assumption) ?_; rotate_left; (· (intro wq hq; (try dsimp only at hq); go_simp; first | done | with_reducible rfl)); simp only [Act.put, List.getElem_toArray, List.getElem_cons_zero, List.getElem_cons_succ, List.setIfInBounds_toArray, List.set_cons_zero, List.set_cons_succ])
              (refine' wpAnyH_take (i := 3) rfl (by kernel_rfl) (by kernel_rfl) (by kernel_rfl) (fun _ _ _ h => h) (Or.inl ⟨by rfl, ?_⟩) (by assumption) ?_; rotate_left; (· (intro wq hq; (try dsimp only at hq); go_simp; first | done | with_reducible rfl)); simp only [Act.put, List.getElem_toArray, List.getElem_cons_zero, List.getElem_cons_succ, List.setIfInBounds_toArray, List.set_cons_zero, List.set_cons_succ])
              (refine' wpAnyH_take (i := 4) rfl (by kernel_rfl) (by kernel_rfl) (by kernel_rfl) (fun _ _ _ h => h) (Or.inl ⟨by rfl, ?_⟩) (by assumption) ?_; rotate_left; (· (intro wq hq; (try dsimp only at hq); go_simp; first | done | with_reducible rfl)); simp only [Act.put, List.getElem_toArray, List.getElem_cons_zero, List.getElem_cons_succ, List.setIfInBounds_toArray, List.set_cons_zero, List.set_cons_succ])
              (refine' wpAnyH_take (i := 5) rfl (by kernel_rfl) (by kernel_rfl) (by kernel_rfl) (fun _ _ _ h => h) (Or.inl ⟨by rfl, ?_⟩) (by assumption) ?_; rotate_left; (· (intro wq hq; (try dsimp only at hq); go_simp; first | done | with_reducible rfl)); simp only [Act.put, List.getElem_toArray, List.getElem_cons_zero, List.getElem_cons_succ, List.setIfInBounds_toArray, List.set_cons_zero, List.set_cons_succ])
              (refine' wpAnyH_take (i := 6) rfl (by kernel_rfl) (by kernel_rfl) (by kernel_rfl) (fun _ _ _ h => h) (Or.inl ⟨by rfl, ?_⟩) (by assumption) ?_; rotate_left; (· (intro wq hq; (try dsimp only at hq); go_simp; first | done | with_reducible rfl)); simp only [Act.put, List.getElem_toArray, List.getElem_cons_zero, List.getElem_cons_succ, List.setIfInBounds_toArray, List.set_cons_zero, List.set_cons_succ])
              (refine' wpAnyH_take (i := 7) rfl (by kernel_rfl) (by kernel_rfl) (by kernel_rfl) (fun _ _ _ h => h) (Or.inl ⟨by rfl, ?_⟩) (by assumption) ?_; rotate_left; (· (intro wq hq; (try dsimp only at hq); go_simp; first | done | with_reducible rfl)); simp only [Act.put, List.getElem_toArray, List.getElem_cons_zero, List.getElem_cons_succ, List.setIfInBounds_toArray, List.set_cons_zero, List.set_cons_succ])
              (refine' wpAnyH_take (i := 8) rfl (by kernel_rfl) (by kernel_rfl) (by kernel_rfl) (fun _ _ _ h => h) (Or.inl ⟨by rfl, ?_⟩) (by assumption) ?_; rotate_left; (· (intro wq hq; (try dsimp only at hq); go_simp; first | done | with_reducible rfl)); simp only [Act.put, List.getElem_toArray, List.getElem_cons_zero, List.getElem_cons_succ, List.setIfInBounds_toArray, List.set_cons_zero, List.set_cons_succ])
              (refine' wpAnyH_take (i := 9) rfl (by kernel_rfl) (by kernel_rfl) (by kernel_rfl) (fun _ _ _ h => h) (Or.inl ⟨by rfl, ?_⟩) (by assumption) ?_; rotate_left; (· (intro wq hq; (try dsimp only at hq); go_simp; first | done | with_reducible rfl)); simp only [Act.put, List.getElem_toArray, List.getElem_cons_zero, List.getElem_cons_succ, List.setIfInBounds_toArray, List.set_cons_zero, List.set_cons_succ])
              (refine wpAnyH_take (i := 10) (v := .agg [.int .i64 on, .int .i64 kd, .string r, .string nn, .int .i64 p].toArray) rfl (by kernel_rfl) (by kernel_rfl) (by kernel_rfl) (fun _ _ _ h => h) (yieldsIf_load_mid (by rfl) 47 _ rfl (b) (o + i * 5) rfl [.int .i64 on, .int .i64 kd, .string r, .string nn, .int .i64 p] _ (fun wq hq => hq.2.2.2) Try.underlying47 rfl sizeOp) (by assumption) ?_; simp only [Act.put, List.getElem_toArray, List.getElem_cons_zero, List.getElem_cons_succ, List.setIfInBounds_toArray, List.set_cons_zero, List.set_cons_succ])
              refine wpAnyH_ready (rs := [11]) (by kernel_rfl) (by simp) ?_
              refine AllReadyH.cons rfl (fun K hK => ?_) ?_
              rotate_left
              · exact AllReadyH.nil
              rw [if_pos (by rfl)]
              go_simp
              refine Calls.mono hst.out ?_
              rintro e w2 ⟨rfl, c', L', hc', hb', lp⟩
              have l2 := hid ((Lap.refl S0 wr).drew.trans lp.out (fun q _ h => h))
              have hbx2 := hid (hbx.out.lap l2.out hfar (by omega) (by omega) (by omega))
              have hz2' := hid (show Z < wr.heap.size from hbx.out.qa.lt)
              have k1 := hbx2.out.pa.cell 0
              have k2 := hbx2.out.qa.cell 0
              have k4 := hbx2.out.sc.cell 4
              simp only [List.getElem?_toArray, List.getElem?_cons_succ, List.getElem?_cons_zero] at k1 k2 k4
              have hr2 := hid (show w2.rangeAt b (o + i * 5) [.int .i64 on, .int .i64 kd, .string r, .string nn, .int .i64 p] from fun j u hj => by
                rw [World.cell?_of_block (w := wr) (a := ⟨b, o + i * 5 + j, none⟩) (l2.out.block b (Nat.lt_of_lt_of_le hbw.out hbx.out.b.size) (fun h => by have := hfar b h; have := hbw.out; omega))]
                exact hrg.out j u hj)
              have hme := hid (show Bo w2 Z p0 q0 (fun q => S0 q ∨ (wr.heap.size ≤ q ∧ q < w2.heap.size)) (4096 + (i + 1)) from ⟨R, c', L', by omega, hb'.out, fun q h => h.elim (hfar q) (fun h => by have := hz2'.out; have := h.1; omega)⟩)
              have hot := hid (show Bo w2 Z p1 q1 S1 (4096 + (i + 1)) from (hb1.out.kept l2.out.size (fun q h hl => l2.out.block q hl (fun h2 => hdis.out q h2 h))).more (by omega))
              have hdis2 := hid (show ∀ q, (S0 q ∨ (wr.heap.size ≤ q ∧ q < w2.heap.size)) → S1 q → False from fun q h1 h2 => by
                rcases h1 with h1 | h1
                · exact hdis.out q h1 h2
                · have := hb1.out.bound q h2
                  omega)
              refine hK _ _ ⟨k1, k2, k4, hr2.out⟩ (fun hH2 => ?_)
              clear hK k1 k2 k4
              (refine' wpAnyH_take (i := 12) rfl (by kernel_rfl) (by kernel_rfl) (by kernel_rfl) (fun _ _ _ h => h) (Or.inl ⟨by rfl, ?_⟩) (by assumption) ?_; rotate_left; (· (intro wq hq; (try dsimp only at hq); go_simp; first | done | with_reducible rfl)); simp only [Act.put, List.getElem_toArray, List.getElem_cons_zero, List.getElem_cons_succ, List.setIfInBounds_toArray, List.set_cons_zero, List.set_cons_succ])
              refine wpAnyH_done (by kernel_rfl) ?_ _
              refine hKr _ _ ?_
              clear hbx hb0 hb1 hdis hst lp l2 hbo hb' hr2 g1 g2 g4 hH hH2 c4 hrg x0 x1
              go_wp2
              go_roundw
              case rel => exact ⟨i + 1, a, _, _, hi'.out, by omega, rfl, by simp, hbx2, hme, hot, hdis2⟩
              case measure => simp [intOf]; have := hi'.out; omega
            · obtain rfl : I = 1 := by omega
              obtain ⟨R, came, L, hcm, hbo, hfar⟩ := hb1.out
              have hst := hid (step_calls p1 q1 S1 R came L (by omega) ⟨on, kd, r, nn, p⟩ hxo.out wr.drew (hid (hbo.keptB (below_drewN wr.heap.size wr 1))))
              have g1 := hbx.out.pa.cell 1
              have g2 := hbx.out.qa.cell 1
              simp only [List.getElem?_toArray, List.getElem?_cons_succ, List.getElem?_cons_zero] at g1 g2
              have g1 := hid g1
              have g2 := hid g2
              have g4 := hid c4
              go_wp2_with fail
              rename_i Kr hKr
              refine wp_region_held_drew (S := fun u => u.cell? ⟨Y, 1, none⟩ = some (ptB p1) ∧ u.cell? ⟨Z, 1, none⟩ = some (ptB q1) ∧ u.cell? ⟨X, 4, none⟩ = some (.slice (some ⟨b, o, none⟩) n cc) ∧ u.rangeAt b (o + i * 5) [.int .i64 on, .int .i64 kd, .string r, .string nn, .int .i64 p]) (by kernel_rfl) ⟨g1.out, g2.out, g4.out, hrg.out⟩ (fun hH => ?_)
              (refine' wpAnyH_take (i := 0) rfl (by kernel_rfl) (by kernel_rfl) (by kernel_rfl) (fun _ _ _ h => h) (Or.inl ⟨by rfl, ?_⟩) (by assumption) ?_; rotate_left; (· (intro wq hq; (try dsimp only at hq); go_simp; first | done | with_reducible rfl)); simp only [Act.put, List.getElem_toArray, List.getElem_cons_zero, List.setIfInBounds_toArray, List.set_cons_zero, List.set_cons_succ])
              (refine' wpAnyH_take (i := 1) rfl (by kernel_rfl) (by kernel_rfl) (by kernel_rfl) (fun _ _ _ h => h) (Or.inl ⟨by rfl, ?_⟩) (by assumption) ?_; rotate_left; (· (intro wq hq; (try dsimp only at hq); go_simp; first | done | with_reducible rfl)); simp only [Act.put, List.getElem_toArray, List.getElem_cons_zero, List.getElem_cons_succ, List.setIfInBounds_toArray, List.set_cons_zero, List.set_cons_succ])
              (refine' wpAnyH_take (i := 2) rfl (by kernel_rfl) (by kernel_rfl) (by kernel_rfl) (fun _ _ _ h => h) (Or.inl ⟨by rfl, ?_⟩) (by assumption) ?_; rotate_left; (· (intro wq hq; (try dsimp only at hq); go_simp; first | done | with_reducible rfl)); simp only [Act.put, List.getElem_toArray, List.getElem_cons_zero, List.getElem_cons_succ, List.setIfInBounds_toArray, List.set_cons_zero, List.set_cons_succ])
              (refine' wpAnyH_take (i := 3) rfl (by kernel_rfl) (by kernel_rfl) (by kernel_rfl) (fun _ _ _ h => h) (Or.inl ⟨by rfl, ?_⟩) (by assumption) ?_; rotate_left; (· (intro wq hq; (try dsimp only at hq); go_simp; first | done | with_reducible rfl)); simp only [Act.put, List.getElem_toArray, List.getElem_cons_zero, List.getElem_cons_succ, List.setIfInBounds_toArray, List.set_cons_zero, List.set_cons_succ])
              (refine' wpAnyH_take (i := 4) rfl (by kernel_rfl) (by kernel_rfl) (by kernel_rfl) (fun _ _ _ h => h) (Or.inl ⟨by rfl, ?_⟩) (by assumption) ?_; rotate_left; (· (intro wq hq; (try dsimp only at hq); go_simp; first | done | with_reducible rfl)); simp only [Act.put, List.getElem_toArray, List.getElem_cons_zero, List.getElem_cons_succ, List.setIfInBounds_toArray, List.set_cons_zero, List.set_cons_succ])
              (refine' wpAnyH_take (i := 5) rfl (by kernel_rfl) (by kernel_rfl) (by kernel_rfl) (fun _ _ _ h => h) (Or.inl ⟨by rfl, ?_⟩) (by assumption) ?_; rotate_left; (· (intro wq hq; (try dsimp only at hq); go_simp; first | done | with_reducible rfl)); simp only [Act.put, List.getElem_toArray, List.getElem_cons_zero, List.getElem_cons_succ, List.setIfInBounds_toArray, List.set_cons_zero, List.set_cons_succ])
              (refine' wpAnyH_take (i := 6) rfl (by kernel_rfl) (by kernel_rfl) (by kernel_rfl) (fun _ _ _ h => h) (Or.inl ⟨by rfl, ?_⟩) (by assumption) ?_; rotate_left; (· (intro wq hq; (try dsimp only at hq); go_simp; first | done | with_reducible rfl)); simp only [Act.put, List.getElem_toArray, List.getElem_cons_zero, List.getElem_cons_succ, List.setIfInBounds_toArray, List.set_cons_zero, List.set_cons_succ])
              (refine' wpAnyH_take (i := 7) rfl (by kernel_rfl) (by kernel_rfl) (by kernel_rfl) (fun _ _ _ h => h) (Or.inl ⟨by rfl, ?_⟩) (by assumption) ?_; rotate_left; (· (intro wq hq; (try dsimp only at hq); go_simp; first | done | with_reducible rfl)); simp only [Act.put, List.getElem_toArray, List.getElem_cons_zero, List.getElem_cons_succ, List.setIfInBounds_toArray, List.set_cons_zero, List.set_cons_succ])
              (refine' wpAnyH_take (i := 8) rfl (by kernel_rfl) (by kernel_rfl) (by kernel_rfl) (fun _ _ _ h => h) (Or.inl ⟨by rfl, ?_⟩) (by assumption) ?_; rotate_left; (· (intro wq hq; (try dsimp only at hq); go_simp; first | done | with_reducible rfl)); simp only [Act.put, List.getElem_toArray, List.getElem_cons_zero, List.getElem_cons_succ, List.setIfInBounds_toArray, List.set_cons_zero, List.set_cons_succ])
              (refine' wpAnyH_take (i := 9) rfl (by kernel_rfl) (by kernel_rfl) (by kernel_rfl) (fun _ _ _ h => h) (Or.inl ⟨by rfl, ?_⟩) (by assumption) ?_; rotate_left; (· (intro wq hq; (try dsimp only at hq); go_simp; first | done | with_reducible rfl)); simp only [Act.put, List.getElem_toArray, List.getElem_cons_zero, List.getElem_cons_succ, List.setIfInBounds_toArray, List.set_cons_zero, List.set_cons_succ])
              (refine wpAnyH_take (i := 10) (v := .agg [.int .i64 on, .int .i64 kd, .string r, .string nn, .int .i64 p].toArray) rfl (by kernel_rfl) (by kernel_rfl) (by kernel_rfl) (fun _ _ _ h => h) (yieldsIf_load_mid (by rfl) 47 _ rfl (b) (o + i * 5) rfl [.int .i64 on, .int .i64 kd, .string r, .string nn, .int .i64 p] _ (fun wq hq => hq.2.2.2) Try.underlying47 rfl sizeOp) (by assumption) ?_; simp only [Act.put, List.getElem_toArray, List.getElem_cons_zero, List.getElem_cons_succ, List.setIfInBounds_toArray, List.set_cons_zero, List.set_cons_succ])
              refine wpAnyH_ready (rs := [11]) (by kernel_rfl) (by simp) ?_
              refine AllReadyH.cons rfl (fun K hK => ?_) ?_
              rotate_left
              · exact AllReadyH.nil
              rw [if_pos (by rfl)]
              go_simp
              refine Calls.mono hst.out ?_
              rintro e w2 ⟨rfl, c', L', hc', hb', lp⟩
              have l2 := hid ((Lap.refl S1 wr).drew.trans lp.out (fun q _ h => h))
              have hbx2 := hid (hbx.out.lap l2.out hfar (by omega) (by omega) (by omega))
              have hz2' := hid (show Z < wr.heap.size from hbx.out.qa.lt)
              have k1 := hbx2.out.pa.cell 1
              have k2 := hbx2.out.qa.cell 1
              have k4 := hbx2.out.sc.cell 4
              simp only [List.getElem?_toArray, List.getElem?_cons_succ, List.getElem?_cons_zero] at k1 k2 k4
              have hr2 := hid (show w2.rangeAt b (o + i * 5) [.int .i64 on, .int .i64 kd, .string r, .string nn, .int .i64 p] from fun j u hj => by
                rw [World.cell?_of_block (w := wr) (a := ⟨b, o + i * 5 + j, none⟩) (l2.out.block b (Nat.lt_of_lt_of_le hbw.out hbx.out.b.size) (fun h => by have := hfar b h; have := hbw.out; omega))]
                exact hrg.out j u hj)
              have hme := hid (show Bo w2 Z p1 q1 (fun q => S1 q ∨ (wr.heap.size ≤ q ∧ q < w2.heap.size)) (4096 + (i + 1)) from ⟨R, c', L', by omega, hb'.out, fun q h => h.elim (hfar q) (fun h => by have := hz2'.out; have := h.1; omega)⟩)
              have hot := hid (show Bo w2 Z p0 q0 S0 (4096 + (i + 1)) from (hb0.out.kept l2.out.size (fun q h hl => l2.out.block q hl (fun h2 => hdis.out q h h2))).more (by omega))
              have hdis2 := hid (show ∀ q, S0 q → (S1 q ∨ (wr.heap.size ≤ q ∧ q < w2.heap.size)) → False from fun q h1 h2 => by
                rcases h2 with h2 | h2
                · exact hdis.out q h1 h2
                · have := hb0.out.bound q h1
                  omega)
              refine hK _ _ ⟨k1, k2, k4, hr2.out⟩ (fun hH2 => ?_)
              clear hK k1 k2 k4
              (refine' wpAnyH_take (i := 12) rfl (by kernel_rfl) (by kernel_rfl) (by kernel_rfl) (fun _ _ _ h => h) (Or.inl ⟨by rfl, ?_⟩) (by assumption) ?_; rotate_left; (· (intro wq hq; (try dsimp only at hq); go_simp; first | done | with_reducible rfl)); simp only [Act.put, List.getElem_toArray, List.getElem_cons_zero, List.getElem_cons_succ, List.setIfInBounds_toArray, List.set_cons_zero, List.set_cons_succ])
              refine wpAnyH_done (by kernel_rfl) ?_ _
              refine hKr _ _ ?_
              clear hbx hb0 hb1 hdis hst lp l2 hbo hb' hr2 g1 g2 g4 hH hH2 c4 hrg x0 x1
              go_wp2
              go_roundw
              case rel => exact ⟨i + 1, a, _, _, hi'.out, by omega, rfl, by simp, hbx2, hot, hme, hdis2⟩
              case measure => simp [intOf]; have := hi'.out; omega
        · obtain rfl : i = n := by omega
          obtain ⟨w9, hw9⟩ : ∃ w9, Hid (w9 = wr) := ⟨wr, hid rfl⟩
          have haw := hid (fun u => awake25 u)
          go_wp2_with fail
          go_loopw [12] (fun kk wr' => ∃ k : Nat, k ≤ 2 ∧ kk = .int .i64 (k : Int) ∧ Hid (Below wr.heap.size wr wr')) (fun kk _ => 2 - (intOf kk).toNat)
          case atStart => exact ⟨0, by decide, rfl, hid (Below.refl _ _)⟩
          case round =>
            obtain ⟨w9, hw9⟩ : ∃ w9 : World, w9 = w9 := ⟨w, rfl⟩
            obtain ⟨k, hk, rfl, hB⟩ := hrel
            by_cases hk0 : k = 0
            · subst hk0
              obtain ⟨R, came, L, -, hbo, -⟩ := hb0.out
              obtain ⟨hok, hlr, hr4, hkeys, hasc⟩ := hbo.ok
              obtain ⟨Sp, Sq, hp, hq, -⟩ := (hbo.keptB hB.out).keptB (below_drewN wr.heap.size wr 1)
              obtain ⟨M, hM⟩ : ∃ M, Hid (L.length = M) := ⟨_, rfl⟩
              have hM4 : M ≤ 4096 := by rw [← hM.out]; omega
              have hM4i : (M : Int) ≤ 4096 := by omega
              obtain ⟨so, c, hV⟩ := hq.shape
              rw [hM.out] at hV
              have k3 := hV.1.cell 1
              have hbxr := hid ((hbx.out.keptB hB.out).keptB (below_drewN wr.heap.size wr 1))
              have k1 := hbxr.out.pa.cell 0
              have k2 := hbxr.out.qa.cell 0
              simp only [List.getElem?_toArray, List.getElem?_cons_succ, List.getElem?_cons_zero] at k1 k2 k3
              have hSu := hid (fun (u : World) (hu : Below wr.heap.size wr.drew u) => (show u.cell? ⟨Y, 0, none⟩ = some (ptB p0) ∧ u.cell? ⟨Z, 0, none⟩ = some (ptB q0) ∧ u.cell? ⟨q0, 1, none⟩ = some (.slice so M c) from by
                have a1 := (hbxr.out.pa.keptAll hu).cell 0
                have a2 := (hbxr.out.qa.keptAll hu).cell 0
                have a3 := (hV.1.keptAll hu).cell 1
                simp only [List.getElem?_toArray, List.getElem?_cons_succ, List.getElem?_cons_zero] at a1 a2 a3
                exact ⟨a1, a2, a3⟩))
              have hal := hid (all_calls25 p0 Sp R came L wr.drew hp)
              have hp := hid hp
              have hq := hid hq
              have hok := hid hok
              have hasc := hid hasc
              go_wp2_with fail
              rename_i Kr hKr
              refine wp_region_held_drew (S := fun u => u.cell? ⟨Y, 0, none⟩ = some (ptB p0) ∧ u.cell? ⟨Z, 0, none⟩ = some (ptB q0) ∧ u.cell? ⟨q0, 1, none⟩ = some (.slice so M c)) (by kernel_rfl) ⟨k1, k2, k3⟩ (fun hH => ?_)
              clear k1 k2 k3 hV hbo
              (refine' wpAnyH_take (i := 0) rfl (by kernel_rfl) (by kernel_rfl) (by kernel_rfl) (fun _ _ _ h => h) (Or.inl ⟨by rfl, ?_⟩) (by assumption) ?_; rotate_left; (· (intro wq hq; (try dsimp only at hq); go_simp; first | done | with_reducible rfl)); simp only [Act.put, List.getElem_toArray, List.getElem_cons_zero, List.setIfInBounds_toArray, List.set_cons_zero, List.set_cons_succ])
              (refine' wpAnyH_take (i := 1) rfl (by kernel_rfl) (by kernel_rfl) (by kernel_rfl) (fun _ _ _ h => h) (Or.inl ⟨by rfl, ?_⟩) (by assumption) ?_; rotate_left; (· (intro wq hq; (try dsimp only at hq); go_simp; first | done | with_reducible rfl)); simp only [Act.put, List.getElem_toArray, List.getElem_cons_zero, List.getElem_cons_succ, List.setIfInBounds_toArray, List.set_cons_zero, List.set_cons_succ])
              (refine' wpAnyH_take (i := 2) rfl (by kernel_rfl) (by kernel_rfl) (by kernel_rfl) (fun _ _ _ h => h) (Or.inl ⟨by rfl, ?_⟩) (by assumption) ?_; rotate_left; (· (intro wq hq; (try dsimp only at hq); go_simp; first | done | with_reducible rfl)); simp only [Act.put, List.getElem_toArray, List.getElem_cons_zero, List.getElem_cons_succ, List.setIfInBounds_toArray, List.set_cons_zero, List.set_cons_succ])
              (refine' wpAnyH_take (i := 4) rfl (by kernel_rfl) (by kernel_rfl) (by kernel_rfl) (fun _ _ _ h => h) (Or.inl ⟨by rfl, ?_⟩) (by assumption) ?_; rotate_left; (· (intro wq hq; (try dsimp only at hq); go_simp; first | done | with_reducible rfl)); simp only [Act.put, List.getElem_toArray, List.getElem_cons_zero, List.getElem_cons_succ, List.setIfInBounds_toArray, List.set_cons_zero, List.set_cons_succ])
              (refine' wpAnyH_take (i := 5) rfl (by kernel_rfl) (by kernel_rfl) (by kernel_rfl) (fun _ _ _ h => h) (Or.inl ⟨by rfl, ?_⟩) (by assumption) ?_; rotate_left; (· (intro wq hq; (try dsimp only at hq); go_simp; first | done | with_reducible rfl)); simp only [Act.put, List.getElem_toArray, List.getElem_cons_zero, List.getElem_cons_succ, List.setIfInBounds_toArray, List.set_cons_zero, List.set_cons_succ])
              (refine' wpAnyH_take (i := 6) rfl (by kernel_rfl) (by kernel_rfl) (by kernel_rfl) (fun _ _ _ h => h) (Or.inl ⟨by rfl, ?_⟩) (by assumption) ?_; rotate_left; (· (intro wq hq; (try dsimp only at hq); go_simp; first | done | with_reducible rfl)); simp only [Act.put, List.getElem_toArray, List.getElem_cons_zero, List.getElem_cons_succ, List.setIfInBounds_toArray, List.set_cons_zero, List.set_cons_succ])
              refine wpAnyH_ready (rs := [3]) (by kernel_rfl) (by simp) ?_
              refine AllReadyH.cons rfl (fun K hK => ?_) ?_
              rotate_left
              · exact AllReadyH.nil
              rw [if_pos (by rfl)]
              go_simp
              refine Calls.mono hal.out ?_
              rintro e w2 ⟨g, A, rfl, hA, hAs, hr, hg, b2⟩
              rw [hM.out] at hr ⊢
              have har := hid (allR_calls q0 Sq R L (by rw [hM.out]; exact hM4) w2 (hid (hq.out.keptB b2.out)))
              refine hK _ _ (hSu.out _ b2.out) (fun hH2 => ?_)
              clear hK hal
              refine wpAnyH_ready (rs := [7]) (by kernel_rfl) (by simp) ?_
              refine AllReadyH.cons rfl (fun K hK => ?_) ?_
              rotate_left
              · exact AllReadyH.nil
              rw [if_pos (by rfl)]
              go_simp
              refine Calls.mono har.out ?_
              rintro e w3 ⟨so2, c2, rfl, hv, b3⟩
              rw [hM.out] at hv ⊢
              obtain ⟨l1', l2', l3'⟩ := both_all hok.out hasc.out hM.out hM4 hA.out hAs.out hr.out b3.out hv.out
              have hsa := hid (same25_calls (A.map lrOf) (some ⟨g, 0, none⟩) so2 M M c2 (hid l3') (by omega) w3 (hid l1') (hid l2'))
              have b13 := hid (show Below wr.heap.size wr.drew w3 from b2.out.trans (b3.out.mono b2.out.size))
              refine hK _ _ (hSu.out _ b13.out) (fun hH3 => ?_)
              clear hK har l1' l2'
              refine wpAnyH_ready (rs := [8]) (by kernel_rfl) (by simp) ?_
              refine AllReadyH.cons rfl (fun K hK => ?_) ?_
              rotate_left
              · exact AllReadyH.nil
              rw [if_pos (by rfl)]
              go_simp
              refine Calls.mono hsa.out ?_
              rintro e w4 ⟨rfl, b4⟩
              have b14 := hid (show Below wr.heap.size wr.drew w4 from b13.out.trans (b4.mono b13.out.size))
              have hsz := hid (size_calls25 p0 Sp R came L w4 (hp.out.keptB b14.out))
              rw [hM.out] at hsz
              refine hK _ _ (hSu.out _ b14.out) (fun hH4 => ?_)
              clear hK hsa b13 b2 b3 b4 hr hv hA hAs
              (refine' wpAnyH_take (i := 9) rfl (by kernel_rfl) (by kernel_rfl) (by kernel_rfl) (fun _ _ _ h => h) (Or.inl ⟨by rfl, ?_⟩) (by assumption) ?_; rotate_left; (· (intro wq hq; (try dsimp only at hq); go_simp; first | done | with_reducible rfl)); simp only [Act.put, List.getElem_toArray, List.getElem_cons_zero, List.getElem_cons_succ, List.setIfInBounds_toArray, List.set_cons_zero, List.set_cons_succ])
              (refine' wpAnyH_take (i := 10) rfl (by kernel_rfl) (by kernel_rfl) (by kernel_rfl) (fun _ _ _ h => h) (Or.inl ⟨by rfl, ?_⟩) (by assumption) ?_; rotate_left; (· (intro wq hq; (try dsimp only at hq); go_simp; first | done | with_reducible rfl)); simp only [Act.put, List.getElem_toArray, List.getElem_cons_zero, List.getElem_cons_succ, List.setIfInBounds_toArray, List.set_cons_zero, List.set_cons_succ])
              (refine' wpAnyH_take (i := 11) rfl (by kernel_rfl) (by kernel_rfl) (by kernel_rfl) (fun _ _ _ h => h) (Or.inl ⟨by rfl, ?_⟩) (by assumption) ?_; rotate_left; (· (intro wq hq; (try dsimp only at hq); go_simp; first | done | with_reducible rfl)); simp only [Act.put, List.getElem_toArray, List.getElem_cons_zero, List.getElem_cons_succ, List.setIfInBounds_toArray, List.set_cons_zero, List.set_cons_succ])
              (refine' wpAnyH_take (i := 12) rfl (by kernel_rfl) (by kernel_rfl) (by kernel_rfl) (fun _ _ _ h => h) (Or.inl ⟨by rfl, ?_⟩) (by assumption) ?_; rotate_left; (· (intro wq hq; (try dsimp only at hq); go_simp; first | done | with_reducible rfl)); simp only [Act.put, List.getElem_toArray, List.getElem_cons_zero, List.getElem_cons_succ, List.setIfInBounds_toArray, List.set_cons_zero, List.set_cons_succ])
              (refine' wpAnyH_take (i := 13) rfl (by kernel_rfl) (by kernel_rfl) (by kernel_rfl) (fun _ _ _ h => h) (Or.inl ⟨by rfl, ?_⟩) (by assumption) ?_; rotate_left; (· (intro wq hq; (try dsimp only at hq); go_simp; first | done | with_reducible rfl)); simp only [Act.put, List.getElem_toArray, List.getElem_cons_zero, List.getElem_cons_succ, List.setIfInBounds_toArray, List.set_cons_zero, List.set_cons_succ])
              (refine' wpAnyH_take (i := 15) rfl (by kernel_rfl) (by kernel_rfl) (by kernel_rfl) (fun _ _ _ h => h) (Or.inl ⟨by rfl, ?_⟩) (by assumption) ?_; rotate_left; (· (intro wq hq; (try dsimp only at hq); go_simp; first | done | with_reducible rfl)); simp only [Act.put, List.getElem_toArray, List.getElem_cons_zero, List.getElem_cons_succ, List.setIfInBounds_toArray, List.set_cons_zero, List.set_cons_succ])
              (refine' wpAnyH_take (i := 16) rfl (by kernel_rfl) (by kernel_rfl) (by kernel_rfl) (fun _ _ _ h => h) (Or.inl ⟨by rfl, ?_⟩) (by assumption) ?_; rotate_left; (· (intro wq hq; (try dsimp only at hq); go_simp; first | done | with_reducible rfl)); simp only [Act.put, List.getElem_toArray, List.getElem_cons_zero, List.getElem_cons_succ, List.setIfInBounds_toArray, List.set_cons_zero, List.set_cons_succ])
              (refine' wpAnyH_take (i := 17) rfl (by kernel_rfl) (by kernel_rfl) (by kernel_rfl) (fun _ _ _ h => h) (Or.inl ⟨by rfl, ?_⟩) (by assumption) ?_; rotate_left; (· (intro wq hq; (try dsimp only at hq); go_simp; first | done | with_reducible rfl)); simp only [Act.put, List.getElem_toArray, List.getElem_cons_zero, List.getElem_cons_succ, List.setIfInBounds_toArray, List.set_cons_zero, List.set_cons_succ])
              (refine' wpAnyH_take (i := 18) rfl (by kernel_rfl) (by kernel_rfl) (by kernel_rfl) (fun _ _ _ h => h) (Or.inl ⟨by rfl, ?_⟩) (by assumption) ?_; rotate_left; (· (intro wq hq; (try dsimp only at hq); go_simp; first | done | with_reducible rfl)); simp only [Act.put, List.getElem_toArray, List.getElem_cons_zero, List.getElem_cons_succ, List.setIfInBounds_toArray, List.set_cons_zero, List.set_cons_succ])
              (refine' wpAnyH_take (i := 19) rfl (by kernel_rfl) (by kernel_rfl) (by kernel_rfl) (fun _ _ _ h => h) (Or.inl ⟨by rfl, ?_⟩) (by assumption) ?_; rotate_left; (· (intro wq hq; (try dsimp only at hq); go_simp; first | done | with_reducible rfl)); simp only [Act.put, List.getElem_toArray, List.getElem_cons_zero, List.getElem_cons_succ, List.setIfInBounds_toArray, List.set_cons_zero, List.set_cons_succ])
              (refine' wpAnyH_take (i := 20) rfl (by kernel_rfl) (by kernel_rfl) (by kernel_rfl) (fun _ _ _ h => h) (Or.inl ⟨by rfl, ?_⟩) (by assumption) ?_; rotate_left; (· (intro wq hq; (try dsimp only at hq); go_simp; first | done | with_reducible rfl)); simp only [Act.put, List.getElem_toArray, List.getElem_cons_zero, List.getElem_cons_succ, List.setIfInBounds_toArray, List.set_cons_zero, List.set_cons_succ])
              (refine' wpAnyH_take (i := 21) rfl (by kernel_rfl) (by kernel_rfl) (by kernel_rfl) (fun _ _ _ h => h) (Or.inl ⟨by rfl, ?_⟩) (by assumption) ?_; rotate_left; (· (intro wq hq; (try dsimp only at hq); go_simp; first | done | with_reducible rfl)); simp only [Act.put, List.getElem_toArray, List.getElem_cons_zero, List.getElem_cons_succ, List.setIfInBounds_toArray, List.set_cons_zero, List.set_cons_succ])
              refine wpAnyH_ready (rs := [14]) (by kernel_rfl) (by simp) ?_
              refine AllReadyH.cons rfl (fun K hK => ?_) ?_
              rotate_left
              · exact AllReadyH.nil
              rw [if_pos (by rfl)]
              go_simp
              refine Calls.mono hsz.out ?_
              rintro e w5 ⟨rfl, rfl⟩
              refine hK _ _ (hSu.out _ b14.out) (fun hH5 => ?_)
              clear hK hsz
              (refine' wpAnyH_take (i := 22) rfl (by kernel_rfl) (by kernel_rfl) (by kernel_rfl) (fun _ _ _ h => h) (Or.inl ⟨by rfl, ?_⟩) (by assumption) ?_; rotate_left; (· (intro wq hq; (try dsimp only at hq); go_simp; first | done | with_reducible rfl)); simp only [Act.put, List.getElem_toArray, List.getElem_cons_zero, List.getElem_cons_succ, List.setIfInBounds_toArray, List.set_cons_zero, List.set_cons_succ])
              (refine' wpAnyH_take (i := 23) rfl (by kernel_rfl) (by kernel_rfl) (by kernel_rfl) (fun _ _ _ h => h) (Or.inl ⟨by rfl, ?_⟩) (by assumption) ?_; rotate_left; (· (intro wq hq; (try dsimp only at hq); go_simp; first | done | with_reducible rfl)); simp only [Act.put, List.getElem_toArray, List.getElem_cons_zero, List.getElem_cons_succ, List.setIfInBounds_toArray, List.set_cons_zero, List.set_cons_succ])
              refine wpAnyH_done (by kernel_rfl) ?_ _
              refine hKr _ _ ?_
              have hB2 := hid (hB.out.trans ((show Below wr.heap.size wr w5 from (below_drewN wr.heap.size wr 1).trans b14.out).mono hB.out.size))
              clear hB b14 hSu hp hq hok hasc hbxr hH hH2 hH3 hH4 hH5
              go_wp2
              go_roundw
              case rel => exact ⟨1, by omega, by simp, hB2⟩
              case measure => simp [intOf]
            · by_cases hk1 : k = 1
              · subst hk1
                obtain ⟨R, came, L, -, hbo, -⟩ := hb1.out
                obtain ⟨hok, hlr, hr4, hkeys, hasc⟩ := hbo.ok
                obtain ⟨Sp, Sq, hp, hq, -⟩ := (hbo.keptB hB.out).keptB (below_drewN wr.heap.size wr 1)
                obtain ⟨M, hM⟩ : ∃ M, Hid (L.length = M) := ⟨_, rfl⟩
                have hM4 : M ≤ 4096 := by rw [← hM.out]; omega
                have hM4i : (M : Int) ≤ 4096 := by omega
                obtain ⟨so, c, hV⟩ := hq.shape
                rw [hM.out] at hV
                have k3 := hV.1.cell 1
                have hbxr := hid ((hbx.out.keptB hB.out).keptB (below_drewN wr.heap.size wr 1))
                have k1 := hbxr.out.pa.cell 1
                have k2 := hbxr.out.qa.cell 1
                simp only [List.getElem?_toArray, List.getElem?_cons_succ, List.getElem?_cons_zero] at k1 k2 k3
                have hSu := hid (fun (u : World) (hu : Below wr.heap.size wr.drew u) => (show u.cell? ⟨Y, 1, none⟩ = some (ptB p1) ∧ u.cell? ⟨Z, 1, none⟩ = some (ptB q1) ∧ u.cell? ⟨q1, 1, none⟩ = some (.slice so M c) from by
                  have a1 := (hbxr.out.pa.keptAll hu).cell 1
                  have a2 := (hbxr.out.qa.keptAll hu).cell 1
                  have a3 := (hV.1.keptAll hu).cell 1
                  simp only [List.getElem?_toArray, List.getElem?_cons_succ, List.getElem?_cons_zero] at a1 a2 a3
                  exact ⟨a1, a2, a3⟩))
                have hal := hid (all_calls25 p1 Sp R came L wr.drew hp)
                have hp := hid hp
                have hq := hid hq
                have hok := hid hok
                have hasc := hid hasc
                go_wp2_with fail
                rename_i Kr hKr
                refine wp_region_held_drew (S := fun u => u.cell? ⟨Y, 1, none⟩ = some (ptB p1) ∧ u.cell? ⟨Z, 1, none⟩ = some (ptB q1) ∧ u.cell? ⟨q1, 1, none⟩ = some (.slice so M c)) (by kernel_rfl) ⟨k1, k2, k3⟩ (fun hH => ?_)
                clear k1 k2 k3 hV hbo
                (refine' wpAnyH_take (i := 0) rfl (by kernel_rfl) (by kernel_rfl) (by kernel_rfl) (fun _ _ _ h => h) (Or.inl ⟨by rfl, ?_⟩) (by assumption) ?_; rotate_left; (· (intro wq hq; (try dsimp only at hq); go_simp; first | done | with_reducible rfl)); simp only [Act.put, List.getElem_toArray, List.getElem_cons_zero, List.setIfInBounds_toArray, List.set_cons_zero, List.set_cons_succ])
                (refine' wpAnyH_take (i := 1) rfl (by kernel_rfl) (by kernel_rfl) (by kernel_rfl) (fun _ _ _ h => h) (Or.inl ⟨by rfl, ?_⟩) (by assumption) ?_; rotate_left; (· (intro wq hq; (try dsimp only at hq); go_simp; first | done | with_reducible rfl)); simp only [Act.put, List.getElem_toArray, List.getElem_cons_zero, List.getElem_cons_succ, List.setIfInBounds_toArray, List.set_cons_zero, List.set_cons_succ])
                (refine' wpAnyH_take (i := 2) rfl (by kernel_rfl) (by kernel_rfl) (by kernel_rfl) (fun _ _ _ h => h) (Or.inl ⟨by rfl, ?_⟩) (by assumption) ?_; rotate_left; (· (intro wq hq; (try dsimp only at hq); go_simp; first | done | with_reducible rfl)); simp only [Act.put, List.getElem_toArray, List.getElem_cons_zero, List.getElem_cons_succ, List.setIfInBounds_toArray, List.set_cons_zero, List.set_cons_succ])
                (refine' wpAnyH_take (i := 4) rfl (by kernel_rfl) (by kernel_rfl) (by kernel_rfl) (fun _ _ _ h => h) (Or.inl ⟨by rfl, ?_⟩) (by assumption) ?_; rotate_left; (· (intro wq hq; (try dsimp only at hq); go_simp; first | done | with_reducible rfl)); simp only [Act.put, List.getElem_toArray, List.getElem_cons_zero, List.getElem_cons_succ, List.setIfInBounds_toArray, List.set_cons_zero, List.set_cons_succ])
                (refine' wpAnyH_take (i := 5) rfl (by kernel_rfl) (by kernel_rfl) (by kernel_rfl) (fun _ _ _ h => h) (Or.inl ⟨by rfl, ?_⟩) (by assumption) ?_; rotate_left; (· (intro wq hq; (try dsimp only at hq); go_simp; first | done | with_reducible rfl)); simp only [Act.put, List.getElem_toArray, List.getElem_cons_zero, List.getElem_cons_succ, List.setIfInBounds_toArray, List.set_cons_zero, List.set_cons_succ])
                (refine' wpAnyH_take (i := 6) rfl (by kernel_rfl) (by kernel_rfl) (by kernel_rfl) (fun _ _ _ h => h) (Or.inl ⟨by rfl, ?_⟩) (by assumption) ?_; rotate_left; (· (intro wq hq; (try dsimp only at hq); go_simp; first | done | with_reducible rfl)); simp only [Act.put, List.getElem_toArray, List.getElem_cons_zero, List.getElem_cons_succ, List.setIfInBounds_toArray, List.set_cons_zero, List.set_cons_succ])
                refine wpAnyH_ready (rs := [3]) (by kernel_rfl) (by simp) ?_
                refine AllReadyH.cons rfl (fun K hK => ?_) ?_
                rotate_left
                · exact AllReadyH.nil
                rw [if_pos (by rfl)]
                go_simp
                refine Calls.mono hal.out ?_
                rintro e w2 ⟨g, A, rfl, hA, hAs, hr, hg, b2⟩
                rw [hM.out] at hr ⊢
                have har := hid (allR_calls q1 Sq R L (by rw [hM.out]; exact hM4) w2 (hid (hq.out.keptB b2.out)))
                refine hK _ _ (hSu.out _ b2.out) (fun hH2 => ?_)
                clear hK hal
                refine wpAnyH_ready (rs := [7]) (by kernel_rfl) (by simp) ?_
                refine AllReadyH.cons rfl (fun K hK => ?_) ?_
                rotate_left
                · exact AllReadyH.nil
                rw [if_pos (by rfl)]
                go_simp
                refine Calls.mono har.out ?_
                rintro e w3 ⟨so2, c2, rfl, hv, b3⟩
                rw [hM.out] at hv ⊢
                obtain ⟨l1', l2', l3'⟩ := both_all hok.out hasc.out hM.out hM4 hA.out hAs.out hr.out b3.out hv.out
                have hsa := hid (same25_calls (A.map lrOf) (some ⟨g, 0, none⟩) so2 M M c2 (hid l3') (by omega) w3 (hid l1') (hid l2'))
                have b13 := hid (show Below wr.heap.size wr.drew w3 from b2.out.trans (b3.out.mono b2.out.size))
                refine hK _ _ (hSu.out _ b13.out) (fun hH3 => ?_)
                clear hK har l1' l2'
                refine wpAnyH_ready (rs := [8]) (by kernel_rfl) (by simp) ?_
                refine AllReadyH.cons rfl (fun K hK => ?_) ?_
                rotate_left
                · exact AllReadyH.nil
                rw [if_pos (by rfl)]
                go_simp
                refine Calls.mono hsa.out ?_
                rintro e w4 ⟨rfl, b4⟩
                have b14 := hid (show Below wr.heap.size wr.drew w4 from b13.out.trans (b4.mono b13.out.size))
                have hsz := hid (size_calls25 p1 Sp R came L w4 (hp.out.keptB b14.out))
                rw [hM.out] at hsz
                refine hK _ _ (hSu.out _ b14.out) (fun hH4 => ?_)
                clear hK hsa b13 b2 b3 b4 hr hv hA hAs
                (refine' wpAnyH_take (i := 9) rfl (by kernel_rfl) (by kernel_rfl) (by kernel_rfl) (fun _ _ _ h => h) (Or.inl ⟨by rfl, ?_⟩) (by assumption) ?_; rotate_left; (· (intro wq hq; (try dsimp only at hq); go_simp; first | done | with_reducible rfl)); simp only [Act.put, List.getElem_toArray, List.getElem_cons_zero, List.getElem_cons_succ, List.setIfInBounds_toArray, List.set_cons_zero, List.set_cons_succ])
                (refine' wpAnyH_take (i := 10) rfl (by kernel_rfl) (by kernel_rfl) (by kernel_rfl) (fun _ _ _ h => h) (Or.inl ⟨by rfl, ?_⟩) (by assumption) ?_; rotate_left; (· (intro wq hq; (try dsimp only at hq); go_simp; first | done | with_reducible rfl)); simp only [Act.put, List.getElem_toArray, List.getElem_cons_zero, List.getElem_cons_succ, List.setIfInBounds_toArray, List.set_cons_zero, List.set_cons_succ])
                (refine' wpAnyH_take (i := 11) rfl (by kernel_rfl) (by kernel_rfl) (by kernel_rfl) (fun _ _ _ h => h) (Or.inl ⟨by rfl, ?_⟩) (by assumption) ?_; rotate_left; (· (intro wq hq; (try dsimp only at hq); go_simp; first | done | with_reducible rfl)); simp only [Act.put, List.getElem_toArray, List.getElem_cons_zero, List.getElem_cons_succ, List.setIfInBounds_toArray, List.set_cons_zero, List.set_cons_succ])
                (refine' wpAnyH_take (i := 12) rfl (by kernel_rfl) (by kernel_rfl) (by kernel_rfl) (fun _ _ _ h => h) (Or.inl ⟨by rfl, ?_⟩) (by assumption) ?_; rotate_left; (· (intro wq hq; (try dsimp only at hq); go_simp; first | done | with_reducible rfl)); simp only [Act.put, List.getElem_toArray, List.getElem_cons_zero, List.getElem_cons_succ, List.setIfInBounds_toArray, List.set_cons_zero, List.set_cons_succ])
                (refine' wpAnyH_take (i := 13) rfl (by kernel_rfl) (by kernel_rfl) (by kernel_rfl) (fun _ _ _ h => h) (Or.inl ⟨by rfl, ?_⟩) (by assumption) ?_; rotate_left; (· (intro wq hq; (try dsimp only at hq); go_simp; first | done | with_reducible rfl)); simp only [Act.put, List.getElem_toArray, List.getElem_cons_zero, List.getElem_cons_succ, List.setIfInBounds_toArray, List.set_cons_zero, List.set_cons_succ])
                (refine' wpAnyH_take (i := 15) rfl (by kernel_rfl) (by kernel_rfl) (by kernel_rfl) (fun _ _ _ h => h) (Or.inl ⟨by rfl, ?_⟩) (by assumption) ?_; rotate_left; (· (intro wq hq; (try dsimp only at hq); go_simp; first | done | with_reducible rfl)); simp only [Act.put, List.getElem_toArray, List.getElem_cons_zero, List.getElem_cons_succ, List.setIfInBounds_toArray, List.set_cons_zero, List.set_cons_succ])
                (refine' wpAnyH_take (i := 16) rfl (by kernel_rfl) (by kernel_rfl) (by kernel_rfl) (fun _ _ _ h => h) (Or.inl ⟨by rfl, ?_⟩) (by assumption) ?_; rotate_left; (· (intro wq hq; (try dsimp only at hq); go_simp; first | done | with_reducible rfl)); simp only [Act.put, List.getElem_toArray, List.getElem_cons_zero, List.getElem_cons_succ, List.setIfInBounds_toArray, List.set_cons_zero, List.set_cons_succ])
                (refine' wpAnyH_take (i := 17) rfl (by kernel_rfl) (by kernel_rfl) (by kernel_rfl) (fun _ _ _ h => h) (Or.inl ⟨by rfl, ?_⟩) (by assumption) ?_; rotate_left; (· (intro wq hq; (try dsimp only at hq); go_simp; first | done | with_reducible rfl)); simp only [Act.put, List.getElem_toArray, List.getElem_cons_zero, List.getElem_cons_succ, List.setIfInBounds_toArray, List.set_cons_zero, List.set_cons_succ])
                (refine' wpAnyH_take (i := 18) rfl (by kernel_rfl) (by kernel_rfl) (by kernel_rfl) (fun _ _ _ h => h) (Or.inl ⟨by rfl, ?_⟩) (by assumption) ?_; rotate_left; (· (intro wq hq; (try dsimp only at hq); go_simp; first | done | with_reducible rfl)); simp only [Act.put, List.getElem_toArray, List.getElem_cons_zero, List.getElem_cons_succ, List.setIfInBounds_toArray, List.set_cons_zero, List.set_cons_succ])
                (refine' wpAnyH_take (i := 19) rfl (by kernel_rfl) (by kernel_rfl) (by kernel_rfl) (fun _ _ _ h => h) (Or.inl ⟨by rfl, ?_⟩) (by assumption) ?_; rotate_left; (· (intro wq hq; (try dsimp only at hq); go_simp; first | done | with_reducible rfl)); simp only [Act.put, List.getElem_toArray, List.getElem_cons_zero, List.getElem_cons_succ, List.setIfInBounds_toArray, List.set_cons_zero, List.set_cons_succ])
                (refine' wpAnyH_take (i := 20) rfl (by kernel_rfl) (by kernel_rfl) (by kernel_rfl) (fun _ _ _ h => h) (Or.inl ⟨by rfl, ?_⟩) (by assumption) ?_; rotate_left; (· (intro wq hq; (try dsimp only at hq); go_simp; first | done | with_reducible rfl)); simp only [Act.put, List.getElem_toArray, List.getElem_cons_zero, List.getElem_cons_succ, List.setIfInBounds_toArray, List.set_cons_zero, List.set_cons_succ])
                (refine' wpAnyH_take (i := 21) rfl (by kernel_rfl) (by kernel_rfl) (by kernel_rfl) (fun _ _ _ h => h) (Or.inl ⟨by rfl, ?_⟩) (by assumption) ?_; rotate_left; (· (intro wq hq; (try dsimp only at hq); go_simp; first | done | with_reducible rfl)); simp only [Act.put, List.getElem_toArray, List.getElem_cons_zero, List.getElem_cons_succ, List.setIfInBounds_toArray, List.set_cons_zero, List.set_cons_succ])
                refine wpAnyH_ready (rs := [14]) (by kernel_rfl) (by simp) ?_
                refine AllReadyH.cons rfl (fun K hK => ?_) ?_
                rotate_left
                · exact AllReadyH.nil
                rw [if_pos (by rfl)]
                go_simp
                refine Calls.mono hsz.out ?_
                rintro e w5 ⟨rfl, rfl⟩
                refine hK _ _ (hSu.out _ b14.out) (fun hH5 => ?_)
                clear hK hsz
                (refine' wpAnyH_take (i := 22) rfl (by kernel_rfl) (by kernel_rfl) (by kernel_rfl) (fun _ _ _ h => h) (Or.inl ⟨by rfl, ?_⟩) (by assumption) ?_; rotate_left; (· (intro wq hq; (try dsimp only at hq); go_simp; first | done | with_reducible rfl)); simp only [Act.put, List.getElem_toArray, List.getElem_cons_zero, List.getElem_cons_succ, List.setIfInBounds_toArray, List.set_cons_zero, List.set_cons_succ])
                (refine' wpAnyH_take (i := 23) rfl (by kernel_rfl) (by kernel_rfl) (by kernel_rfl) (fun _ _ _ h => h) (Or.inl ⟨by rfl, ?_⟩) (by assumption) ?_; rotate_left; (· (intro wq hq; (try dsimp only at hq); go_simp; first | done | with_reducible rfl)); simp only [Act.put, List.getElem_toArray, List.getElem_cons_zero, List.getElem_cons_succ, List.setIfInBounds_toArray, List.set_cons_zero, List.set_cons_succ])
                refine wpAnyH_done (by kernel_rfl) ?_ _
                refine hKr _ _ ?_
                have hB2 := hid (hB.out.trans ((show Below wr.heap.size wr w5 from (below_drewN wr.heap.size wr 1).trans b14.out).mono hB.out.size))
                clear hB b14 hSu hp hq hok hasc hbxr hH hH2 hH3 hH4 hH5
                go_wp2
                go_roundw
                case rel => exact ⟨2, by omega, by simp, hB2⟩
                case measure => simp [intOf]
              · obtain rfl : k = 2 := by omega
                have Bf := hid (show Below w.heap.size w _ from hbx.out.b.trans (hB.out.mono hbx.out.b.size))
                go_wp2_with fail
                refine Calls.mono (haw.out _) ?_
                rintro e w7 ⟨rfl, b7⟩
                have hfin := hid (show Below w.heap.size w w7 from Bf.out.trans (b7.mono Bf.out.size))
                clear haw
                go_wp2
                go_ret
                exact ⟨rfl, hfin.out⟩
end Go.Proofs.Ytiggfigjibggaaa
