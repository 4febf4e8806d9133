/-
  A pattern of the program and one of the document side by side: one call of both.
-/
import Derived.Test.YtiggfigjibggaaaHrI
namespace Go.Proofs.Ytiggfigjibggaaa
open Go.RowKit Go.Shelf Go.Maps

theorem key_one {L : List Ent} (hk : L.Pairwise (fun x y => ¬ (x.r = y.r ∧ x.n = y.n))) {e x : Ent} (he : e ∈ L) (hx : x ∈ L) (h : e.r = x.r ∧ e.n = x.n) : e = x := by
  induction L with
  | nil => cases he
  | cons a L ih =>
    obtain ⟨h1, h2⟩ := List.pairwise_cons.1 hk
    rcases List.mem_cons.1 he with e1 | he2
    · rcases List.mem_cons.1 hx with e2 | hx2
      · rw [e1, e2]
      · rw [e1] at h
        exact absurd h (h1 x hx2)
    · rcases List.mem_cons.1 hx with e2 | hx2
      · rw [e2] at h
        exact absurd ⟨h.1.symm, h.2.symm⟩ (h1 e he2)
      · exact ih h2 he2 hx2
/-- What a call of both leaves. -/
def StP (pb qb : Nat) (S : Nat → Prop) (room came : Nat) (w : World) (e : Ending) (w' : World) : Prop := e = .returned (.bool true) ∧ ∃ came' L', came' ≤ came + 1 ∧ Hid (Both w' pb qb (fun q => S q ∨ (w.heap.size ≤ q ∧ q < w'.heap.size)) room came' L') ∧ Hid (Lap S w w')
theorem stp_same {pb qb : Nat} {S : Nat → Prop} {room came : Nat} {L : List Ent} {w w' : World} (h : Both w pb qb S room came L) (hb : Below w.heap.size w w') : StP pb qb S room came w (.returned (.bool true)) w' :=
  ⟨rfl, came, L, Nat.le_succ _, hid ((h.keptB hb).wide (fun _ h => .inl h) (fun q hq => hq.elim (fun hq => Nat.lt_of_lt_of_le (h.bound q hq) hb.size) (fun hq => hq.2))), hid (Lap.of hb)⟩
abbrev opA (o : OpV) : Value := .agg #[.int .i64 o.on, .int .i64 o.kind, .string o.r, .string o.n, .int .i64 o.p]
theorem sor_lns {w : World} {B n c : Nat} {so : Option Addr} {M : List Ent} (h : w.ownsRow B 25 4 (.slice so n c) n ((M.map lrOf).flatMap lrL)) (hM : M.length = n) (hok : ∀ e ∈ M, EnOk e) : LnsAt w so (M.map lrOf) := fun j x hj => by
  rw [List.getElem?_map, Option.map_eq_some_iff] at hj
  obtain ⟨e, he, rfl⟩ := hj
  obtain ⟨g, c', e1, hg, hr⟩ := rows_at h he hM
  cases e1
  refine ⟨lrOf_ok (hok e (List.mem_of_getElem? he)), g, 0, rfl, hg, ?_⟩
  rw [Nat.zero_add]
  exact hr
theorem sortedE_oneR : ∀ {l l' : List Ent}, l.Perm l' → l.Pairwise ltE → l'.Pairwise ltE → l = l'
  | [], l', hp, _, _ => (List.nil_perm.1 hp).symm ▸ rfl
  | x :: l, [], hp, _, _ => by have := hp.length_eq; simp at this
  | x :: l, y :: l', hp, h1, h2 => by
    have hx : x ∈ y :: l' := hp.mem_iff.1 (List.mem_cons_self ..)
    have hy : y ∈ x :: l := hp.mem_iff.2 (List.mem_cons_self ..)
    rw [List.pairwise_cons] at h1 h2
    have e : x = y := by
      rcases List.mem_cons.1 hx with e | e
      · exact e
      · rcases List.mem_cons.1 hy with e' | e'
        · exact e'.symm
        · have h3 := h1.1 y e'
          have h4 := h2.1 x e
          unfold ltE at h3 h4
          omega
    subst e
    rw [sortedE_oneR (List.Perm.cons_inv hp) h1.2 h2.2]
/-- All of both tell the same. -/
theorem both_all {w1 w2 : World} {L M : List Ent} {g n c : Nat} {so : Option Addr} {B : Nat} (hok : ∀ e ∈ L, EnOk e) (hasc : L.Pairwise (fun x y => x.a < y.a)) (hn : L.length = n) (hn4 : n ≤ 4096) (hM : M.Perm L) (hMs : M.Pairwise ltE) (hr : LrAt w1 g n M) (hb : Below w1.heap.size w1 w2) (hv : w2.ownsRow B 25 4 (.slice so n c) n (((msR 4096 L).map lrOf).flatMap lrL)) :
    LnsAt w2 (some ⟨g, 0, none⟩) (M.map lrOf) ∧ LnsAt w2 so (M.map lrOf) ∧ (M.map lrOf).length = n := by
  have e : msR 4096 L = M := sortedE_oneR ((msR_perm 4096 L).trans hM.symm) (msR_sorted 4096 L (by omega) hasc) hMs
  rw [e] at hv
  have hM2 : ∀ e ∈ M, EnOk e := fun e he => hok e (hM.mem_iff.1 he)
  have hl : M.length = n := by rw [hM.length_eq, hn]
  exact ⟨(hr.lns hM2).kept hb, sor_lns hv hl hM2, by rw [List.length_map, hl]⟩
set_option maxRecDepth 10000 in
set_option maxHeartbeats 8000000 in
theorem step_calls (pb qb : Nat) (S : Nat → Prop) (room came : Nat) (L : List Ent) (hc : came < 4611686018427387904) (o : OpV) (ho : OpOk o) (w : World) (hP : Hid (Both w pb qb S room came L)) :
    Calls Try.prog 15 #[ptB pb, ptB qb, opA o] w fun e w' => StP pb qb S room came w e w' := by
  obtain ⟨hk, hp1, hp2, -, -⟩ := ho
  obtain ⟨on, kd, r, n, p⟩ := o
  dsimp only at *
  obtain ⟨X, hX⟩ : ∃ X, w.heap.size = X := ⟨_, rfl⟩
  obtain ⟨W0, hW0⟩ : ∃ W, w.alloc (.cells #[.int .i64 on, .int .i64 kd, .string r, .string n, .int .i64 p] 47) = W := ⟨_, rfl⟩
  have A0 := hid (show At W0 X #[.int .i64 on, .int .i64 kd, .string r, .string n, .int .i64 p] 47 by rw [← hW0]; exact at_newP hX)
  have B0 := hid (show Below w.heap.size w W0 by rw [← hW0]; exact (Below.refl _ w).alloc (Nat.le_refl _) _)
  have hP0 := hid (hP.out.keptB B0.out)
  have c1 := A0.out.cell 1
  have c2 := A0.out.cell 2
  have c3 := A0.out.cell 3
  have c4 := A0.out.cell 4
  simp only [List.getElem?_toArray, List.getElem?_cons_succ, List.getElem?_cons_zero] at c1 c2 c3 c4
  have hpk := hid (fun u => pick25_calls kd 4 (by omega) (by omega) u)
  obtain ⟨hok, hlr, hr4, hkeys, hasc⟩ := hP.out.ok
  have hok := hid hok
  have hkeys := hid hkeys
  have hasc := hid hasc
  obtain ⟨N, hN⟩ : ∃ N, Hid (L.length = N) := ⟨_, rfl⟩
  have hN4 : N ≤ 4096 := by rw [← hN.out]; omega
  have hN4i : (N : Int) ≤ 4096 := by omega
  go_enter Try.func15, Try.ntmps15
  go_wp2_with fail
  refine Calls.mono (hpk.out _) ?_
  rintro e w1 ⟨⟨I, hI, rfl⟩, rfl⟩
  clear hpk
  by_cases h0 : I = 0
  · subst h0
    have hbd := hP0.out.bound
    obtain ⟨Sp, Sq, hp, hq, hdis, hsp, hsq, -⟩ := hP0.out
    by_cases hneg : p < 0
    · have hl1 := hid (fun u => learn_no pb r n p hneg u)
      have hl2 := hid (fun u => learnR_no qb r n p hneg u)
      go_wp2_with fail
      rename_i Kr hKr
      refine wp_region_held_drew (S := fun u => u.cell? ⟨X, 2, none⟩ = some (.string r) ∧ u.cell? ⟨X, 3, none⟩ = some (.string n) ∧ u.cell? ⟨X, 4, none⟩ = some (.int .i64 p)) (by kernel_rfl) ⟨c2, c3, c4⟩ (fun hH => ?_)
      (refine' wpAnyH_take (i := 0) rfl (by kernel_rfl) (by kernel_rfl) (by kernel_rfl) (fun _ _ _ h => h) (Or.inl ⟨by rfl, ?_⟩) (by assumption) ?_; rotate_left; (· (intro wq hq; (try dsimp only at hq); go_simp; first | done | with_reducible rfl)); simp only [Act.put, List.getElem_toArray, List.getElem_cons_zero, List.setIfInBounds_toArray, List.set_cons_zero, List.set_cons_succ])
      (refine' wpAnyH_take (i := 1) rfl (by kernel_rfl) (by kernel_rfl) (by kernel_rfl) (fun _ _ _ h => h) (Or.inl ⟨by rfl, ?_⟩) (by assumption) ?_; rotate_left; (· (intro wq hq; (try dsimp only at hq); go_simp; first | done | with_reducible rfl)); simp only [Act.put, List.getElem_toArray, List.getElem_cons_zero, List.getElem_cons_succ, List.setIfInBounds_toArray, List.set_cons_zero, List.set_cons_succ])
      (refine' wpAnyH_take (i := 2) rfl (by kernel_rfl) (by kernel_rfl) (by kernel_rfl) (fun _ _ _ h => h) (Or.inl ⟨by rfl, ?_⟩) (by assumption) ?_; rotate_left; (· (intro wq hq; (try dsimp only at hq); go_simp; first | done | with_reducible rfl)); simp only [Act.put, List.getElem_toArray, List.getElem_cons_zero, List.getElem_cons_succ, List.setIfInBounds_toArray, List.set_cons_zero, List.set_cons_succ])
      (refine' wpAnyH_take (i := 3) rfl (by kernel_rfl) (by kernel_rfl) (by kernel_rfl) (fun _ _ _ h => h) (Or.inl ⟨by rfl, ?_⟩) (by assumption) ?_; rotate_left; (· (intro wq hq; (try dsimp only at hq); go_simp; first | done | with_reducible rfl)); simp only [Act.put, List.getElem_toArray, List.getElem_cons_zero, List.getElem_cons_succ, List.setIfInBounds_toArray, List.set_cons_zero, List.set_cons_succ])
      (refine' wpAnyH_take (i := 4) rfl (by kernel_rfl) (by kernel_rfl) (by kernel_rfl) (fun _ _ _ h => h) (Or.inl ⟨by rfl, ?_⟩) (by assumption) ?_; rotate_left; (· (intro wq hq; (try dsimp only at hq); go_simp; first | done | with_reducible rfl)); simp only [Act.put, List.getElem_toArray, List.getElem_cons_zero, List.getElem_cons_succ, List.setIfInBounds_toArray, List.set_cons_zero, List.set_cons_succ])
      (refine' wpAnyH_take (i := 5) rfl (by kernel_rfl) (by kernel_rfl) (by kernel_rfl) (fun _ _ _ h => h) (Or.inl ⟨by rfl, ?_⟩) (by assumption) ?_; rotate_left; (· (intro wq hq; (try dsimp only at hq); go_simp; first | done | with_reducible rfl)); simp only [Act.put, List.getElem_toArray, List.getElem_cons_zero, List.getElem_cons_succ, List.setIfInBounds_toArray, List.set_cons_zero, List.set_cons_succ])
      (refine' wpAnyH_take (i := 6) rfl (by kernel_rfl) (by kernel_rfl) (by kernel_rfl) (fun _ _ _ h => h) (Or.inl ⟨by rfl, ?_⟩) (by assumption) ?_; rotate_left; (· (intro wq hq; (try dsimp only at hq); go_simp; first | done | with_reducible rfl)); simp only [Act.put, List.getElem_toArray, List.getElem_cons_zero, List.getElem_cons_succ, List.setIfInBounds_toArray, List.set_cons_zero, List.set_cons_succ])
      (refine' wpAnyH_take (i := 8) rfl (by kernel_rfl) (by kernel_rfl) (by kernel_rfl) (fun _ _ _ h => h) (Or.inl ⟨by rfl, ?_⟩) (by assumption) ?_; rotate_left; (· (intro wq hq; (try dsimp only at hq); go_simp; first | done | with_reducible rfl)); simp only [Act.put, List.getElem_toArray, List.getElem_cons_zero, List.getElem_cons_succ, List.setIfInBounds_toArray, List.set_cons_zero, List.set_cons_succ])
      (refine' wpAnyH_take (i := 9) rfl (by kernel_rfl) (by kernel_rfl) (by kernel_rfl) (fun _ _ _ h => h) (Or.inl ⟨by rfl, ?_⟩) (by assumption) ?_; rotate_left; (· (intro wq hq; (try dsimp only at hq); go_simp; first | done | with_reducible rfl)); simp only [Act.put, List.getElem_toArray, List.getElem_cons_zero, List.getElem_cons_succ, List.setIfInBounds_toArray, List.set_cons_zero, List.set_cons_succ])
      (refine' wpAnyH_take (i := 10) rfl (by kernel_rfl) (by kernel_rfl) (by kernel_rfl) (fun _ _ _ h => h) (Or.inl ⟨by rfl, ?_⟩) (by assumption) ?_; rotate_left; (· (intro wq hq; (try dsimp only at hq); go_simp; first | done | with_reducible rfl)); simp only [Act.put, List.getElem_toArray, List.getElem_cons_zero, List.getElem_cons_succ, List.setIfInBounds_toArray, List.set_cons_zero, List.set_cons_succ])
      (refine' wpAnyH_take (i := 11) rfl (by kernel_rfl) (by kernel_rfl) (by kernel_rfl) (fun _ _ _ h => h) (Or.inl ⟨by rfl, ?_⟩) (by assumption) ?_; rotate_left; (· (intro wq hq; (try dsimp only at hq); go_simp; first | done | with_reducible rfl)); simp only [Act.put, List.getElem_toArray, List.getElem_cons_zero, List.getElem_cons_succ, List.setIfInBounds_toArray, List.set_cons_zero, List.set_cons_succ])
      (refine' wpAnyH_take (i := 12) rfl (by kernel_rfl) (by kernel_rfl) (by kernel_rfl) (fun _ _ _ h => h) (Or.inl ⟨by rfl, ?_⟩) (by assumption) ?_; rotate_left; (· (intro wq hq; (try dsimp only at hq); go_simp; first | done | with_reducible rfl)); simp only [Act.put, List.getElem_toArray, List.getElem_cons_zero, List.getElem_cons_succ, List.setIfInBounds_toArray, List.set_cons_zero, List.set_cons_succ])
      (refine' wpAnyH_take (i := 13) rfl (by kernel_rfl) (by kernel_rfl) (by kernel_rfl) (fun _ _ _ h => h) (Or.inl ⟨by rfl, ?_⟩) (by assumption) ?_; rotate_left; (· (intro wq hq; (try dsimp only at hq); go_simp; first | done | with_reducible rfl)); simp only [Act.put, List.getElem_toArray, List.getElem_cons_zero, List.getElem_cons_succ, List.setIfInBounds_toArray, List.set_cons_zero, List.set_cons_succ])
      (refine' wpAnyH_take (i := 14) rfl (by kernel_rfl) (by kernel_rfl) (by kernel_rfl) (fun _ _ _ h => h) (Or.inl ⟨by rfl, ?_⟩) (by assumption) ?_; rotate_left; (· (intro wq hq; (try dsimp only at hq); go_simp; first | done | with_reducible rfl)); simp only [Act.put, List.getElem_toArray, List.getElem_cons_zero, List.getElem_cons_succ, List.setIfInBounds_toArray, List.set_cons_zero, List.set_cons_succ])
      refine wpAnyH_ready (rs := [7]) (by kernel_rfl) (by simp) ?_
      refine AllReadyH.cons rfl (fun K hK => ?_) ?_
      rotate_left
      · exact AllReadyH.nil
      rw [if_pos (by rfl)]
      go_simp
      refine Calls.mono (hl1.out _) ?_
      rintro e wz ⟨rfl, rfl⟩
      refine hK _ _ hH (fun hH2 => ?_)
      clear hK
      refine wpAnyH_ready (rs := [15]) (by kernel_rfl) (by simp) ?_
      refine AllReadyH.cons rfl (fun K hK => ?_) ?_
      rotate_left
      · exact AllReadyH.nil
      rw [if_pos (by rfl)]
      go_simp
      refine Calls.mono (hl2.out _) ?_
      rintro e wz ⟨rfl, rfl⟩
      refine hK _ _ hH (fun hH3 => ?_)
      clear hK
      (refine' wpAnyH_take (i := 16) rfl (by kernel_rfl) (by kernel_rfl) (by kernel_rfl) (fun _ _ _ h => h) (Or.inl ⟨by rfl, ?_⟩) (by assumption) ?_; rotate_left; (· (intro wq hq; (try dsimp only at hq); go_simp; first | done | with_reducible rfl)); simp only [Act.put, List.getElem_toArray, List.getElem_cons_zero, List.getElem_cons_succ, List.setIfInBounds_toArray, List.set_cons_zero, List.set_cons_succ])
      (refine' wpAnyH_take (i := 17) rfl (by kernel_rfl) (by kernel_rfl) (by kernel_rfl) (fun _ _ _ h => h) (Or.inl ⟨by rfl, ?_⟩) (by assumption) ?_; rotate_left; (· (intro wq hq; (try dsimp only at hq); go_simp; first | done | with_reducible rfl)); simp only [Act.put, List.getElem_toArray, List.getElem_cons_zero, List.getElem_cons_succ, List.setIfInBounds_toArray, List.set_cons_zero, List.set_cons_succ])
      refine wpAnyH_done (by kernel_rfl) ?_ _
      refine hKr _ _ ?_
      have hfin := hid (stp_same hP.out (B0.out.trans ((below_drewN w1.heap.size w1 1).mono B0.out.size)))
      clear hP hP0 hl1 hl2 hp hq
      go_wp2
      go_ret
      exact hfin.out
    · obtain ⟨pn, rfl⟩ : ∃ k : Nat, p = (k : Int) := ⟨p.toNat, by omega⟩
      have hl1 := hid (learn_calls pb Sp room came L hc r n hk pn (by omega) w1.drew (hp.keptB (below_drewN _ _ 1)))
      go_wp2_with fail
      rename_i Kr hKr
      refine wp_region_held_drew (S := fun u => u.cell? ⟨X, 2, none⟩ = some (.string r) ∧ u.cell? ⟨X, 3, none⟩ = some (.string n) ∧ u.cell? ⟨X, 4, none⟩ = some (.int .i64 (pn : Int))) (by kernel_rfl) ⟨c2, c3, c4⟩ (fun hH => ?_)
      (refine' wpAnyH_take (i := 0) rfl (by kernel_rfl) (by kernel_rfl) (by kernel_rfl) (fun _ _ _ h => h) (Or.inl ⟨by rfl, ?_⟩) (by assumption) ?_; rotate_left; (· (intro wq hq; (try dsimp only at hq); go_simp; first | done | with_reducible rfl)); simp only [Act.put, List.getElem_toArray, List.getElem_cons_zero, List.setIfInBounds_toArray, List.set_cons_zero, List.set_cons_succ])
      (refine' wpAnyH_take (i := 1) rfl (by kernel_rfl) (by kernel_rfl) (by kernel_rfl) (fun _ _ _ h => h) (Or.inl ⟨by rfl, ?_⟩) (by assumption) ?_; rotate_left; (· (intro wq hq; (try dsimp only at hq); go_simp; first | done | with_reducible rfl)); simp only [Act.put, List.getElem_toArray, List.getElem_cons_zero, List.getElem_cons_succ, List.setIfInBounds_toArray, List.set_cons_zero, List.set_cons_succ])
      (refine' wpAnyH_take (i := 2) rfl (by kernel_rfl) (by kernel_rfl) (by kernel_rfl) (fun _ _ _ h => h) (Or.inl ⟨by rfl, ?_⟩) (by assumption) ?_; rotate_left; (· (intro wq hq; (try dsimp only at hq); go_simp; first | done | with_reducible rfl)); simp only [Act.put, List.getElem_toArray, List.getElem_cons_zero, List.getElem_cons_succ, List.setIfInBounds_toArray, List.set_cons_zero, List.set_cons_succ])
      (refine' wpAnyH_take (i := 3) rfl (by kernel_rfl) (by kernel_rfl) (by kernel_rfl) (fun _ _ _ h => h) (Or.inl ⟨by rfl, ?_⟩) (by assumption) ?_; rotate_left; (· (intro wq hq; (try dsimp only at hq); go_simp; first | done | with_reducible rfl)); simp only [Act.put, List.getElem_toArray, List.getElem_cons_zero, List.getElem_cons_succ, List.setIfInBounds_toArray, List.set_cons_zero, List.set_cons_succ])
      (refine' wpAnyH_take (i := 4) rfl (by kernel_rfl) (by kernel_rfl) (by kernel_rfl) (fun _ _ _ h => h) (Or.inl ⟨by rfl, ?_⟩) (by assumption) ?_; rotate_left; (· (intro wq hq; (try dsimp only at hq); go_simp; first | done | with_reducible rfl)); simp only [Act.put, List.getElem_toArray, List.getElem_cons_zero, List.getElem_cons_succ, List.setIfInBounds_toArray, List.set_cons_zero, List.set_cons_succ])
      (refine' wpAnyH_take (i := 5) rfl (by kernel_rfl) (by kernel_rfl) (by kernel_rfl) (fun _ _ _ h => h) (Or.inl ⟨by rfl, ?_⟩) (by assumption) ?_; rotate_left; (· (intro wq hq; (try dsimp only at hq); go_simp; first | done | with_reducible rfl)); simp only [Act.put, List.getElem_toArray, List.getElem_cons_zero, List.getElem_cons_succ, List.setIfInBounds_toArray, List.set_cons_zero, List.set_cons_succ])
      (refine' wpAnyH_take (i := 6) rfl (by kernel_rfl) (by kernel_rfl) (by kernel_rfl) (fun _ _ _ h => h) (Or.inl ⟨by rfl, ?_⟩) (by assumption) ?_; rotate_left; (· (intro wq hq; (try dsimp only at hq); go_simp; first | done | with_reducible rfl)); simp only [Act.put, List.getElem_toArray, List.getElem_cons_zero, List.getElem_cons_succ, List.setIfInBounds_toArray, List.set_cons_zero, List.set_cons_succ])
      (refine' wpAnyH_take (i := 8) rfl (by kernel_rfl) (by kernel_rfl) (by kernel_rfl) (fun _ _ _ h => h) (Or.inl ⟨by rfl, ?_⟩) (by assumption) ?_; rotate_left; (· (intro wq hq; (try dsimp only at hq); go_simp; first | done | with_reducible rfl)); simp only [Act.put, List.getElem_toArray, List.getElem_cons_zero, List.getElem_cons_succ, List.setIfInBounds_toArray, List.set_cons_zero, List.set_cons_succ])
      (refine' wpAnyH_take (i := 9) rfl (by kernel_rfl) (by kernel_rfl) (by kernel_rfl) (fun _ _ _ h => h) (Or.inl ⟨by rfl, ?_⟩) (by assumption) ?_; rotate_left; (· (intro wq hq; (try dsimp only at hq); go_simp; first | done | with_reducible rfl)); simp only [Act.put, List.getElem_toArray, List.getElem_cons_zero, List.getElem_cons_succ, List.setIfInBounds_toArray, List.set_cons_zero, List.set_cons_succ])
      (refine' wpAnyH_take (i := 10) rfl (by kernel_rfl) (by kernel_rfl) (by kernel_rfl) (fun _ _ _ h => h) (Or.inl ⟨by rfl, ?_⟩) (by assumption) ?_; rotate_left; (· (intro wq hq; (try dsimp only at hq); go_simp; first | done | with_reducible rfl)); simp only [Act.put, List.getElem_toArray, List.getElem_cons_zero, List.getElem_cons_succ, List.setIfInBounds_toArray, List.set_cons_zero, List.set_cons_succ])
      (refine' wpAnyH_take (i := 11) rfl (by kernel_rfl) (by kernel_rfl) (by kernel_rfl) (fun _ _ _ h => h) (Or.inl ⟨by rfl, ?_⟩) (by assumption) ?_; rotate_left; (· (intro wq hq; (try dsimp only at hq); go_simp; first | done | with_reducible rfl)); simp only [Act.put, List.getElem_toArray, List.getElem_cons_zero, List.getElem_cons_succ, List.setIfInBounds_toArray, List.set_cons_zero, List.set_cons_succ])
      (refine' wpAnyH_take (i := 12) rfl (by kernel_rfl) (by kernel_rfl) (by kernel_rfl) (fun _ _ _ h => h) (Or.inl ⟨by rfl, ?_⟩) (by assumption) ?_; rotate_left; (· (intro wq hq; (try dsimp only at hq); go_simp; first | done | with_reducible rfl)); simp only [Act.put, List.getElem_toArray, List.getElem_cons_zero, List.getElem_cons_succ, List.setIfInBounds_toArray, List.set_cons_zero, List.set_cons_succ])
      (refine' wpAnyH_take (i := 13) rfl (by kernel_rfl) (by kernel_rfl) (by kernel_rfl) (fun _ _ _ h => h) (Or.inl ⟨by rfl, ?_⟩) (by assumption) ?_; rotate_left; (· (intro wq hq; (try dsimp only at hq); go_simp; first | done | with_reducible rfl)); simp only [Act.put, List.getElem_toArray, List.getElem_cons_zero, List.getElem_cons_succ, List.setIfInBounds_toArray, List.set_cons_zero, List.set_cons_succ])
      (refine' wpAnyH_take (i := 14) rfl (by kernel_rfl) (by kernel_rfl) (by kernel_rfl) (fun _ _ _ h => h) (Or.inl ⟨by rfl, ?_⟩) (by assumption) ?_; rotate_left; (· (intro wq hq; (try dsimp only at hq); go_simp; first | done | with_reducible rfl)); simp only [Act.put, List.getElem_toArray, List.getElem_cons_zero, List.getElem_cons_succ, List.setIfInBounds_toArray, List.set_cons_zero, List.set_cons_succ])
      refine wpAnyH_ready (rs := [7]) (by kernel_rfl) (by simp) ?_
      refine AllReadyH.cons rfl (fun K hK => ?_) ?_
      rotate_left
      · exact AllReadyH.nil
      rw [if_pos (by rfl)]
      go_simp
      refine Calls.mono hl1.out ?_
      rintro e w2 ⟨rfl, c', L', hln, hp2', lp⟩
      have hXS : ∀ q, S q → q ≠ X := fun q h e => by
        have := hP.out.bound q h
        omega
      have A2 := hid (lp.out.at A0.out.drew (fun h => hXS X (hsp X h) rfl))
      have d2 := A2.out.cell 2
      have d3 := A2.out.cell 3
      have d4 := A2.out.cell 4
      simp only [List.getElem?_toArray, List.getElem?_cons_succ, List.getElem?_cons_zero] at d2 d3 d4
      have hq2 := hq.kept (w' := w2) (fun q h hl => lp.out.block q hl (fun h2 => hdis q h2 h))
      have hl2 := hid (learnR_calls qb Sq room came L hok.out hlr hr4 hasc.out r n pn (by omega) w2 hq2)
      refine hK _ _ ⟨d2, d3, d4⟩ (fun hH2 => ?_)
      clear hK d2 d3 d4
      refine wpAnyH_ready (rs := [15]) (by kernel_rfl) (by simp) ?_
      refine AllReadyH.cons rfl (fun K hK => ?_) ?_
      rotate_left
      · exact AllReadyH.nil
      rw [if_pos (by rfl)]
      go_simp
      refine Calls.mono hl2.out ?_
      rintro e w3 ⟨rfl, c'', L'', hln2, hq3, lq⟩
      obtain ⟨rfl, rfl⟩ := lrn_uniq hkeys.out hasc.out hln.out hln2.out
      have s12 : w1.heap.size ≤ w2.heap.size := lp.out.size
      have s23 : w2.heap.size ≤ w3.heap.size := lq.out.size
      have s01 : w.heap.size ≤ w1.heap.size := B0.out.size
      have A3 := hid (lq.out.at A2.out (fun h => hXS X (hsq X h) rfl))
      have d2 := A3.out.cell 2
      have d3 := A3.out.cell 3
      have d4 := A3.out.cell 4
      simp only [List.getElem?_toArray, List.getElem?_cons_succ, List.getElem?_cons_zero] at d2 d3 d4
      have hp3 := (hp2'.out.mono (S' := fun q => (Sp q ∨ w1.heap.size ≤ q) ∧ q < w2.heap.size) (fun q h1 h2 => ⟨h2, h1⟩)).kept (w' := w3) (fun q h hl => lq.out.block q hl (fun h2 => by
        rcases h.1 with h3 | h3
        · exact hdis q h3 h2
        · have := hP.out.bound q (hsq q h2)
          omega))
      have hq3' := hq3.out.mono (S' := fun q => (Sq q ∨ w2.heap.size ≤ q) ∧ q < w3.heap.size) (fun q h1 h2 => ⟨h2, h1⟩)
      have hB3 := hid (show Both w3 pb qb (fun q => S q ∨ (w.heap.size ≤ q ∧ q < w3.heap.size)) room c' L' from ⟨_, _, hp3, hq3', fun q h1 h2 => by
        rcases h1.1 with h3 | h3
        · rcases h2.1 with h4 | h4
          · exact hdis q h3 h4
          · have := h1.2
            omega
        · rcases h2.1 with h4 | h4
          · have := hP.out.bound q (hsq q h4)
            omega
          · have := h1.2
            omega, fun q h => by
        rcases h.1 with h3 | h3
        · exact .inl (hsp q h3)
        · exact .inr ⟨by omega, by have := h.2; omega⟩, fun q h => by
        rcases h.1 with h3 | h3
        · exact .inl (hsq q h3)
        · exact .inr ⟨by omega, h.2⟩, fun q h => by
        rcases h with h3 | h3
        · have := hP.out.bound q h3
          omega
        · exact h3.2⟩)
      have hfin := hid (show StP pb qb S room came w (.returned (.bool true)) w3 from ⟨rfl, c', L', lrn_came hln.out, hB3, hid (((Lap.of (Z := S) B0.out).drew.trans lp.out (fun q _ h => hsp q h)).trans lq.out (fun q _ h => hsq q h))⟩)
      refine hK _ _ ⟨d2, d3, d4⟩ (fun hH3 => ?_)
      clear hK
      (refine' wpAnyH_take (i := 16) rfl (by kernel_rfl) (by kernel_rfl) (by kernel_rfl) (fun _ _ _ h => h) (Or.inl ⟨by rfl, ?_⟩) (by assumption) ?_; rotate_left; (· (intro wq hq; (try dsimp only at hq); go_simp; first | done | with_reducible rfl)); simp only [Act.put, List.getElem_toArray, List.getElem_cons_zero, List.getElem_cons_succ, List.setIfInBounds_toArray, List.set_cons_zero, List.set_cons_succ])
      (refine' wpAnyH_take (i := 17) rfl (by kernel_rfl) (by kernel_rfl) (by kernel_rfl) (fun _ _ _ h => h) (Or.inl ⟨by rfl, ?_⟩) (by assumption) ?_; rotate_left; (· (intro wq hq; (try dsimp only at hq); go_simp; first | done | with_reducible rfl)); simp only [Act.put, List.getElem_toArray, List.getElem_cons_zero, List.getElem_cons_succ, List.setIfInBounds_toArray, List.set_cons_zero, List.set_cons_succ])
      refine wpAnyH_done (by kernel_rfl) ?_ _
      refine hKr _ _ ?_
      clear hP hP0 hl1 hl2 hp hq hp2' lp hq2 hq3 lq hp3 hq3' hB3 d2 d3 d4
      go_wp2
      go_ret
      exact hfin.out
  · by_cases h1 : I = 1
    · subst h1
      obtain ⟨Sp, Sq, hp, hq, -⟩ := hP0.out
      have hfin := hid (stp_same hP.out B0.out)
      have hgr := hid (guessR25_calls qb Sq room L (by rw [hN.out]; exact hN4) r n w1 (hid hq))
      by_cases hex : ∃ e ∈ L, e.r = r ∧ e.n = n
      · obtain ⟨x, hx, rfl, rfl⟩ := hex
        have hgp := hid (guess_yes pb Sp room came L x hx w1 hp)
        obtain ⟨xp, hxp⟩ : ∃ v, x.p = v := ⟨_, rfl⟩
        rw [hxp] at hgp
        clear hp hq hP hP0
        go_wp2_with fail
        refine Calls.mono hgp.out ?_
        rintro e w2 ⟨rfl, rfl⟩
        clear hgp
        go_wp2_with fail
        refine Calls.mono hgr.out ?_
        rintro e w3 ⟨⟨hno, -⟩ | ⟨y, hy, hky, rfl⟩, rfl⟩
        · exact absurd ⟨rfl, rfl⟩ (hno x hx)
        · obtain rfl := key_one hkeys.out hy hx hky
          clear hgr
          rw [hxp]
          go_wp2
          go_ret
          exact hfin.out
      · have hno' : ∀ e ∈ L, ¬ (e.r = r ∧ e.n = n) := fun e he h => hex ⟨e, he, h⟩
        have hgp := hid (guess_no pb Sp room came L r n hk hno' w1 hp)
        have hno' := hid hno'
        clear hp hq hP hP0
        go_wp2_with fail
        refine Calls.mono hgp.out ?_
        rintro e w2 ⟨rfl, rfl⟩
        clear hgp
        go_wp2_with fail
        refine Calls.mono hgr.out ?_
        rintro e w3 ⟨⟨-, rfl⟩ | ⟨y, hy, hky, -⟩, rfl⟩
        · clear hgr
          go_wp2
          go_ret
          exact hfin.out
        · exact absurd hky (hno'.out y hy)
    · by_cases h2 : I = 2
      · subst h2
        obtain ⟨Sp, Sq, hp, hq, -⟩ := hP0.out
        have hal := hid (all_calls25 pb Sp room came L w1 hp)
        have hq := hid hq
        clear hp
        go_wp2_with fail
        refine Calls.mono hal.out ?_
        rintro e w2 ⟨g, M, rfl, hM, hMs, hr, hg, b2⟩
        rw [hN.out] at hr ⊢
        have har := hid (allR_calls qb Sq room L (by rw [hN.out]; exact hN4) w2 (hid (hq.out.keptB b2.out)))
        clear hal
        go_wp2_with fail
        refine Calls.mono har.out ?_
        rintro e w3 ⟨so, c, rfl, hv, b3⟩
        rw [hN.out] at hv ⊢
        obtain ⟨l1, l2, l3⟩ := both_all hok.out hasc.out hN.out hN4 hM.out hMs.out hr.out b3.out hv.out
        have hsa := hid (same25_calls (M.map lrOf) (some ⟨g, 0, none⟩) so N N c (hid l3) (by omega) w3 (hid l1) (hid l2))
        have B3 := hid (show Below w.heap.size w w3 from B0.out.trans ((b2.out.trans (b3.out.mono b2.out.size)).mono B0.out.size))
        clear har l1 l2
        go_wp2_with fail
        refine Calls.mono hsa.out ?_
        rintro e w4 ⟨rfl, b4⟩
        have hfin := hid (stp_same hP.out (B3.out.trans (b4.mono B3.out.size)))
        clear hsa hP hP0 b2 b3 b4 hv hr hq
        go_wp2
        go_ret
        exact hfin.out
      · obtain rfl : I = 3 := by omega
        obtain ⟨Sp, Sq, hp, hq, -⟩ := hP0.out
        obtain ⟨so, c, hV⟩ := hq.shape
        rw [hN.out] at hV
        have k1 := hV.1.cell 1
        simp only [List.getElem?_toArray, List.getElem?_cons_succ, List.getElem?_cons_zero] at k1
        have hsz := hid (fun m : Nat => size_calls25 pb Sp room came L (w1.drewN m) (hp.keptB (below_drewN _ _ m)))
        rw [hN.out] at hsz
        clear hp hq hV
        go_wp2_with fail
        go_quiet ((go_at_call 9; exact Calls.quiet_of_same (hsz.out _)))
        have hfin := hid (stp_same hP.out (B0.out.trans ((below_drewN w1.heap.size w1 nq).mono B0.out.size)))
        clear hP hP0 hsz k1
        go_wp2
        go_ret
        exact hfin.out
end Go.Proofs.Ytiggfigjibggaaa
