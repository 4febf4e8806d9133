/-
  The walk of quarrylaw10.LevelsWithin.
-/
import Derived.Test.YtomeaejjdjidlaaDoorPack1
import Derived.Test.YtomeaejjdjidlaaDoorLvAwake
import Derived.Test.YtomeaejjdjidlaaDoorRoundQuiet
namespace Go.Proofs.YtomeaejjdjidlaaDoor
open Go.RowKit Go.Shelf

/-- Both lists of lent rows beside the law's variables. -/
structure LwZ (w A5 : World) (lo1 : Option Addr) (c1 : Nat) (L1 : List Bt) (lo2 : Option Addr) (c2 : Nat) (L2 : List Bt) (f t : Int) (va vb : Value) (W : World) : Prop where
  q : LwQ w (.slice lo1 L1.length c1) (.slice lo2 L2.length c2) f t va vb W
  l1 : LentL W (w.heap.size + 3) va L1 L1.length
  l2 : LentL W A5.heap.size vb L2 L2.length
theorem LwZ.kept {w A5 : World} {lo1 lo2 : Option Addr} {c1 c2 : Nat} {L1 L2 : List Bt} {f t : Int} {va vb : Value} {W W' : World} (h : LwZ w A5 lo1 c1 L1 lo2 c2 L2 f t va vb W) (hb : Below W.heap.size W W') : LwZ w A5 lo1 c1 L1 lo2 c2 L2 f t va vb W' := ⟨h.q.kept hb, h.l1.kept hb, h.l2.kept hb⟩
theorem ints_atW {W : World} {B cap n : Nat} {ao : Option Addr} {L : List Nat} (h : W.ownsRow B 3 1 (.slice ao n cap) L.length (ints L)) : IntsAt W ao L := by
  obtain ⟨ao', cap', e, hI⟩ := ints_row h
  simp only [Value.slice.injEq] at e
  obtain ⟨rfl, -, -⟩ := e
  exact hI
theorem IsW.len {L : List Bt} {lv f t : Int} {R : List Nat} (h : IsW L lv f t R) (hk : ∀ o ∈ L, o.k ≤ 1048576) : R.length ≤ 67108864 := by
  rcases h with ⟨_, rfl⟩ | ⟨i, o, N, _, ho, hE, rfl⟩
  · exact Nat.zero_le _
  · refine Nat.le_trans (fl_len _ _) ?_
    have h1 := hk o (List.mem_of_getElem? ho)
    rcases hE with ⟨h2, rfl⟩ | ⟨_, rfl⟩
    · have h3 := h2.2.1
      unfold need at h3
      have h4 := h2.1
      omega
    · exact Nat.zero_le _

set_option maxRecDepth 10000 in
set_option maxHeartbeats 16000000 in
theorem levelsWithin_walk (lo1 : Option Addr) (c1 : Nat) (L1 : List Bt) (lo2 : Option Addr) (c2 : Nat) (L2 : List Bt) (hz : (L1.length ≤ 1048576 ∧ ∀ o ∈ L1, o.k ≤ 1048576) ∧ L2.length ≤ 1048576 ∧ ∀ o ∈ L2, o.k ≤ 1048576) (lv : Int) (_ : (Lit.int .i64 lv).wf = true) (f t : Int) (hf : (Lit.int .i64 f).wf = true) (ht : (Lit.int .i64 t).wf = true) (w : World) (hT : Tab w) (hM : TabM w) (h0 : 1 < w.heap.size) (hB1 : BtsOf w lo1 L1) (hB2 : BtsOf w lo2 L2) :
    Calls Tryd.prog 5 #[.agg #[.slice lo1 L1.length c1, .slice lo2 L2.length c2], .int .i64 lv, .agg #[.int .i64 f, .int .i64 t]] w fun e w' => e = .returned (.bool true) ∧ Below w.heap.size w w' := by
  have hAw := hid (fun (W : World) (hb : Below w.heap.size w W) => awake10_calls W (hT.below hb (by omega)) (hM.below hb h0) (by have := hb.size; omega))
  obtain ⟨⟨hlen1, hk1⟩, hlen2, hk2⟩ := hz
  obtain ⟨R1, hR1⟩ := isW_ex L1 lv f t
  obtain ⟨R2, hR2⟩ := isW_ex L2 lv f t
  have hR1l := hid (hR1.len hk1)
  have hR2l := hid (hR2.len hk2)
  have hw1 : Hid (∀ (v : Value) (base : Nat) (u : World), Below w.heap.size w u → LentL u base v L1 L1.length → ∀ W, Below u.heap.size u W → Calls Tryd.prog 37 #[v, .int .i64 lv, .agg #[.int .i64 f, .int .i64 t]] W fun e w' => ∃ v', e = .returned v' ∧ PlaW u R1 v' w') := fun v base u hu hV W hb => withinL_calls lv f t R1 (hid hR1) hf ht hlen1 (fun o ho => by
    obtain ⟨i, hi⟩ := List.mem_iff_getElem?.1 ho
    obtain ⟨h1, h2, _⟩ := hB1 i o hi
    exact ⟨hk1 o ho, h1, fun j hj => (h2 j hj).1⟩) u (hT.below hu (by omega)) (by have := hu.size; omega) hV W hb
  have hw2 : Hid (∀ (v : Value) (base : Nat) (u : World), Below w.heap.size w u → LentL u base v L2 L2.length → ∀ W, Below u.heap.size u W → Calls Tryd.prog 37 #[v, .int .i64 lv, .agg #[.int .i64 f, .int .i64 t]] W fun e w' => ∃ v', e = .returned v' ∧ PlaW u R2 v' w') := fun v base u hu hV W hb => withinL_calls lv f t R2 (hid hR2) hf ht hlen2 (fun o ho => by
    obtain ⟨i, hi⟩ := List.mem_iff_getElem?.1 ho
    obtain ⟨h1, h2, _⟩ := hB2 i o hi
    exact ⟨hk2 o ho, h1, fun j hj => (h2 j hj).1⟩) u (hT.below hu (by omega)) (by have := hu.size; omega) hV W hb
  have hr1 := hid (fun (W : World) (hb : Below w.heap.size w W) => refWithin_calls lo1 c1 L1 lv f t R1 (hid hR1) hlen1 hk1 W (hB1.kept hb))
  have hr2 := hid (fun (W : World) (hb : Below w.heap.size w W) => refWithin_calls lo2 c2 L2 lv f t R2 (hid hR2) hlen2 hk2 W (hB2.kept hb))
  have hl1i : (L1.length : Int) ≤ 1048576 := by omega
  have hl2i : (L2.length : Int) ≤ 1048576 := by omega
  replace hlen1 := hid hlen1
  replace hlen2 := hid hlen2
  replace hk1 := hid hk1
  replace hk2 := hid hk2
  replace hB1 := hid hB1
  replace hB2 := hid hB2
  clear hT hM h0 hf ht hR1 hR2
  go_enter Tryd.func5, Tryd.ntmps5
  go_wp2
  have hQ : Hid (LwQ w (.slice lo1 L1.length c1) (.slice lo2 L2.length c2) f t (.slice none 0 0) (.slice none 0 0) (((w.alloc (.cells #[.slice lo1 L1.length c1, .slice lo2 L2.length c2] 47)).alloc (.cells #[.int .i64 f, .int .i64 t] 49)).alloc (.cells #[.slice none 0 0, .slice none 0 0] 47))) := by
    have a3 := ((At.new w #[.slice lo1 L1.length c1, .slice lo2 L2.length c2] 47).alloc (.cells #[.int .i64 f, .int .i64 t] 49)).alloc (.cells #[.slice none 0 0, .slice none 0 0] 47)
    have a5 := (At.new (w.alloc (.cells #[.slice lo1 L1.length c1, .slice lo2 L2.length c2] 47)) #[.int .i64 f, .int .i64 t] 49).alloc (.cells #[.slice none 0 0, .slice none 0 0] 47)
    have a7 := At.new ((w.alloc (.cells #[.slice lo1 L1.length c1, .slice lo2 L2.length c2] 47)).alloc (.cells #[.int .i64 f, .int .i64 t] 49)) #[.slice none 0 0, .slice none 0 0] 47
    rw [World.size_alloc] at a5
    rw [World.size_alloc, World.size_alloc] at a7
    exact ⟨a3, a5, a7, by repeat (first | with_reducible exact Below.refl _ _ | with_reducible refine Below.setCell ?_ (by first | (simp; done) | (simp; omega)) _ | with_reducible refine below_drewN ?_ _ | with_reducible refine Below.alloc ?_ (by first | (simp; done) | (simp; omega)) _ | with_reducible refine Below.drew ?_)⟩
  go_loopw [8] (fun ii wr => ∃ (i : Nat) (v : Value), i ≤ L1.length ∧ ii = .int .i64 (i : Int) ∧ Hid (LwQ w (.slice lo1 L1.length c1) (.slice lo2 L2.length c2) f t v (.slice none 0 0) wr) ∧ Hid (LentL wr (w.heap.size + 3) v L1 i)) (fun ii _ => L1.length - (intOf ii).toNat)
  case atStart => exact ⟨0, .slice none 0 0, Nat.zero_le _, rfl, hQ, hid (LentL.nil _ _ _)⟩
  case round =>
    obtain ⟨i, v, hiL, rfl, hQr, hLr⟩ := hrel
    obtain ⟨c30, c31, -, -⟩ := hQr.out.v3.factsL
    by_cases hlt : i < L1.length
    · have hii : (i : Int) < (L1.length : Int) := by omega
      obtain ⟨o, ho⟩ : ∃ o, L1[i]? = some o := ⟨_, List.getElem?_eq_getElem hlt⟩
      have hko := hk1.out o (List.mem_of_getElem? ho)
      obtain ⟨-, hWo, G, off, hlo, hGl, k0, k1⟩ := hB1.out i o ho
      subst hlo
      have hce : Hid (∀ W, Below w.heap.size w W → W.cell? ⟨G, off + i * 2, none⟩ = some (.int .i64 o.n) ∧ W.cell? ⟨G, off + i * 2 + 1, none⟩ = some (.slice o.ao o.k o.cap)) := fun W hb => ⟨(hb.cell (p := ⟨G, off + i * 2, none⟩) hGl).trans k0, (hb.cell (p := ⟨G, off + i * 2 + 1, none⟩) hGl).trans k1⟩
      have ho' := hid ho
      have hWo' := hid hWo
      clear ho k0 k1 hWo
      go_wp2_with fail
      rename_i K5 hK5
      refine wp_region_held_drew (S := fun W' => At W' w.heap.size #[(.slice (some ⟨G, off, none⟩) L1.length c1), (.slice lo2 L2.length c2)] 47 ∧ Below w.heap.size w W') (by kernel_rfl) ⟨hQr.out.v3.drew, hQr.out.b.drew⟩ (fun hHeld => ?_)
      have q0 := hid (hQr.out.kept (Below.refl _ _).drew)
      have l0 := hid (hLr.out.kept (Below.refl _ _).drew)
      obtain ⟨x0, ex0⟩ : ∃ x, World.drew wr = x := ⟨_, rfl⟩
      rw [ex0] at q0 l0 hHeld ⊢
      clear ex0 c30 c31
      (refine' wpAnyH_take (i := 0) rfl (by kernel_rfl) (by kernel_rfl) (by kernel_rfl) (fun _ _ _ h => h) (Or.inl ⟨by rfl, ?_⟩) (by assumption) ?_; rotate_left; (· (intro wq hq; (try dsimp only at hq); go_simp; first | done | with_reducible rfl)); simp only [Act.put, List.getElem_toArray, List.getElem_cons_zero, List.setIfInBounds_toArray, List.set_cons_zero, List.set_cons_succ])
      (refine' wpAnyH_take (i := 2) rfl (by kernel_rfl) (by kernel_rfl) (by kernel_rfl) (fun _ _ _ h => h) (Or.inl ⟨by rfl, ?_⟩) (by assumption) ?_; rotate_left; (· (intro wq hq; (try dsimp only at hq); go_simp; first | done | with_reducible rfl)); simp only [Act.put, List.getElem_toArray, List.getElem_cons_zero, List.getElem_cons_succ, List.setIfInBounds_toArray, List.set_cons_zero, List.set_cons_succ])
      (refine' wpAnyH_take (i := 3) (v := (.slice (some ⟨G, off, none⟩) L1.length c1)) rfl (by kernel_rfl) (by kernel_rfl) (by kernel_rfl) (fun _ _ _ h => h) (Or.inl ⟨by rfl, ?_⟩) hHeld ?_; (· (intro wq hq; (try dsimp only at hq); obtain ⟨t0, t1, -, -⟩ := hq.1.factsL; go_simp; first | done | with_reducible rfl)); simp only [Act.put, List.getElem_toArray, List.getElem_cons_zero, List.getElem_cons_succ, List.setIfInBounds_toArray, List.set_cons_zero, List.set_cons_succ])
      (refine' wpAnyH_take (i := 4) rfl (by kernel_rfl) (by kernel_rfl) (by kernel_rfl) (fun _ _ _ h => h) (Or.inl ⟨by rfl, ?_⟩) (by assumption) ?_; rotate_left; (· (intro wq hq; (try dsimp only at hq); go_simp; first | done | with_reducible rfl)); simp only [Act.put, List.getElem_toArray, List.getElem_cons_zero, List.getElem_cons_succ, List.setIfInBounds_toArray, List.set_cons_zero, List.set_cons_succ])
      (refine' wpAnyH_take (i := 5) rfl (by kernel_rfl) (by kernel_rfl) (by kernel_rfl) (fun _ _ _ h => h) (Or.inl ⟨by rfl, ?_⟩) (by assumption) ?_; rotate_left; (· (intro wq hq; (try dsimp only at hq); go_simp; first | done | with_reducible rfl)); simp only [Act.put, List.getElem_toArray, List.getElem_cons_zero, List.getElem_cons_succ, List.setIfInBounds_toArray, List.set_cons_zero, List.set_cons_succ])
      (refine' wpAnyH_take (i := 6) (v := (.agg #[.int .i64 o.n, .slice o.ao o.k o.cap])) rfl (by kernel_rfl) (by kernel_rfl) (by kernel_rfl) (fun _ _ _ h => h) (Or.inl ⟨by rfl, ?_⟩) hHeld ?_; (· (intro wq hq; (try dsimp only at hq); obtain ⟨t0, t1⟩ := hce.out wq hq.2; go_simp; first | done | with_reducible rfl)); simp only [Act.put, List.getElem_toArray, List.getElem_cons_zero, List.getElem_cons_succ, List.setIfInBounds_toArray, List.set_cons_zero, List.set_cons_succ])
      clear hHeld
      refine wpAnyH_ready (rs := [1, 7]) (by kernel_rfl) (by simp) ?_
      refine AllReadyH.cons rfl (fun K hK => ?_) ?_
      · obtain ⟨t0, t1, -, -⟩ := q0.out.v7.factsL
        go_simp
        clear t0 t1
        refine hK.out _ _ ⟨q0.out.v3, q0.out.b⟩ (fun _ => ?_)
        clear hK K
        refine wpAnyH_ready (rs := [7]) (by kernel_rfl) (by simp) ?_
        refine AllReadyH.cons rfl (fun K hK => ?_) ?_
        · rw [if_pos (by rfl)]
          go_simp
          refine Calls.mono (lentB_calls o.n o.ao o.k o.cap o.X (by omega) x0 (hWo'.out.kept q0.out.b)) ?_
          rintro e x1 ⟨g2, c2x, rfl, -, hl0, hbx⟩
          have hlt2 := hid hl0
          have q1 := hid (q0.out.kept hbx)
          have l1 := hid (l0.out.kept hbx)
          clear hl0 hbx
          refine hK.out _ _ ⟨q1.out.v3, q1.out.b⟩ (fun _ => ?_)
          clear hK K
          refine wpAnyH_ready (rs := [8]) (by kernel_rfl) (by simp) ?_
          refine AllReadyH.cons rfl (fun K hK => ?_) ?_
          · go_simp
            obtain ⟨x2, ex⟩ : ∃ x, World.alloc x1 (.cells #[.int .i64 o.n, .slice (some ⟨g2, 0, none⟩) o.k c2x] 34) = x := ⟨_, rfl⟩
            have hbx : Below x1.heap.size x1 x2 := by rw [← ex]; exact (Below.refl _ _).alloc (Nat.le_refl _) _
            have hp := hid (show At x2 x1.heap.size #[.int .i64 o.n, .slice (some ⟨g2, 0, none⟩) o.k c2x] 34 by rw [← ex]; exact At.new x1 _ _)
            rw [ex]
            obtain ⟨pp, ep⟩ : ∃ pp, x1.heap.size = pp := ⟨_, rfl⟩
            have q2 := hid (q1.out.kept hbx)
            have l2 := hid (l1.out.kept hbx)
            replace hlt2 := hid (LentW.kept hlt2.out hbx)
            rw [ep] at hp ⊢
            clear ex ep hbx
            refine hK.out _ _ ⟨q2.out.v3, q2.out.b⟩ (fun _ => ?_)
            clear hK K
            obtain ⟨nv, y1, hrun, hl2, hgr⟩ := l2.out.app (ty := 45) ho'.out hlt2.out ⟨pp, 0, none⟩ 1 (by simpa [Addr.add] using hp.out.cell 0) (by simpa [Addr.add] using hp.out.cell 1) (by have := hlen1.out; omega) (by have := q2.out.v7.lt; omega)
            obtain ⟨so, cp, rfl⟩ := hl2.shape
            have hrun' := hid hrun
            have qq := hid (q2.out.grown l2.out hgr (by omega))
            have fin := hid (qq.out.put0 (.slice so (i + 1) cp))
            have lfin := hid (hl2.over (W' := y1.setCell ⟨w.heap.size + 2, 0, none⟩ (.slice so (i + 1) cp)) (fun b cs t h1 h2 => (KeepL.put (KeepL.refl y1) qq.out.v7 0 (.slice so (i + 1) cp)).2 b cs t h1 h2))
            obtain ⟨t0, t1, f0, f1⟩ := qq.out.v7.factsL
            clear hrun hgr hl2
            refine wpAnyH_ready (rs := [9]) (by kernel_rfl) (by simp) ?_
            refine AllReadyH.cons rfl (fun K hK => ?_) ?_
            · rw [if_pos (by rfl)]
              refine wp_append_rowL rfl rfl rfl hrun'.out ?_
              refine hK.out _ _ ⟨qq.out.v3, qq.out.b⟩ (fun hHeld => ?_)
              clear hK K
              (refine' wpAnyH_take (i := 10) rfl (by kernel_rfl) (by kernel_rfl) (by kernel_rfl) (fun _ _ _ h => h) (Or.inl ⟨by rfl, ?_⟩) (by assumption) ?_; rotate_left; (· (intro wq hq; (try dsimp only at hq); go_simp; first | done | with_reducible rfl)); simp only [Act.put, List.getElem_toArray, List.getElem_cons_zero, List.getElem_cons_succ, List.setIfInBounds_toArray, List.set_cons_zero, List.set_cons_succ])
              refine wpAnyH_ready (rs := [11]) (by kernel_rfl) (by simp) ?_
              refine AllReadyH.cons rfl (fun K hK => ?_) ?_
              · go_simp
                refine hK.out _ _ ⟨fin.out.v3, fin.out.b⟩ (fun _ => ?_)
                clear hK K
                refine wpAnyH_done (by kernel_rfl) ?_ _
                refine hK5 _ _ ?_
                obtain ⟨z1, ez⟩ : ∃ z, World.setCell y1 ⟨w.heap.size + 2, 0, none⟩ (.slice so (i + 1) cp) = z := ⟨_, rfl⟩
                rw [ez] at fin lfin ⊢
                clear ez hrun' t0 t1 f0 f1 hHeld qq hK5
                go_wp2
                go_roundw
                case rel => exact ⟨i + 1, _, hlt, by simp, fin, lfin⟩
                case measure => simp [intOf]; omega
              exact AllReadyH.nil
            exact AllReadyH.nil
          exact AllReadyH.nil
        exact AllReadyH.nil
      refine AllReadyH.cons rfl (fun K hK => ?_) ?_
      · rw [if_pos (by rfl)]
        go_simp
        refine Calls.mono (lentB_calls o.n o.ao o.k o.cap o.X (by omega) x0 (hWo'.out.kept q0.out.b)) ?_
        rintro e x1 ⟨g2, c2x, rfl, -, hl0, hbx⟩
        have hlt2 := hid hl0
        have q1 := hid (q0.out.kept hbx)
        have l1 := hid (l0.out.kept hbx)
        clear hl0 hbx
        refine hK.out _ _ ⟨q1.out.v3, q1.out.b⟩ (fun _ => ?_)
        clear hK K
        refine wpAnyH_ready (rs := [1, 8]) (by kernel_rfl) (by simp) ?_
        refine AllReadyH.cons rfl (fun K hK => ?_) ?_
        · obtain ⟨t0, t1, -, -⟩ := q1.out.v7.factsL
          go_simp
          clear t0 t1
          refine hK.out _ _ ⟨q1.out.v3, q1.out.b⟩ (fun _ => ?_)
          clear hK K
          refine wpAnyH_ready (rs := [8]) (by kernel_rfl) (by simp) ?_
          refine AllReadyH.cons rfl (fun K hK => ?_) ?_
          · go_simp
            obtain ⟨x2, ex⟩ : ∃ x, World.alloc x1 (.cells #[.int .i64 o.n, .slice (some ⟨g2, 0, none⟩) o.k c2x] 34) = x := ⟨_, rfl⟩
            have hbx : Below x1.heap.size x1 x2 := by rw [← ex]; exact (Below.refl _ _).alloc (Nat.le_refl _) _
            have hp := hid (show At x2 x1.heap.size #[.int .i64 o.n, .slice (some ⟨g2, 0, none⟩) o.k c2x] 34 by rw [← ex]; exact At.new x1 _ _)
            rw [ex]
            obtain ⟨pp, ep⟩ : ∃ pp, x1.heap.size = pp := ⟨_, rfl⟩
            have q2 := hid (q1.out.kept hbx)
            have l2 := hid (l1.out.kept hbx)
            replace hlt2 := hid (LentW.kept hlt2.out hbx)
            rw [ep] at hp ⊢
            clear ex ep hbx
            refine hK.out _ _ ⟨q2.out.v3, q2.out.b⟩ (fun _ => ?_)
            clear hK K
            obtain ⟨nv, y1, hrun, hl2, hgr⟩ := l2.out.app (ty := 45) ho'.out hlt2.out ⟨pp, 0, none⟩ 1 (by simpa [Addr.add] using hp.out.cell 0) (by simpa [Addr.add] using hp.out.cell 1) (by have := hlen1.out; omega) (by have := q2.out.v7.lt; omega)
            obtain ⟨so, cp, rfl⟩ := hl2.shape
            have hrun' := hid hrun
            have qq := hid (q2.out.grown l2.out hgr (by omega))
            have fin := hid (qq.out.put0 (.slice so (i + 1) cp))
            have lfin := hid (hl2.over (W' := y1.setCell ⟨w.heap.size + 2, 0, none⟩ (.slice so (i + 1) cp)) (fun b cs t h1 h2 => (KeepL.put (KeepL.refl y1) qq.out.v7 0 (.slice so (i + 1) cp)).2 b cs t h1 h2))
            obtain ⟨t0, t1, f0, f1⟩ := qq.out.v7.factsL
            clear hrun hgr hl2
            refine wpAnyH_ready (rs := [9]) (by kernel_rfl) (by simp) ?_
            refine AllReadyH.cons rfl (fun K hK => ?_) ?_
            · rw [if_pos (by rfl)]
              refine wp_append_rowL rfl rfl rfl hrun'.out ?_
              refine hK.out _ _ ⟨qq.out.v3, qq.out.b⟩ (fun hHeld => ?_)
              clear hK K
              (refine' wpAnyH_take (i := 10) rfl (by kernel_rfl) (by kernel_rfl) (by kernel_rfl) (fun _ _ _ h => h) (Or.inl ⟨by rfl, ?_⟩) (by assumption) ?_; rotate_left; (· (intro wq hq; (try dsimp only at hq); go_simp; first | done | with_reducible rfl)); simp only [Act.put, List.getElem_toArray, List.getElem_cons_zero, List.getElem_cons_succ, List.setIfInBounds_toArray, List.set_cons_zero, List.set_cons_succ])
              refine wpAnyH_ready (rs := [11]) (by kernel_rfl) (by simp) ?_
              refine AllReadyH.cons rfl (fun K hK => ?_) ?_
              · go_simp
                refine hK.out _ _ ⟨fin.out.v3, fin.out.b⟩ (fun _ => ?_)
                clear hK K
                refine wpAnyH_done (by kernel_rfl) ?_ _
                refine hK5 _ _ ?_
                obtain ⟨z1, ez⟩ : ∃ z, World.setCell y1 ⟨w.heap.size + 2, 0, none⟩ (.slice so (i + 1) cp) = z := ⟨_, rfl⟩
                rw [ez] at fin lfin ⊢
                clear ez hrun' t0 t1 f0 f1 hHeld qq hK5
                go_wp2
                go_roundw
                case rel => exact ⟨i + 1, _, hlt, by simp, fin, lfin⟩
                case measure => simp [intOf]; omega
              exact AllReadyH.nil
            exact AllReadyH.nil
          exact AllReadyH.nil
        refine AllReadyH.cons rfl (fun K hK => ?_) ?_
        · go_simp
          obtain ⟨x2, ex⟩ : ∃ x, World.alloc x1 (.cells #[.int .i64 o.n, .slice (some ⟨g2, 0, none⟩) o.k c2x] 34) = x := ⟨_, rfl⟩
          have hbx : Below x1.heap.size x1 x2 := by rw [← ex]; exact (Below.refl _ _).alloc (Nat.le_refl _) _
          have hp := hid (show At x2 x1.heap.size #[.int .i64 o.n, .slice (some ⟨g2, 0, none⟩) o.k c2x] 34 by rw [← ex]; exact At.new x1 _ _)
          rw [ex]
          obtain ⟨pp, ep⟩ : ∃ pp, x1.heap.size = pp := ⟨_, rfl⟩
          have q2 := hid (q1.out.kept hbx)
          have l2 := hid (l1.out.kept hbx)
          replace hlt2 := hid (LentW.kept hlt2.out hbx)
          rw [ep] at hp ⊢
          clear ex ep hbx
          refine hK.out _ _ ⟨q2.out.v3, q2.out.b⟩ (fun _ => ?_)
          clear hK K
          refine wpAnyH_ready (rs := [1]) (by kernel_rfl) (by simp) ?_
          refine AllReadyH.cons rfl (fun K hK => ?_) ?_
          · obtain ⟨t0, t1, -, -⟩ := q2.out.v7.factsL
            go_simp
            clear t0 t1
            refine hK.out _ _ ⟨q2.out.v3, q2.out.b⟩ (fun _ => ?_)
            clear hK K
            obtain ⟨nv, y1, hrun, hl2, hgr⟩ := l2.out.app (ty := 45) ho'.out hlt2.out ⟨pp, 0, none⟩ 1 (by simpa [Addr.add] using hp.out.cell 0) (by simpa [Addr.add] using hp.out.cell 1) (by have := hlen1.out; omega) (by have := q2.out.v7.lt; omega)
            obtain ⟨so, cp, rfl⟩ := hl2.shape
            have hrun' := hid hrun
            have qq := hid (q2.out.grown l2.out hgr (by omega))
            have fin := hid (qq.out.put0 (.slice so (i + 1) cp))
            have lfin := hid (hl2.over (W' := y1.setCell ⟨w.heap.size + 2, 0, none⟩ (.slice so (i + 1) cp)) (fun b cs t h1 h2 => (KeepL.put (KeepL.refl y1) qq.out.v7 0 (.slice so (i + 1) cp)).2 b cs t h1 h2))
            obtain ⟨t0, t1, f0, f1⟩ := qq.out.v7.factsL
            clear hrun hgr hl2
            refine wpAnyH_ready (rs := [9]) (by kernel_rfl) (by simp) ?_
            refine AllReadyH.cons rfl (fun K hK => ?_) ?_
            · rw [if_pos (by rfl)]
              refine wp_append_rowL rfl rfl rfl hrun'.out ?_
              refine hK.out _ _ ⟨qq.out.v3, qq.out.b⟩ (fun hHeld => ?_)
              clear hK K
              (refine' wpAnyH_take (i := 10) rfl (by kernel_rfl) (by kernel_rfl) (by kernel_rfl) (fun _ _ _ h => h) (Or.inl ⟨by rfl, ?_⟩) (by assumption) ?_; rotate_left; (· (intro wq hq; (try dsimp only at hq); go_simp; first | done | with_reducible rfl)); simp only [Act.put, List.getElem_toArray, List.getElem_cons_zero, List.getElem_cons_succ, List.setIfInBounds_toArray, List.set_cons_zero, List.set_cons_succ])
              refine wpAnyH_ready (rs := [11]) (by kernel_rfl) (by simp) ?_
              refine AllReadyH.cons rfl (fun K hK => ?_) ?_
              · go_simp
                refine hK.out _ _ ⟨fin.out.v3, fin.out.b⟩ (fun _ => ?_)
                clear hK K
                refine wpAnyH_done (by kernel_rfl) ?_ _
                refine hK5 _ _ ?_
                obtain ⟨z1, ez⟩ : ∃ z, World.setCell y1 ⟨w.heap.size + 2, 0, none⟩ (.slice so (i + 1) cp) = z := ⟨_, rfl⟩
                rw [ez] at fin lfin ⊢
                clear ez hrun' t0 t1 f0 f1 hHeld qq hK5
                go_wp2
                go_roundw
                case rel => exact ⟨i + 1, _, hlt, by simp, fin, lfin⟩
                case measure => simp [intOf]; omega
              exact AllReadyH.nil
            exact AllReadyH.nil
          exact AllReadyH.nil
        exact AllReadyH.nil
      exact AllReadyH.nil
    · obtain rfl : i = L1.length := by omega
      obtain ⟨va, hva⟩ : ∃ va, va = v := ⟨_, rfl⟩
      rw [← hva] at hQr hLr
      clear hva v
      obtain ⟨A5, hA5⟩ : ∃ A5, A5 = wr := ⟨_, rfl⟩
      rw [← hA5] at hQr hLr c30 c31 ⊢
      clear hA5
      have hA5s := hid hQr.out.b.size
      have hl1 := hLr
      have hQ2 := hQr
      clear hQ hQr hLr
      have hQ := hQ2
      clear hQ2
      go_wp2
      go_loopw [9] (fun ii wr => ∃ (i : Nat) (v : Value), i ≤ L2.length ∧ ii = .int .i64 (i : Int) ∧ Hid (LwQ w (.slice lo1 L1.length c1) (.slice lo2 L2.length c2) f t va v wr) ∧ Hid (LentL wr A5.heap.size v L2 i) ∧ Hid (KeepL A5 wr)) (fun ii _ => L2.length - (intOf ii).toNat)
      case atStart => exact ⟨0, .slice none 0 0, Nat.zero_le _, rfl, hQ, hid (LentL.nil _ _ _), hid (KeepL.refl _)⟩
      case round =>
        obtain ⟨i, v, hiL, rfl, hQr, hLr, hKr⟩ := hrel
        obtain ⟨c30, c31, -, -⟩ := hQr.out.v3.factsL
        by_cases hlt : i < L2.length
        · have hii : (i : Int) < (L2.length : Int) := by omega
          obtain ⟨o, ho⟩ : ∃ o, L2[i]? = some o := ⟨_, List.getElem?_eq_getElem hlt⟩
          have hko := hk2.out o (List.mem_of_getElem? ho)
          obtain ⟨-, hWo, G, off, hlo, hGl, k0, k1⟩ := hB2.out i o ho
          subst hlo
          have hce : Hid (∀ W, Below w.heap.size w W → W.cell? ⟨G, off + i * 2, none⟩ = some (.int .i64 o.n) ∧ W.cell? ⟨G, off + i * 2 + 1, none⟩ = some (.slice o.ao o.k o.cap)) := fun W hb => ⟨(hb.cell (p := ⟨G, off + i * 2, none⟩) hGl).trans k0, (hb.cell (p := ⟨G, off + i * 2 + 1, none⟩) hGl).trans k1⟩
          have ho' := hid ho
          have hWo' := hid hWo
          clear ho k0 k1 hWo
          go_wp2_with fail
          rename_i K9 hK9
          refine wp_region_held_drew (S := fun W' => At W' w.heap.size #[(.slice lo1 L1.length c1), (.slice (some ⟨G, off, none⟩) L2.length c2)] 47 ∧ Below w.heap.size w W') (by kernel_rfl) ⟨hQr.out.v3.drew, hQr.out.b.drew⟩ (fun hHeld => ?_)
          have q0 := hid (hQr.out.kept (Below.refl _ _).drew)
          have l0 := hid (hLr.out.kept (Below.refl _ _).drew)
          have p0 := hid (hKr.out.kept (Below.refl _ _).drew)
          obtain ⟨x0, ex0⟩ : ∃ x, World.drew wr = x := ⟨_, rfl⟩
          rw [ex0] at q0 l0 p0 hHeld ⊢
          clear ex0 c30 c31
          (refine' wpAnyH_take (i := 0) rfl (by kernel_rfl) (by kernel_rfl) (by kernel_rfl) (fun _ _ _ h => h) (Or.inl ⟨by rfl, ?_⟩) (by assumption) ?_; rotate_left; (· (intro wq hq; (try dsimp only at hq); go_simp; first | done | with_reducible rfl)); simp only [Act.put, List.getElem_toArray, List.getElem_cons_zero, List.setIfInBounds_toArray, List.set_cons_zero, List.set_cons_succ])
          (refine' wpAnyH_take (i := 2) rfl (by kernel_rfl) (by kernel_rfl) (by kernel_rfl) (fun _ _ _ h => h) (Or.inl ⟨by rfl, ?_⟩) (by assumption) ?_; rotate_left; (· (intro wq hq; (try dsimp only at hq); go_simp; first | done | with_reducible rfl)); simp only [Act.put, List.getElem_toArray, List.getElem_cons_zero, List.getElem_cons_succ, List.setIfInBounds_toArray, List.set_cons_zero, List.set_cons_succ])
          (refine' wpAnyH_take (i := 3) (v := (.slice (some ⟨G, off, none⟩) L2.length c2)) rfl (by kernel_rfl) (by kernel_rfl) (by kernel_rfl) (fun _ _ _ h => h) (Or.inl ⟨by rfl, ?_⟩) hHeld ?_; (· (intro wq hq; (try dsimp only at hq); obtain ⟨t0, t1, -, -⟩ := hq.1.factsL; go_simp; first | done | with_reducible rfl)); simp only [Act.put, List.getElem_toArray, List.getElem_cons_zero, List.getElem_cons_succ, List.setIfInBounds_toArray, List.set_cons_zero, List.set_cons_succ])
          (refine' wpAnyH_take (i := 4) rfl (by kernel_rfl) (by kernel_rfl) (by kernel_rfl) (fun _ _ _ h => h) (Or.inl ⟨by rfl, ?_⟩) (by assumption) ?_; rotate_left; (· (intro wq hq; (try dsimp only at hq); go_simp; first | done | with_reducible rfl)); simp only [Act.put, List.getElem_toArray, List.getElem_cons_zero, List.getElem_cons_succ, List.setIfInBounds_toArray, List.set_cons_zero, List.set_cons_succ])
          (refine' wpAnyH_take (i := 5) rfl (by kernel_rfl) (by kernel_rfl) (by kernel_rfl) (fun _ _ _ h => h) (Or.inl ⟨by rfl, ?_⟩) (by assumption) ?_; rotate_left; (· (intro wq hq; (try dsimp only at hq); go_simp; first | done | with_reducible rfl)); simp only [Act.put, List.getElem_toArray, List.getElem_cons_zero, List.getElem_cons_succ, List.setIfInBounds_toArray, List.set_cons_zero, List.set_cons_succ])
          (refine' wpAnyH_take (i := 6) (v := (.agg #[.int .i64 o.n, .slice o.ao o.k o.cap])) rfl (by kernel_rfl) (by kernel_rfl) (by kernel_rfl) (fun _ _ _ h => h) (Or.inl ⟨by rfl, ?_⟩) hHeld ?_; (· (intro wq hq; (try dsimp only at hq); obtain ⟨t0, t1⟩ := hce.out wq hq.2; go_simp; first | done | with_reducible rfl)); simp only [Act.put, List.getElem_toArray, List.getElem_cons_zero, List.getElem_cons_succ, List.setIfInBounds_toArray, List.set_cons_zero, List.set_cons_succ])
          clear hHeld
          refine wpAnyH_ready (rs := [1, 7]) (by kernel_rfl) (by simp) ?_
          refine AllReadyH.cons rfl (fun K hK => ?_) ?_
          · obtain ⟨t0, t1, -, -⟩ := q0.out.v7.factsL
            go_simp
            clear t0 t1
            refine hK.out _ _ ⟨q0.out.v3, q0.out.b⟩ (fun _ => ?_)
            clear hK K
            refine wpAnyH_ready (rs := [7]) (by kernel_rfl) (by simp) ?_
            refine AllReadyH.cons rfl (fun K hK => ?_) ?_
            · rw [if_pos (by rfl)]
              go_simp
              refine Calls.mono (lentB_calls o.n o.ao o.k o.cap o.X (by omega) x0 (hWo'.out.kept q0.out.b)) ?_
              rintro e x1 ⟨g2, c2x, rfl, -, hl0, hbx⟩
              have hlt2 := hid hl0
              have q1 := hid (q0.out.kept hbx)
              have l1 := hid (l0.out.kept hbx)
              have p1 := hid (p0.out.kept hbx)
              clear hl0 hbx
              refine hK.out _ _ ⟨q1.out.v3, q1.out.b⟩ (fun _ => ?_)
              clear hK K
              refine wpAnyH_ready (rs := [8]) (by kernel_rfl) (by simp) ?_
              refine AllReadyH.cons rfl (fun K hK => ?_) ?_
              · go_simp
                obtain ⟨x2, ex⟩ : ∃ x, World.alloc x1 (.cells #[.int .i64 o.n, .slice (some ⟨g2, 0, none⟩) o.k c2x] 34) = x := ⟨_, rfl⟩
                have hbx : Below x1.heap.size x1 x2 := by rw [← ex]; exact (Below.refl _ _).alloc (Nat.le_refl _) _
                have hp := hid (show At x2 x1.heap.size #[.int .i64 o.n, .slice (some ⟨g2, 0, none⟩) o.k c2x] 34 by rw [← ex]; exact At.new x1 _ _)
                rw [ex]
                obtain ⟨pp, ep⟩ : ∃ pp, x1.heap.size = pp := ⟨_, rfl⟩
                have q2 := hid (q1.out.kept hbx)
                have l2 := hid (l1.out.kept hbx)
                have p2 := hid (p1.out.kept hbx)
                replace hlt2 := hid (LentW.kept hlt2.out hbx)
                rw [ep] at hp ⊢
                clear ex ep hbx
                refine hK.out _ _ ⟨q2.out.v3, q2.out.b⟩ (fun _ => ?_)
                clear hK K
                obtain ⟨nv, y1, hrun, hl2, hgr⟩ := l2.out.app (ty := 45) ho'.out hlt2.out ⟨pp, 0, none⟩ 1 (by simpa [Addr.add] using hp.out.cell 0) (by simpa [Addr.add] using hp.out.cell 1) (by have := hlen2.out; omega) (p2.out.1)
                obtain ⟨so, cp, rfl⟩ := hl2.shape
                have hrun' := hid hrun
                have qq := hid (q2.out.grown l2.out hgr (hA5s.out))
                have kk := hid (p2.out.grown hgr (fun r e => (l2.out.lt e).1))
                have fin := hid (qq.out.put1 (.slice so (i + 1) cp))
                have kfin := hid (kk.out.put qq.out.v7 1 (.slice so (i + 1) cp))
                have lfin := hid (hl2.over (W' := y1.setCell ⟨w.heap.size + 2, 1, none⟩ (.slice so (i + 1) cp)) (fun b cs t h1 h2 => (KeepL.put (KeepL.refl y1) qq.out.v7 1 (.slice so (i + 1) cp)).2 b cs t h1 h2))
                obtain ⟨t0, t1, f0, f1⟩ := qq.out.v7.factsL
                clear hrun hgr hl2
                refine wpAnyH_ready (rs := [9]) (by kernel_rfl) (by simp) ?_
                refine AllReadyH.cons rfl (fun K hK => ?_) ?_
                · rw [if_pos (by rfl)]
                  refine wp_append_rowL rfl rfl rfl hrun'.out ?_
                  refine hK.out _ _ ⟨qq.out.v3, qq.out.b⟩ (fun hHeld => ?_)
                  clear hK K
                  (refine' wpAnyH_take (i := 10) rfl (by kernel_rfl) (by kernel_rfl) (by kernel_rfl) (fun _ _ _ h => h) (Or.inl ⟨by rfl, ?_⟩) (by assumption) ?_; rotate_left; (· (intro wq hq; (try dsimp only at hq); go_simp; first | done | with_reducible rfl)); simp only [Act.put, List.getElem_toArray, List.getElem_cons_zero, List.getElem_cons_succ, List.setIfInBounds_toArray, List.set_cons_zero, List.set_cons_succ])
                  refine wpAnyH_ready (rs := [11]) (by kernel_rfl) (by simp) ?_
                  refine AllReadyH.cons rfl (fun K hK => ?_) ?_
                  · go_simp
                    refine hK.out _ _ ⟨fin.out.v3, fin.out.b⟩ (fun _ => ?_)
                    clear hK K
                    refine wpAnyH_done (by kernel_rfl) ?_ _
                    refine hK9 _ _ ?_
                    obtain ⟨z1, ez⟩ : ∃ z, World.setCell y1 ⟨w.heap.size + 2, 1, none⟩ (.slice so (i + 1) cp) = z := ⟨_, rfl⟩
                    rw [ez] at fin lfin kfin ⊢
                    clear ez hrun' t0 t1 f0 f1 hHeld qq kk hK9
                    go_wp2
                    go_roundw
                    case rel => exact ⟨i + 1, _, hlt, by simp, fin, lfin, kfin⟩
                    case measure => simp [intOf]; omega
                  exact AllReadyH.nil
                exact AllReadyH.nil
              exact AllReadyH.nil
            exact AllReadyH.nil
          refine AllReadyH.cons rfl (fun K hK => ?_) ?_
          · rw [if_pos (by rfl)]
            go_simp
            refine Calls.mono (lentB_calls o.n o.ao o.k o.cap o.X (by omega) x0 (hWo'.out.kept q0.out.b)) ?_
            rintro e x1 ⟨g2, c2x, rfl, -, hl0, hbx⟩
            have hlt2 := hid hl0
            have q1 := hid (q0.out.kept hbx)
            have l1 := hid (l0.out.kept hbx)
            have p1 := hid (p0.out.kept hbx)
            clear hl0 hbx
            refine hK.out _ _ ⟨q1.out.v3, q1.out.b⟩ (fun _ => ?_)
            clear hK K
            refine wpAnyH_ready (rs := [1, 8]) (by kernel_rfl) (by simp) ?_
            refine AllReadyH.cons rfl (fun K hK => ?_) ?_
            · obtain ⟨t0, t1, -, -⟩ := q1.out.v7.factsL
              go_simp
              clear t0 t1
              refine hK.out _ _ ⟨q1.out.v3, q1.out.b⟩ (fun _ => ?_)
              clear hK K
              refine wpAnyH_ready (rs := [8]) (by kernel_rfl) (by simp) ?_
              refine AllReadyH.cons rfl (fun K hK => ?_) ?_
              · go_simp
                obtain ⟨x2, ex⟩ : ∃ x, World.alloc x1 (.cells #[.int .i64 o.n, .slice (some ⟨g2, 0, none⟩) o.k c2x] 34) = x := ⟨_, rfl⟩
                have hbx : Below x1.heap.size x1 x2 := by rw [← ex]; exact (Below.refl _ _).alloc (Nat.le_refl _) _
                have hp := hid (show At x2 x1.heap.size #[.int .i64 o.n, .slice (some ⟨g2, 0, none⟩) o.k c2x] 34 by rw [← ex]; exact At.new x1 _ _)
                rw [ex]
                obtain ⟨pp, ep⟩ : ∃ pp, x1.heap.size = pp := ⟨_, rfl⟩
                have q2 := hid (q1.out.kept hbx)
                have l2 := hid (l1.out.kept hbx)
                have p2 := hid (p1.out.kept hbx)
                replace hlt2 := hid (LentW.kept hlt2.out hbx)
                rw [ep] at hp ⊢
                clear ex ep hbx
                refine hK.out _ _ ⟨q2.out.v3, q2.out.b⟩ (fun _ => ?_)
                clear hK K
                obtain ⟨nv, y1, hrun, hl2, hgr⟩ := l2.out.app (ty := 45) ho'.out hlt2.out ⟨pp, 0, none⟩ 1 (by simpa [Addr.add] using hp.out.cell 0) (by simpa [Addr.add] using hp.out.cell 1) (by have := hlen2.out; omega) (p2.out.1)
                obtain ⟨so, cp, rfl⟩ := hl2.shape
                have hrun' := hid hrun
                have qq := hid (q2.out.grown l2.out hgr (hA5s.out))
                have kk := hid (p2.out.grown hgr (fun r e => (l2.out.lt e).1))
                have fin := hid (qq.out.put1 (.slice so (i + 1) cp))
                have kfin := hid (kk.out.put qq.out.v7 1 (.slice so (i + 1) cp))
                have lfin := hid (hl2.over (W' := y1.setCell ⟨w.heap.size + 2, 1, none⟩ (.slice so (i + 1) cp)) (fun b cs t h1 h2 => (KeepL.put (KeepL.refl y1) qq.out.v7 1 (.slice so (i + 1) cp)).2 b cs t h1 h2))
                obtain ⟨t0, t1, f0, f1⟩ := qq.out.v7.factsL
                clear hrun hgr hl2
                refine wpAnyH_ready (rs := [9]) (by kernel_rfl) (by simp) ?_
                refine AllReadyH.cons rfl (fun K hK => ?_) ?_
                · rw [if_pos (by rfl)]
                  refine wp_append_rowL rfl rfl rfl hrun'.out ?_
                  refine hK.out _ _ ⟨qq.out.v3, qq.out.b⟩ (fun hHeld => ?_)
                  clear hK K
                  (refine' wpAnyH_take (i := 10) rfl (by kernel_rfl) (by kernel_rfl) (by kernel_rfl) (fun _ _ _ h => h) (Or.inl ⟨by rfl, ?_⟩) (by assumption) ?_; rotate_left; (· (intro wq hq; (try dsimp only at hq); go_simp; first | done | with_reducible rfl)); simp only [Act.put, List.getElem_toArray, List.getElem_cons_zero, List.getElem_cons_succ, List.setIfInBounds_toArray, List.set_cons_zero, List.set_cons_succ])
                  refine wpAnyH_ready (rs := [11]) (by kernel_rfl) (by simp) ?_
                  refine AllReadyH.cons rfl (fun K hK => ?_) ?_
                  · go_simp
                    refine hK.out _ _ ⟨fin.out.v3, fin.out.b⟩ (fun _ => ?_)
                    clear hK K
                    refine wpAnyH_done (by kernel_rfl) ?_ _
                    refine hK9 _ _ ?_
                    obtain ⟨z1, ez⟩ : ∃ z, World.setCell y1 ⟨w.heap.size + 2, 1, none⟩ (.slice so (i + 1) cp) = z := ⟨_, rfl⟩
                    rw [ez] at fin lfin kfin ⊢
                    clear ez hrun' t0 t1 f0 f1 hHeld qq kk hK9
                    go_wp2
                    go_roundw
                    case rel => exact ⟨i + 1, _, hlt, by simp, fin, lfin, kfin⟩
                    case measure => simp [intOf]; omega
                  exact AllReadyH.nil
                exact AllReadyH.nil
              exact AllReadyH.nil
            refine AllReadyH.cons rfl (fun K hK => ?_) ?_
            · go_simp
              obtain ⟨x2, ex⟩ : ∃ x, World.alloc x1 (.cells #[.int .i64 o.n, .slice (some ⟨g2, 0, none⟩) o.k c2x] 34) = x := ⟨_, rfl⟩
              have hbx : Below x1.heap.size x1 x2 := by rw [← ex]; exact (Below.refl _ _).alloc (Nat.le_refl _) _
              have hp := hid (show At x2 x1.heap.size #[.int .i64 o.n, .slice (some ⟨g2, 0, none⟩) o.k c2x] 34 by rw [← ex]; exact At.new x1 _ _)
              rw [ex]
              obtain ⟨pp, ep⟩ : ∃ pp, x1.heap.size = pp := ⟨_, rfl⟩
              have q2 := hid (q1.out.kept hbx)
              have l2 := hid (l1.out.kept hbx)
              have p2 := hid (p1.out.kept hbx)
              replace hlt2 := hid (LentW.kept hlt2.out hbx)
              rw [ep] at hp ⊢
              clear ex ep hbx
              refine hK.out _ _ ⟨q2.out.v3, q2.out.b⟩ (fun _ => ?_)
              clear hK K
              refine wpAnyH_ready (rs := [1]) (by kernel_rfl) (by simp) ?_
              refine AllReadyH.cons rfl (fun K hK => ?_) ?_
              · obtain ⟨t0, t1, -, -⟩ := q2.out.v7.factsL
                go_simp
                clear t0 t1
                refine hK.out _ _ ⟨q2.out.v3, q2.out.b⟩ (fun _ => ?_)
                clear hK K
                obtain ⟨nv, y1, hrun, hl2, hgr⟩ := l2.out.app (ty := 45) ho'.out hlt2.out ⟨pp, 0, none⟩ 1 (by simpa [Addr.add] using hp.out.cell 0) (by simpa [Addr.add] using hp.out.cell 1) (by have := hlen2.out; omega) (p2.out.1)
                obtain ⟨so, cp, rfl⟩ := hl2.shape
                have hrun' := hid hrun
                have qq := hid (q2.out.grown l2.out hgr (hA5s.out))
                have kk := hid (p2.out.grown hgr (fun r e => (l2.out.lt e).1))
                have fin := hid (qq.out.put1 (.slice so (i + 1) cp))
                have kfin := hid (kk.out.put qq.out.v7 1 (.slice so (i + 1) cp))
                have lfin := hid (hl2.over (W' := y1.setCell ⟨w.heap.size + 2, 1, none⟩ (.slice so (i + 1) cp)) (fun b cs t h1 h2 => (KeepL.put (KeepL.refl y1) qq.out.v7 1 (.slice so (i + 1) cp)).2 b cs t h1 h2))
                obtain ⟨t0, t1, f0, f1⟩ := qq.out.v7.factsL
                clear hrun hgr hl2
                refine wpAnyH_ready (rs := [9]) (by kernel_rfl) (by simp) ?_
                refine AllReadyH.cons rfl (fun K hK => ?_) ?_
                · rw [if_pos (by rfl)]
                  refine wp_append_rowL rfl rfl rfl hrun'.out ?_
                  refine hK.out _ _ ⟨qq.out.v3, qq.out.b⟩ (fun hHeld => ?_)
                  clear hK K
                  (refine' wpAnyH_take (i := 10) rfl (by kernel_rfl) (by kernel_rfl) (by kernel_rfl) (fun _ _ _ h => h) (Or.inl ⟨by rfl, ?_⟩) (by assumption) ?_; rotate_left; (· (intro wq hq; (try dsimp only at hq); go_simp; first | done | with_reducible rfl)); simp only [Act.put, List.getElem_toArray, List.getElem_cons_zero, List.getElem_cons_succ, List.setIfInBounds_toArray, List.set_cons_zero, List.set_cons_succ])
                  refine wpAnyH_ready (rs := [11]) (by kernel_rfl) (by simp) ?_
                  refine AllReadyH.cons rfl (fun K hK => ?_) ?_
                  · go_simp
                    refine hK.out _ _ ⟨fin.out.v3, fin.out.b⟩ (fun _ => ?_)
                    clear hK K
                    refine wpAnyH_done (by kernel_rfl) ?_ _
                    refine hK9 _ _ ?_
                    obtain ⟨z1, ez⟩ : ∃ z, World.setCell y1 ⟨w.heap.size + 2, 1, none⟩ (.slice so (i + 1) cp) = z := ⟨_, rfl⟩
                    rw [ez] at fin lfin kfin ⊢
                    clear ez hrun' t0 t1 f0 f1 hHeld qq kk hK9
                    go_wp2
                    go_roundw
                    case rel => exact ⟨i + 1, _, hlt, by simp, fin, lfin, kfin⟩
                    case measure => simp [intOf]; omega
                  exact AllReadyH.nil
                exact AllReadyH.nil
              exact AllReadyH.nil
            exact AllReadyH.nil
          exact AllReadyH.nil
        · obtain rfl : i = L2.length := by omega
          obtain ⟨vb, hvb⟩ : ∃ vb, vb = v := ⟨_, rfl⟩
          rw [← hvb] at hQr hLr
          clear hvb v
          have hZ : Hid (LwZ w A5 lo1 c1 L1 lo2 c2 L2 f t va vb wr) := ⟨hQr.out, hl1.out.over (fun b cs t h1 h2 => hKr.out.2 b cs t h1 h2), hLr.out⟩
          clear hQr hLr hKr hl1
          go_upto_region 10 with fail
          go_cut [10, 11] from 50 to 57 (fun a b wx => ∃ (ao1 : Option Addr) (cap1 : Nat) (ao2 : Option Addr) (cap2 : Nat), a = .slice ao1 R1.length cap1 ∧ b = .slice ao2 R2.length cap2 ∧ Hid (IntsAt wx ao1 R1) ∧ Hid (IntsAt wx ao2 R2) ∧ Hid (LwZ w A5 lo1 c1 L1 lo2 c2 L2 f t va vb wx))
          case first => as_aux_lemma =>
            rename_i Jm Km hJm hKm
            refine wp_region_held_only (S := fun W' => LwZ w A5 lo1 c1 L1 lo2 c2 L2 f t va vb W') (by kernel_rfl) (hZ.out.kept (Below.refl _ _).drew) (fun hHeld => ?_)
            obtain ⟨x0, ex0⟩ : ∃ x, World.drew wr = x := ⟨_, rfl⟩
            rw [ex0] at hHeld ⊢
            clear ex0 hZ
            (refine' wpAnyH_take (i := 0) (v := (.agg #[va, vb])) rfl (by kernel_rfl) (by kernel_rfl) (by kernel_rfl) (fun _ _ _ h => h) (Or.inl ⟨by rfl, ?_⟩) hHeld ?_; (· (intro wq hq; (try dsimp only at hq); obtain ⟨t0, t1, -, -⟩ := hq.q.v7.factsL; go_simp; first | done | with_reducible rfl)); simp only [Act.put, List.getElem_toArray, List.getElem_cons_zero, List.setIfInBounds_toArray, List.set_cons_zero, List.set_cons_succ])
            (refine' wpAnyH_take (i := 1) rfl (by kernel_rfl) (by kernel_rfl) (by kernel_rfl) (fun _ _ _ h => h) (Or.inl ⟨by rfl, ?_⟩) (by assumption) ?_; rotate_left; (· (intro wq hq; (try dsimp only at hq); go_simp; first | done | with_reducible rfl)); simp only [Act.put, List.getElem_toArray, List.getElem_cons_zero, List.getElem_cons_succ, List.setIfInBounds_toArray, List.set_cons_zero, List.set_cons_succ])
            (refine' wpAnyH_take (i := 2) (v := (.agg #[.int .i64 f, .int .i64 t])) rfl (by kernel_rfl) (by kernel_rfl) (by kernel_rfl) (fun _ _ _ h => h) (Or.inl ⟨by rfl, ?_⟩) hHeld ?_; (· (intro wq hq; (try dsimp only at hq); obtain ⟨t0, t1, -, -⟩ := hq.q.v5.factsL; go_simp; first | done | with_reducible rfl)); simp only [Act.put, List.getElem_toArray, List.getElem_cons_zero, List.getElem_cons_succ, List.setIfInBounds_toArray, List.set_cons_zero, List.set_cons_succ])
            (refine' wpAnyH_take (i := 4) (v := (.agg #[va, vb])) rfl (by kernel_rfl) (by kernel_rfl) (by kernel_rfl) (fun _ _ _ h => h) (Or.inl ⟨by rfl, ?_⟩) hHeld ?_; (· (intro wq hq; (try dsimp only at hq); obtain ⟨t0, t1, -, -⟩ := hq.q.v7.factsL; go_simp; first | done | with_reducible rfl)); simp only [Act.put, List.getElem_toArray, List.getElem_cons_zero, List.getElem_cons_succ, List.setIfInBounds_toArray, List.set_cons_zero, List.set_cons_succ])
            (refine' wpAnyH_take (i := 5) rfl (by kernel_rfl) (by kernel_rfl) (by kernel_rfl) (fun _ _ _ h => h) (Or.inl ⟨by rfl, ?_⟩) (by assumption) ?_; rotate_left; (· (intro wq hq; (try dsimp only at hq); go_simp; first | done | with_reducible rfl)); simp only [Act.put, List.getElem_toArray, List.getElem_cons_zero, List.getElem_cons_succ, List.setIfInBounds_toArray, List.set_cons_zero, List.set_cons_succ])
            (refine' wpAnyH_take (i := 6) (v := (.agg #[.int .i64 f, .int .i64 t])) rfl (by kernel_rfl) (by kernel_rfl) (by kernel_rfl) (fun _ _ _ h => h) (Or.inl ⟨by rfl, ?_⟩) hHeld ?_; (· (intro wq hq; (try dsimp only at hq); obtain ⟨t0, t1, -, -⟩ := hq.q.v5.factsL; go_simp; first | done | with_reducible rfl)); simp only [Act.put, List.getElem_toArray, List.getElem_cons_zero, List.getElem_cons_succ, List.setIfInBounds_toArray, List.set_cons_zero, List.set_cons_succ])
            refine wpAnyH_ready (rs := [3]) (by kernel_rfl) (by simp) ?_
            refine AllReadyH.cons rfl (fun K hK => ?_) ?_
            · rw [if_pos (by rfl)]
              go_simp
              refine Calls.mono (colons_of va vb lv f t x0 (PlaW x0 R1) (fun W hW => hw1.out va _ x0 hHeld.q.b hHeld.l1 W hW)) ?_
              rintro e x1 ⟨z1, rfl, oz1, bz1⟩
              obtain ⟨ao1, cap1, rfl, hi1⟩ := ints_row oz1
              have hH1 := hHeld.kept bz1
              refine hK.out _ _ hH1 (fun _ => ?_)
              clear hK K hHeld oz1 bz1
              have hHeld := hH1
              refine wpAnyH_ready (rs := [7]) (by kernel_rfl) (by simp) ?_
              refine AllReadyH.cons rfl (fun K hK => ?_) ?_
              · rw [if_pos (by rfl)]
                go_simp
                refine Calls.mono (commas_of va vb lv f t x1 (PlaW x1 R2) (fun W hW => hw2.out vb _ x1 hHeld.q.b hHeld.l2 W hW)) ?_
                rintro e x2 ⟨z2, rfl, oz2, bz2⟩
                obtain ⟨ao2, cap2, rfl, hi2⟩ := ints_row oz2
                have hH2 := hH1.kept bz2
                have hi12 := hi1.kept (Nat.le_refl _) bz2
                refine hK.out _ _ hH2 (fun _ => ?_)
                clear hK K hHeld hH1 oz2 bz2
                have hHeld := hH2
                (refine' wpAnyH_take (i := 8) rfl (by kernel_rfl) (by kernel_rfl) (by kernel_rfl) (fun _ _ _ h => h) (Or.inl ⟨by rfl, ?_⟩) (by assumption) ?_; rotate_left; (· (intro wq hq; (try dsimp only at hq); go_simp; first | done | with_reducible rfl)); simp only [Act.put, List.getElem_toArray, List.getElem_cons_zero, List.getElem_cons_succ, List.setIfInBounds_toArray, List.set_cons_zero, List.set_cons_succ])
                (refine' wpAnyH_take (i := 9) rfl (by kernel_rfl) (by kernel_rfl) (by kernel_rfl) (fun _ _ _ h => h) (Or.inl ⟨by rfl, ?_⟩) (by assumption) ?_; rotate_left; (· (intro wq hq; (try dsimp only at hq); go_simp; first | done | with_reducible rfl)); simp only [Act.put, List.getElem_toArray, List.getElem_cons_zero, List.getElem_cons_succ, List.setIfInBounds_toArray, List.set_cons_zero, List.set_cons_succ])
                refine wpAnyH_done (by kernel_rfl) ?_ _
                refine hKm _ _ ?_
                refine hJm _ _ ?_
                exact ⟨_, _, _, _, _, _, _, _, _, _, ⟨_, _, _, _, rfl, rfl, hid hi12, hid hi2, hid hH2⟩, rfl⟩
              exact AllReadyH.nil
            exact AllReadyH.nil
          case rest => as_aux_lemma =>
            obtain ⟨ao1, cap1, ao2, cap2, rfl, rfl, hi1, hi2, hZc⟩ := hcut
            replace hZ := hZc
            clear hZc hw1 hw2
            obtain ⟨W6, hW6⟩ : ∃ W6, W6 = wc := ⟨_, rfl⟩
            rw [← hW6] at hi1 hi2 hZ ⊢
            clear hW6
            go_wp2
            go_loopw [12] (fun ii wr => ∃ i : Nat, i ≤ L1.length ∧ ii = .int .i64 (i : Int) ∧ Hid (LwZ w A5 lo1 c1 L1 lo2 c2 L2 f t va vb wr) ∧ Hid (Below W6.heap.size W6 wr)) (fun ii _ => L1.length - (intOf ii).toNat)
            case atStart => exact ⟨0, Nat.zero_le _, rfl, hZ, hid (Below.refl _ _)⟩
            case round =>
              obtain ⟨i, hiL, rfl, hZr, hbr⟩ := hrel
              obtain ⟨c30, c31, -, -⟩ := hZr.out.q.v3.factsL
              by_cases hlt : i < L1.length
              · have hii : (i : Int) < (L1.length : Int) := by omega
                obtain ⟨o, ho⟩ : ∃ o, L1[i]? = some o := ⟨_, List.getElem?_eq_getElem hlt⟩
                have hko := hk1.out o (List.mem_of_getElem? ho)
                obtain ⟨-, hWo, G, off, hlo, hGl, k0, k1⟩ := hB1.out i o ho
                subst hlo
                have hce : Hid (∀ W, Below w.heap.size w W → W.cell? ⟨G, off + i * 2, none⟩ = some (.int .i64 o.n) ∧ W.cell? ⟨G, off + i * 2 + 1, none⟩ = some (.slice o.ao o.k o.cap)) := fun W hb => ⟨(hb.cell (p := ⟨G, off + i * 2, none⟩) hGl).trans k0, (hb.cell (p := ⟨G, off + i * 2 + 1, none⟩) hGl).trans k1⟩
                obtain ⟨G2, cap2, g2, c2x, hsh, hG2, m0, m1, hlent⟩ := hZr.out.l1.at ho hlt
                have hsh' := hid hsh
                have hcx : Hid (∀ W, Below wr.heap.size wr W → W.cell? ⟨G2, i * 2, none⟩ = some (.int .i64 o.n) ∧ W.cell? ⟨G2, i * 2 + 1, none⟩ = some (.slice (some ⟨g2, 0, none⟩) o.k c2x)) := fun W hb => ⟨(hb.cell (p := ⟨G2, i * 2, none⟩) hG2).trans m0, (hb.cell (p := ⟨G2, i * 2 + 1, none⟩) hG2).trans m1⟩
                have hlent' := hid hlent
                have hWo' := hid hWo
                clear ho k0 k1 hWo hsh m0 m1 hlent
                go_wp2_with fail
                rename_i K14 hK14
                refine wp_region_held_drew (S := fun W' => LwZ w A5 (some ⟨G, off, none⟩) c1 L1 lo2 c2 L2 f t va vb W' ∧ Below wr.heap.size wr W') (by kernel_rfl) ⟨hZr.out.kept (Below.refl _ _).drew, (Below.refl _ _).drew⟩ (fun hHeld => ?_)
                obtain ⟨x0, ex0⟩ : ∃ x, World.drew wr = x := ⟨_, rfl⟩
                rw [ex0] at hHeld ⊢
                clear ex0 c30 c31
                (refine' wpAnyH_take (i := 0) rfl (by kernel_rfl) (by kernel_rfl) (by kernel_rfl) (fun _ _ _ h => h) (Or.inl ⟨by rfl, ?_⟩) (by assumption) ?_; rotate_left; (· (intro wq hq; (try dsimp only at hq); go_simp; first | done | with_reducible rfl)); simp only [Act.put, List.getElem_toArray, List.getElem_cons_zero, List.setIfInBounds_toArray, List.set_cons_zero, List.set_cons_succ])
                (refine' wpAnyH_take (i := 1) (v := (.slice (some ⟨G2, 0, none⟩) L1.length cap2)) rfl (by kernel_rfl) (by kernel_rfl) (by kernel_rfl) (fun _ _ _ h => h) (Or.inl ⟨by rfl, ?_⟩) hHeld ?_; (· (intro wq hq; (try dsimp only at hq); obtain ⟨t0, t1, -, -⟩ := hq.1.q.v7.factsL; rw [hsh'.out] at t0; go_simp; first | done | with_reducible rfl)); simp only [Act.put, List.getElem_toArray, List.getElem_cons_zero, List.getElem_cons_succ, List.setIfInBounds_toArray, List.set_cons_zero, List.set_cons_succ])
                (refine' wpAnyH_take (i := 2) rfl (by kernel_rfl) (by kernel_rfl) (by kernel_rfl) (fun _ _ _ h => h) (Or.inl ⟨by rfl, ?_⟩) (by assumption) ?_; rotate_left; (· (intro wq hq; (try dsimp only at hq); go_simp; first | done | with_reducible rfl)); simp only [Act.put, List.getElem_toArray, List.getElem_cons_zero, List.getElem_cons_succ, List.setIfInBounds_toArray, List.set_cons_zero, List.set_cons_succ])
                (refine' wpAnyH_take (i := 3) rfl (by kernel_rfl) (by kernel_rfl) (by kernel_rfl) (fun _ _ _ h => h) (Or.inl ⟨by rfl, ?_⟩) (by assumption) ?_; rotate_left; (· (intro wq hq; (try dsimp only at hq); go_simp; first | done | with_reducible rfl)); simp only [Act.put, List.getElem_toArray, List.getElem_cons_zero, List.getElem_cons_succ, List.setIfInBounds_toArray, List.set_cons_zero, List.set_cons_succ])
                (refine' wpAnyH_take (i := 4) (v := (.agg #[.int .i64 o.n, .slice (some ⟨g2, 0, none⟩) o.k c2x])) rfl (by kernel_rfl) (by kernel_rfl) (by kernel_rfl) (fun _ _ _ h => h) (Or.inl ⟨by rfl, ?_⟩) hHeld ?_; (· (intro wq hq; (try dsimp only at hq); obtain ⟨t0, t1⟩ := hcx.out wq hq.2; go_simp; first | done | with_reducible rfl)); simp only [Act.put, List.getElem_toArray, List.getElem_cons_zero, List.getElem_cons_succ, List.setIfInBounds_toArray, List.set_cons_zero, List.set_cons_succ])
                (refine' wpAnyH_take (i := 5) rfl (by kernel_rfl) (by kernel_rfl) (by kernel_rfl) (fun _ _ _ h => h) (Or.inl ⟨by rfl, ?_⟩) (by assumption) ?_; rotate_left; (· (intro wq hq; (try dsimp only at hq); go_simp; first | done | with_reducible rfl)); simp only [Act.put, List.getElem_toArray, List.getElem_cons_zero, List.getElem_cons_succ, List.setIfInBounds_toArray, List.set_cons_zero, List.set_cons_succ])
                (refine' wpAnyH_take (i := 6) (v := (.slice (some ⟨G, off, none⟩) L1.length c1)) rfl (by kernel_rfl) (by kernel_rfl) (by kernel_rfl) (fun _ _ _ h => h) (Or.inl ⟨by rfl, ?_⟩) hHeld ?_; (· (intro wq hq; (try dsimp only at hq); obtain ⟨t0, t1, -, -⟩ := hq.1.q.v3.factsL; go_simp; first | done | with_reducible rfl)); simp only [Act.put, List.getElem_toArray, List.getElem_cons_zero, List.getElem_cons_succ, List.setIfInBounds_toArray, List.set_cons_zero, List.set_cons_succ])
                (refine' wpAnyH_take (i := 7) rfl (by kernel_rfl) (by kernel_rfl) (by kernel_rfl) (fun _ _ _ h => h) (Or.inl ⟨by rfl, ?_⟩) (by assumption) ?_; rotate_left; (· (intro wq hq; (try dsimp only at hq); go_simp; first | done | with_reducible rfl)); simp only [Act.put, List.getElem_toArray, List.getElem_cons_zero, List.getElem_cons_succ, List.setIfInBounds_toArray, List.set_cons_zero, List.set_cons_succ])
                (refine' wpAnyH_take (i := 8) rfl (by kernel_rfl) (by kernel_rfl) (by kernel_rfl) (fun _ _ _ h => h) (Or.inl ⟨by rfl, ?_⟩) (by assumption) ?_; rotate_left; (· (intro wq hq; (try dsimp only at hq); go_simp; first | done | with_reducible rfl)); simp only [Act.put, List.getElem_toArray, List.getElem_cons_zero, List.getElem_cons_succ, List.setIfInBounds_toArray, List.set_cons_zero, List.set_cons_succ])
                (refine' wpAnyH_take (i := 9) (v := (.agg #[.int .i64 o.n, .slice o.ao o.k o.cap])) rfl (by kernel_rfl) (by kernel_rfl) (by kernel_rfl) (fun _ _ _ h => h) (Or.inl ⟨by rfl, ?_⟩) hHeld ?_; (· (intro wq hq; (try dsimp only at hq); obtain ⟨t0, t1⟩ := hce.out wq hq.1.q.b; go_simp; first | done | with_reducible rfl)); simp only [Act.put, List.getElem_toArray, List.getElem_cons_zero, List.getElem_cons_succ, List.setIfInBounds_toArray, List.set_cons_zero, List.set_cons_succ])
                refine wpAnyH_ready (rs := [10]) (by kernel_rfl) (by simp) ?_
                refine AllReadyH.cons rfl (fun K hK => ?_) ?_
                · rw [if_pos (by rfl)]
                  go_simp
                  refine Calls.mono (keptB_calls o.n o.ao o.k o.cap g2 c2x o.X (by omega) x0 (LentW.kept hlent'.out hHeld.2) (hWo'.out.kept hHeld.1.q.b)) ?_
                  rintro e x1 ⟨rfl, hbx⟩
                  have hH1 : _ ∧ _ := ⟨hHeld.1.kept hbx, hHeld.2.trans (hbx.mono hHeld.2.size)⟩
                  refine hK.out _ _ hH1 (fun _ => ?_)
                  clear hK K hHeld hbx
                  have hHeld := hH1
                  (refine' wpAnyH_take (i := 11) rfl (by kernel_rfl) (by kernel_rfl) (by kernel_rfl) (fun _ _ _ h => h) (Or.inl ⟨by rfl, ?_⟩) (by assumption) ?_; rotate_left; (· (intro wq hq; (try dsimp only at hq); go_simp; first | done | with_reducible rfl)); simp only [Act.put, List.getElem_toArray, List.getElem_cons_zero, List.getElem_cons_succ, List.setIfInBounds_toArray, List.set_cons_zero, List.set_cons_succ])
                  refine wpAnyH_done (by kernel_rfl) ?_ _
                  refine hK14 _ _ ?_
                  have hZ1 := hid hH1.1
                  have hb1 := hid (hbr.out.trans (hH1.2.mono hbr.out.size))
                  clear hHeld hH1 hK14
                  go_wp2
                  go_roundw
                  case rel => exact ⟨i + 1, hlt, by simp, hZ1, hb1⟩
                  case measure => simp [intOf]; omega
                exact AllReadyH.nil
              · obtain rfl : i = L1.length := by omega
                go_wp2
                go_loopw [13] (fun ii wr => ∃ i : Nat, i ≤ L2.length ∧ ii = .int .i64 (i : Int) ∧ Hid (LwZ w A5 lo1 c1 L1 lo2 c2 L2 f t va vb wr) ∧ Hid (Below W6.heap.size W6 wr)) (fun ii _ => L2.length - (intOf ii).toNat)
                case atStart => exact ⟨0, Nat.zero_le _, rfl, hZr, hbr⟩
                case round =>
                  clear hZr hbr
                  obtain ⟨i, hiL, rfl, hZr, hbr⟩ := hrel
                  obtain ⟨c30, c31, -, -⟩ := hZr.out.q.v3.factsL
                  by_cases hlt : i < L2.length
                  · have hii : (i : Int) < (L2.length : Int) := by omega
                    obtain ⟨o, ho⟩ : ∃ o, L2[i]? = some o := ⟨_, List.getElem?_eq_getElem hlt⟩
                    have hko := hk2.out o (List.mem_of_getElem? ho)
                    obtain ⟨-, hWo, G, off, hlo, hGl, k0, k1⟩ := hB2.out i o ho
                    subst hlo
                    have hce : Hid (∀ W, Below w.heap.size w W → W.cell? ⟨G, off + i * 2, none⟩ = some (.int .i64 o.n) ∧ W.cell? ⟨G, off + i * 2 + 1, none⟩ = some (.slice o.ao o.k o.cap)) := fun W hb => ⟨(hb.cell (p := ⟨G, off + i * 2, none⟩) hGl).trans k0, (hb.cell (p := ⟨G, off + i * 2 + 1, none⟩) hGl).trans k1⟩
                    obtain ⟨G2, cap2, g2, c2x, hsh, hG2, m0, m1, hlent⟩ := hZr.out.l2.at ho hlt
                    have hsh' := hid hsh
                    have hcx : Hid (∀ W, Below wr.heap.size wr W → W.cell? ⟨G2, i * 2, none⟩ = some (.int .i64 o.n) ∧ W.cell? ⟨G2, i * 2 + 1, none⟩ = some (.slice (some ⟨g2, 0, none⟩) o.k c2x)) := fun W hb => ⟨(hb.cell (p := ⟨G2, i * 2, none⟩) hG2).trans m0, (hb.cell (p := ⟨G2, i * 2 + 1, none⟩) hG2).trans m1⟩
                    have hlent' := hid hlent
                    have hWo' := hid hWo
                    clear ho k0 k1 hWo hsh m0 m1 hlent
                    go_wp2_with fail
                    rename_i K19 hK19
                    refine wp_region_held_drew (S := fun W' => LwZ w A5 lo1 c1 L1 (some ⟨G, off, none⟩) c2 L2 f t va vb W' ∧ Below wr.heap.size wr W') (by kernel_rfl) ⟨hZr.out.kept (Below.refl _ _).drew, (Below.refl _ _).drew⟩ (fun hHeld => ?_)
                    obtain ⟨x0, ex0⟩ : ∃ x, World.drew wr = x := ⟨_, rfl⟩
                    rw [ex0] at hHeld ⊢
                    clear ex0 c30 c31
                    (refine' wpAnyH_take (i := 0) rfl (by kernel_rfl) (by kernel_rfl) (by kernel_rfl) (fun _ _ _ h => h) (Or.inl ⟨by rfl, ?_⟩) (by assumption) ?_; rotate_left; (· (intro wq hq; (try dsimp only at hq); go_simp; first | done | with_reducible rfl)); simp only [Act.put, List.getElem_toArray, List.getElem_cons_zero, List.setIfInBounds_toArray, List.set_cons_zero, List.set_cons_succ])
                    (refine' wpAnyH_take (i := 1) (v := (.slice (some ⟨G2, 0, none⟩) L2.length cap2)) rfl (by kernel_rfl) (by kernel_rfl) (by kernel_rfl) (fun _ _ _ h => h) (Or.inl ⟨by rfl, ?_⟩) hHeld ?_; (· (intro wq hq; (try dsimp only at hq); obtain ⟨t0, t1, -, -⟩ := hq.1.q.v7.factsL; rw [hsh'.out] at t1; go_simp; first | done | with_reducible rfl)); simp only [Act.put, List.getElem_toArray, List.getElem_cons_zero, List.getElem_cons_succ, List.setIfInBounds_toArray, List.set_cons_zero, List.set_cons_succ])
                    (refine' wpAnyH_take (i := 2) rfl (by kernel_rfl) (by kernel_rfl) (by kernel_rfl) (fun _ _ _ h => h) (Or.inl ⟨by rfl, ?_⟩) (by assumption) ?_; rotate_left; (· (intro wq hq; (try dsimp only at hq); go_simp; first | done | with_reducible rfl)); simp only [Act.put, List.getElem_toArray, List.getElem_cons_zero, List.getElem_cons_succ, List.setIfInBounds_toArray, List.set_cons_zero, List.set_cons_succ])
                    (refine' wpAnyH_take (i := 3) rfl (by kernel_rfl) (by kernel_rfl) (by kernel_rfl) (fun _ _ _ h => h) (Or.inl ⟨by rfl, ?_⟩) (by assumption) ?_; rotate_left; (· (intro wq hq; (try dsimp only at hq); go_simp; first | done | with_reducible rfl)); simp only [Act.put, List.getElem_toArray, List.getElem_cons_zero, List.getElem_cons_succ, List.setIfInBounds_toArray, List.set_cons_zero, List.set_cons_succ])
                    (refine' wpAnyH_take (i := 4) (v := (.agg #[.int .i64 o.n, .slice (some ⟨g2, 0, none⟩) o.k c2x])) rfl (by kernel_rfl) (by kernel_rfl) (by kernel_rfl) (fun _ _ _ h => h) (Or.inl ⟨by rfl, ?_⟩) hHeld ?_; (· (intro wq hq; (try dsimp only at hq); obtain ⟨t0, t1⟩ := hcx.out wq hq.2; go_simp; first | done | with_reducible rfl)); simp only [Act.put, List.getElem_toArray, List.getElem_cons_zero, List.getElem_cons_succ, List.setIfInBounds_toArray, List.set_cons_zero, List.set_cons_succ])
                    (refine' wpAnyH_take (i := 5) rfl (by kernel_rfl) (by kernel_rfl) (by kernel_rfl) (fun _ _ _ h => h) (Or.inl ⟨by rfl, ?_⟩) (by assumption) ?_; rotate_left; (· (intro wq hq; (try dsimp only at hq); go_simp; first | done | with_reducible rfl)); simp only [Act.put, List.getElem_toArray, List.getElem_cons_zero, List.getElem_cons_succ, List.setIfInBounds_toArray, List.set_cons_zero, List.set_cons_succ])
                    (refine' wpAnyH_take (i := 6) (v := (.slice (some ⟨G, off, none⟩) L2.length c2)) rfl (by kernel_rfl) (by kernel_rfl) (by kernel_rfl) (fun _ _ _ h => h) (Or.inl ⟨by rfl, ?_⟩) hHeld ?_; (· (intro wq hq; (try dsimp only at hq); obtain ⟨t0, t1, -, -⟩ := hq.1.q.v3.factsL; go_simp; first | done | with_reducible rfl)); simp only [Act.put, List.getElem_toArray, List.getElem_cons_zero, List.getElem_cons_succ, List.setIfInBounds_toArray, List.set_cons_zero, List.set_cons_succ])
                    (refine' wpAnyH_take (i := 7) rfl (by kernel_rfl) (by kernel_rfl) (by kernel_rfl) (fun _ _ _ h => h) (Or.inl ⟨by rfl, ?_⟩) (by assumption) ?_; rotate_left; (· (intro wq hq; (try dsimp only at hq); go_simp; first | done | with_reducible rfl)); simp only [Act.put, List.getElem_toArray, List.getElem_cons_zero, List.getElem_cons_succ, List.setIfInBounds_toArray, List.set_cons_zero, List.set_cons_succ])
                    (refine' wpAnyH_take (i := 8) rfl (by kernel_rfl) (by kernel_rfl) (by kernel_rfl) (fun _ _ _ h => h) (Or.inl ⟨by rfl, ?_⟩) (by assumption) ?_; rotate_left; (· (intro wq hq; (try dsimp only at hq); go_simp; first | done | with_reducible rfl)); simp only [Act.put, List.getElem_toArray, List.getElem_cons_zero, List.getElem_cons_succ, List.setIfInBounds_toArray, List.set_cons_zero, List.set_cons_succ])
                    (refine' wpAnyH_take (i := 9) (v := (.agg #[.int .i64 o.n, .slice o.ao o.k o.cap])) rfl (by kernel_rfl) (by kernel_rfl) (by kernel_rfl) (fun _ _ _ h => h) (Or.inl ⟨by rfl, ?_⟩) hHeld ?_; (· (intro wq hq; (try dsimp only at hq); obtain ⟨t0, t1⟩ := hce.out wq hq.1.q.b; go_simp; first | done | with_reducible rfl)); simp only [Act.put, List.getElem_toArray, List.getElem_cons_zero, List.getElem_cons_succ, List.setIfInBounds_toArray, List.set_cons_zero, List.set_cons_succ])
                    refine wpAnyH_ready (rs := [10]) (by kernel_rfl) (by simp) ?_
                    refine AllReadyH.cons rfl (fun K hK => ?_) ?_
                    · rw [if_pos (by rfl)]
                      go_simp
                      refine Calls.mono (keptB_calls o.n o.ao o.k o.cap g2 c2x o.X (by omega) x0 (LentW.kept hlent'.out hHeld.2) (hWo'.out.kept hHeld.1.q.b)) ?_
                      rintro e x1 ⟨rfl, hbx⟩
                      have hH1 : _ ∧ _ := ⟨hHeld.1.kept hbx, hHeld.2.trans (hbx.mono hHeld.2.size)⟩
                      refine hK.out _ _ hH1 (fun _ => ?_)
                      clear hK K hHeld hbx
                      have hHeld := hH1
                      (refine' wpAnyH_take (i := 11) rfl (by kernel_rfl) (by kernel_rfl) (by kernel_rfl) (fun _ _ _ h => h) (Or.inl ⟨by rfl, ?_⟩) (by assumption) ?_; rotate_left; (· (intro wq hq; (try dsimp only at hq); go_simp; first | done | with_reducible rfl)); simp only [Act.put, List.getElem_toArray, List.getElem_cons_zero, List.getElem_cons_succ, List.setIfInBounds_toArray, List.set_cons_zero, List.set_cons_succ])
                      refine wpAnyH_done (by kernel_rfl) ?_ _
                      refine hK19 _ _ ?_
                      have hZ1 := hid hH1.1
                      have hb1 := hid (hbr.out.trans (hH1.2.mono hbr.out.size))
                      clear hHeld hH1 hK19
                      go_wp2
                      go_roundw
                      case rel => exact ⟨i + 1, hlt, by simp, hZ1, hb1⟩
                      case measure => simp [intOf]; omega
                    exact AllReadyH.nil
                  · obtain rfl : i = L2.length := by omega
                    obtain ⟨c50, c51, -, -⟩ := hZr.out.q.v5.factsL
                    go_wp2_with fail
                    refine Calls.mono (hr1.out wr hZr.out.q.b) ?_
                    rintro e y1 ⟨w1, rfl, ow1, qb1⟩
                    obtain ⟨aw1, cw1, rfl, hI1⟩ := ints_row ow1
                    replace hZr := hid (hZr.out.kept qb1)
                    replace hI1 := hid hI1
                    have hj1 := hid (IntsAt.kept (hi1.out.kept (Nat.le_refl _) hbr.out) (Nat.le_refl _) qb1)
                    have hj2 := hid (IntsAt.kept (hi2.out.kept (Nat.le_refl _) hbr.out) (Nat.le_refl _) qb1)
                    clear ow1 qb1 c30 c31 c50 c51 hi1 hi2 hbr
                    go_wp2_with fail
                    refine Calls.mono (sameI_calls R1 _ rfl (by have := hR1l.out; omega) ao1 aw1 cap1 cw1 y1 hj1.out hI1.out) ?_
                    rintro e y2 ⟨rfl, qb2⟩
                    replace hZr := hid (hZr.out.kept qb2)
                    replace hj2 := hid (IntsAt.kept hj2.out (Nat.le_refl _) qb2)
                    clear qb2 hj1 hI1
                    obtain ⟨c30, c31, -, -⟩ := hZr.out.q.v3.factsL
                    obtain ⟨c50, c51, -, -⟩ := hZr.out.q.v5.factsL
                    go_wp2_with fail
                    refine Calls.mono (hr2.out y2 hZr.out.q.b) ?_
                    rintro e y3 ⟨w2, rfl, ow2, qb3⟩
                    obtain ⟨aw2, cw2, rfl, hI2⟩ := ints_row ow2
                    replace hZr := hid (hZr.out.kept qb3)
                    replace hI2 := hid hI2
                    replace hj2 := hid (IntsAt.kept hj2.out (Nat.le_refl _) qb3)
                    clear ow2 qb3 c30 c31 c50 c51
                    go_wp2_with fail
                    refine Calls.mono (sameI_calls R2 _ rfl (by have := hR2l.out; omega) ao2 aw2 cap2 cw2 y3 hj2.out hI2.out) ?_
                    rintro e y4 ⟨rfl, qb4⟩
                    replace hZr := hid (hZr.out.kept qb4)
                    clear qb4 hj2 hI2
                    go_wp2_with fail
                    refine Calls.mono (hAw.out y4 hZr.out.q.b) ?_
                    rintro e y5 ⟨rfl, qb5⟩
                    have hfin := hid (hZr.out.q.b.trans (qb5.mono hZr.out.q.b.size))
                    clear qb5
                    go_wp2
                    go_ret
                    exact ⟨rfl, hfin.out⟩
end Go.Proofs.YtomeaejjdjidlaaDoor
