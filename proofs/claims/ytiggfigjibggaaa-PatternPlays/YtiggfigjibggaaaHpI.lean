/-
  A pattern: Learn, Guess, Size.
-/
import Derived.Test.YtiggfigjibggaaaHpH
namespace Go.Proofs.Ytiggfigjibggaaa
open Go.RowKit Go.Shelf Go.Maps

/-- What Learn at a place leaves. -/
def LeP (pb : Nat) (S : Nat → Prop) (room came : Nat) (L : List Ent) (r n : ByteArray) (p : Nat) (w : World) (e : Ending) (w' : World) : Prop :=
  e = .returned (.int .i64 0) ∧ ∃ came' L', Hid (Lrn room came L r n p came' L') ∧ Hid (PatM w' pb (fun q => S q ∨ w.heap.size ≤ q) room came' L') ∧ Hid (Lap S w w')
theorem learn_no (pb : Nat) (r n : ByteArray) (p : Int) (hp : p < 0) (w : World) :
    Calls Try.prog 10 #[ptB pb, .string r, .string n, .int .i64 p] w fun e w' => e = .returned (.int .i64 2) ∧ w' = w := by
  go_enter Try.func10, Try.ntmps10
  go_wp2
  go_ret
  exact ⟨rfl, rfl⟩
theorem asc_upd {A B : List Ent} {e : Ent} {p : Nat} (h : (A ++ e :: B).Pairwise (fun x y => x.a < y.a)) : (A ++ upd e p :: B).Pairwise (fun x y => x.a < y.a) := by
  rw [List.pairwise_append, List.pairwise_cons] at h ⊢
  refine ⟨h.1, ⟨fun z hz => by rw [upd_a]; exact h.2.1.1 z hz, h.2.1.2⟩, fun x hx y hy => ?_⟩
  rcases List.mem_cons.1 hy with rfl | hy
  · rw [upd_a]; exact h.2.2 x hx e (by simp)
  · exact h.2.2 x hx y (by simp [hy])
theorem PatI.mem {w : World} {pb mb : Nat} {v : Value} {H : HpL} {S : Nat → Prop} {room came : Nat} {L : List Ent} (h : PatI w pb mb v H S room came L) {e : Ent} : e ∈ L ↔ ∃ x ∈ H, x.2 = e := by
  rw [← h.pm.mem_iff, List.mem_map]
set_option maxRecDepth 10000 in
set_option maxHeartbeats 8000000 in
theorem learn_yes (pb mb : Nat) (v : Value) (H : HpL) (S : Nat → Prop) (room came : Nat) (L : List Ent) (i : Nat) (x : Nat × Ent) (hi : Hid (H[i]? = some x)) (p : Nat) (hp : p ≤ 9223372036854775807) (w : World) (hP : Hid (PatI w pb mb v H S room came L)) :
    Calls Try.prog 10 #[ptB pb, .string x.2.r, .string x.2.n, .int .i64 (p : Int)] w fun e w' => LeP pb S room came L x.2.r x.2.n p w e w' := by
  have hxm := hid (List.mem_of_getElem? hi.out)
  have hlook := hP.out.mp.look_yes hxm.out
  have c2 := hP.out.hv.box.cell 2
  simp only [patC, List.getElem?_toArray, List.getElem?_cons_succ, List.getElem?_cons_zero] at c2
  have hin := hid (List.getElem?_eq_some_iff.1 hi.out).1
  have hp0 : ¬ (p : Int) < 0 := by omega
  have hok := hid (hP.out.ok x.2 (hP.out.mem.2 ⟨x, hxm.out, rfl⟩)).2
  have hent := hid (hP.out.hv.ent i x hi.out)
  have hmet := hid (met_calls x.1 x.2 (i : Int) p hok.out.2.2 w hent.out)
  obtain ⟨n, hn⟩ : ∃ n, Hid (H.length = n) := ⟨_, rfl⟩
  have hrow := hP.out.hv.row
  rw [hn.out] at hrow
  obtain ⟨g, cap, rfl⟩ := own_someP hrow (by have := hn.out; have := hin.out; omega)
  have hrow := hid hrow
  have hni : (n : Int) ≤ 4096 := by have := hn.out; have := hP.out.len; have := hP.out.ln; have := hP.out.rm; omega
  obtain ⟨y, hy⟩ : ∃ y : Nat × Ent, Hid (y = (x.1, upd x.2 p)) := ⟨_, rfl⟩
  have hsp := hid (set_perm (y := y) hi.out)
  have hlook : (Instr.lookup 61 (.map (some mb)) (.agg #[.string x.2.r, .string x.2.n]) true).run Try.prog w = .ok (.tuple #[ptB x.1, .bool true]) w := hlook
  obtain ⟨xb, xe⟩ := x
  dsimp only at *
  go_enter Try.func10, Try.ntmps10
  go_wp2_with fail
  refine Calls.mono hmet.out ?_
  rintro e w1 ⟨rfl, hb1, hl1⟩
  have hb1 := hid hb1
  have hl1 := hid hl1
  -- the pattern behind it: the entry renewed
  have hne : ∀ (j : Nat) (z : Nat × Ent), H[j]? = some z → j ≠ i → z.1 ≠ xb := fun j z hz hji e => hji (nd_inj hP.out.hv.nd hz hi.out e)
  have hgb := hid (fun (e : g = xb) => own_neP hrow.out hent.out (by decide) (by simp [Value.ownBlock, e]))
  have hpb := hid (show pb ≠ xb from at_neP hP.out.hv.box hent.out (by decide))
  have hm1 := hid (show HM w1 pb (room : Int) (came : Int) (.map (some mb)) g cap n (H.set i y) i from by
    refine ⟨hl1.out.at hP.out.hv.box hpb.out, by simp [hn.out], ⟨_, own_onP hrow.out (fun q hq _ hl => hl1.out.block q hl (fun e => ?_)), fun j z hji hz => ?_⟩, fun j z hz => ?_, ?_⟩
    · have hq : g = q := by simpa [Value.ownBlock] using hq
      exact hgb.out (hq.trans e)
    · rw [List.getElem?_set_ne (fun e => hji e.symm)] at hz
      rw [List.getElem?_map, hz]
      rfl
    · by_cases hji : j = i
      · subst hji
        rw [List.getElem?_set_self hin.out] at hz
        cases hz
        rw [hy.out]
        exact ⟨_, hb1.out, fun _ => rfl⟩
      · rw [List.getElem?_set_ne (fun e => hji e.symm)] at hz
        exact ⟨_, hl1.out.at (hP.out.hv.ent j z hz) (hne j z hz hji), fun _ => rfl⟩
    · have e1 : (H.set i y).map (·.1) = H.map (·.1) := by
        apply List.ext_getElem?
        intro j
        rw [List.getElem?_map, List.getElem?_map]
        by_cases hji : j = i
        · subst hji
          rw [List.getElem?_set_self hin.out, hi.out, hy.out]
          rfl
        · rw [List.getElem?_set_ne (fun e => hji e.symm)]
      rw [e1]
      exact hP.out.hv.nd)
  have hri := hid (hp_set hP.out.hp i y)
  have hyi : Hid ((H.set i y)[i]? = some y) := List.getElem?_set_self hin.out
  have hy1 : y.1 = xb := by rw [hy.out]
  have hcg : w1.cell? ⟨g, i, none⟩ = some (ptB xb) := by
    have h1 := own_onP (W' := w1) hrow.out (fun q hq _ hl => hl1.out.block q hl (fun e => by
      have hq : g = q := by simpa [Value.ownBlock] using hq
      exact hgb.out (hq.trans e)))
    rw [h1.cellAt i (by have := hn.out; have := hin.out; omega), List.getElem?_map, hi.out]
    rfl
  have hM1 := hid (show MpM w1 mb (H.set i y) from by
    have h1 := (hP.out.mp.kept (w' := w1) (hl1.out.block mb hP.out.mp.lt (fun e => hP.out.mp.ne hent.out e.symm))).perm hsp.out.1.symm
    exact (h1.renew (y := y) (by rw [hy.out]) (by rw [hy.out]; exact upd_r _ _) (by rw [hy.out]; exact upd_n _ _)).perm hsp.out.2)
  have hat : w1.drew.cell? ⟨xb, 5, none⟩ = some (.int .i64 (i : Int)) := hb1.out.drew.cell 5
  have hme := hid (mend_calls pb (room : Int) (came : Int) (.map (some mb)) g cap n (by omega) (H.set i y) i y hyi hri w1.drew (hid (hm1.out.kept (w' := w1.drew) (below_drewN _ _ 1))) (by rw [hy1]; exact hcg))
  clear hmet hlook hcg
  go_wp2_with fail
  refine wp_region_held_drew (S := fun _ => True) (by kernel_rfl) trivial (fun hH => ?_)
  (refine' wpAnyH_take (i := 0) rfl (by kernel_rfl) (by kernel_rfl) (by kernel_rfl) (fun _ _ _ h => h) (Or.inl ⟨by rfl, ?_⟩) (by assumption) ?_; rotate_left; (· (intro wq hq; (try dsimp only at hq); go_simp; first | done | with_reducible rfl)); simp only [Act.put, List.getElem_toArray, List.getElem_cons_zero, List.setIfInBounds_toArray, List.set_cons_zero, List.set_cons_succ])
  (refine' wpAnyH_take (i := 1) rfl (by kernel_rfl) (by kernel_rfl) (by kernel_rfl) (fun _ _ _ h => h) (Or.inl ⟨by rfl, ?_⟩) (by assumption) ?_; rotate_left; (· (intro wq hq; (try dsimp only at hq); go_simp; first | done | with_reducible rfl)); simp only [Act.put, List.getElem_toArray, List.getElem_cons_zero, List.getElem_cons_succ, List.setIfInBounds_toArray, List.set_cons_zero, List.set_cons_succ])
  (refine' wpAnyH_take (i := 2) rfl (by kernel_rfl) (by kernel_rfl) (by kernel_rfl) (fun _ _ _ h => h) (Or.inl ⟨by rfl, ?_⟩) (by assumption) ?_; rotate_left; (· (intro wq hq; (try dsimp only at hq); go_simp; first | done | with_reducible rfl)); simp only [Act.put, List.getElem_toArray, List.getElem_cons_zero, List.getElem_cons_succ, List.setIfInBounds_toArray, List.set_cons_zero, List.set_cons_succ])
  (refine' wpAnyH_take (i := 3) rfl (by kernel_rfl) (by kernel_rfl) (by kernel_rfl) (fun _ _ _ h => h) (Or.inl ⟨by rfl, ?_⟩) (by assumption) ?_; rotate_left; (· (intro wq hq; (try dsimp only at hq); go_simp; first | done | with_reducible rfl)); simp only [Act.put, List.getElem_toArray, List.getElem_cons_zero, List.getElem_cons_succ, List.setIfInBounds_toArray, List.set_cons_zero, List.set_cons_succ])
  (refine' wpAnyH_take (i := 4) rfl (by kernel_rfl) (by kernel_rfl) (by kernel_rfl) (fun _ _ _ h => h) (Or.inl ⟨by rfl, ?_⟩) (by assumption) ?_; rotate_left; (· (intro wq hq; (try dsimp only at hq); go_simp; first | done | with_reducible rfl)); simp only [Act.put, List.getElem_toArray, List.getElem_cons_zero, List.getElem_cons_succ, List.setIfInBounds_toArray, List.set_cons_zero, List.set_cons_succ])
  (refine' wpAnyH_take (i := 5) rfl (by kernel_rfl) (by kernel_rfl) (by kernel_rfl) (fun _ _ _ h => h) (Or.inl ⟨by rfl, ?_⟩) (by assumption) ?_; rotate_left; (· (intro wq hq; (try dsimp only at hq); go_simp; first | done | with_reducible rfl)); simp only [Act.put, List.getElem_toArray, List.getElem_cons_zero, List.getElem_cons_succ, List.setIfInBounds_toArray, List.set_cons_zero, List.set_cons_succ])
  refine wpAnyH_ready (rs := [6]) (by kernel_rfl) (by simp) ?_
  refine AllReadyH.cons rfl (fun K hK => ?_) ?_
  rotate_left
  · exact AllReadyH.nil
  rw [if_pos (by rfl)]
  go_simp
  refine hK _ _ trivial (fun hH2 => ?_)
  clear hK K hat
  refine wpAnyH_ready (rs := [7]) (by kernel_rfl) (by simp) ?_
  refine AllReadyH.cons rfl (fun K hK => ?_) ?_
  rotate_left
  · exact AllReadyH.nil
  rw [if_pos (by rfl)]
  go_simp
  refine Calls.mono hme.out ?_
  rintro e w2 ⟨rfl, H', hp', hi', hm2, hl2⟩
  refine hK _ _ trivial (fun hH3 => ?_)
  clear hK K hme hH hH2 hH3
  refine wpAnyH_done (by kernel_rfl) ?_ _
  have hpm1 : (xe :: (H.eraseIdx i).map (fun z : Nat × Ent => z.2)).Perm L := (hsp.out.1.symm.map (fun z : Nat × Ent => z.2)).trans hP.out.pm
  obtain ⟨A, B, hAB, hR⟩ := perm_out hpm1
  have hM2 := hid (show MpM w2 mb H' from ((hM1.out.kept (w' := w1.drew) rfl).kept (hl2.out.block mb hM1.out.lt (fun hz => by
    rcases hz with e | ⟨z, hz, e⟩
    · obtain ⟨D, ⟨es, clock, h1, -⟩, -⟩ := hP.out.mp
      rcases hrow.out.2 with ⟨h2, -⟩ | ⟨g', cap', cur, h2, -, h3, -⟩
      · cases h2
      · cases h2
        rw [← e, h1] at h3
        cases h3
    · obtain ⟨k, hk, rfl⟩ := List.mem_iff_getElem.1 hz
      obtain ⟨q, hq, -⟩ := hm1.out.ent k _ (List.getElem?_eq_getElem hk)
      exact hM1.out.ne hq e))).perm hp'.out)
  have hmemS := hid (fun (z : Nat × Ent) (hz : z ∈ H.set i y) => (show S z.1 from by
    rcases List.mem_or_eq_of_mem_set hz with hz | rfl
    · exact hP.out.own z.1 (.inl (.inr (.inr ⟨z, hz, rfl⟩)))
    · rw [hy1]
      exact hP.out.own xb (.inl (.inr (.inr ⟨(xb, xe), hxm.out, rfl⟩)))))
  have hgS := hid (hP.out.own g (.inl (.inr (.inl rfl))))
  have hfin := hid (show PatM w2 pb (fun q => S q ∨ w.heap.size ≤ q) room came (A ++ upd xe p :: B) from by
    refine ⟨mb, _, H', hm2.out.hv, hi'.out, hM2.out, ?_, asc_upd (by rw [← hAB]; exact hP.out.asc), ?_, ?_, hP.out.rm, ?_⟩
    · have h1 := (hp'.out.trans hsp.out.2).map (fun z : Nat × Ent => z.2)
      rw [List.map_cons, hy.out] at h1
      exact h1.trans ((hR.cons (upd xe p)).trans List.perm_middle.symm)
    · intro z hz
      rcases List.mem_append.1 hz with hz | hz
      · exact hP.out.ok z (by rw [hAB]; exact List.mem_append_left _ hz)
      · rcases List.mem_cons.1 hz with rfl | hz
        · refine ⟨?_, upd_ok hok.out hp⟩
          rw [upd_a]
          exact (hP.out.ok xe (by rw [hAB]; simp)).1
        · exact hP.out.ok z (by rw [hAB]; exact List.mem_append_right _ (List.mem_cons_of_mem _ hz))
    · have := hP.out.ln
      rw [hAB] at this
      simp at this ⊢
      omega
    · intro q hq
      rcases hq with (rfl | hq | ⟨z, hz, rfl⟩) | rfl
      · exact .inl (hP.out.own q (.inl (.inl rfl)))
      · obtain rfl : g = q := by simpa [Value.ownBlock] using hq
        exact .inl hgS.out
      · exact .inl (hmemS.out z (hp'.out.mem_iff.1 hz))
      · exact .inl (hP.out.own q (.inr rfl)))
  have hlap := hid (show Lap S w w2 from ((hl1.out.mono (Y := S) (fun q _ e => by
    have e : q = xb := e
    rw [e]
    exact hP.out.own xb (.inl (.inr (.inr ⟨(xb, xe), hxm.out, rfl⟩))))).drew).trans hl2.out (fun q _ hz => by
      rcases hz with rfl | ⟨z, hz, rfl⟩
      · exact hgS.out
      · exact hmemS.out z hz))
  have hlrn := hid (show Lrn room came L xe.r xe.n p came (A ++ upd xe p :: B) from .inl ⟨A, xe, B, hAB, rfl, rfl, rfl, rfl⟩)
  go_wp2
  go_ret
  exact ⟨rfl, came, _, hlrn, hfin, hlap⟩
end Go.Proofs.Ytiggfigjibggaaa
