/-
  A pattern: met, makeRoom, Learn.
-/
import Derived.Test.YtiggfigjibggaaaHpG
namespace Go.Proofs.Ytiggfigjibggaaa
open Go.RowKit Go.Shelf Go.Maps

/-- An entry that was met at a place. -/
def upd (e : Ent) (p : Nat) : Ent := if e.p = p then { e with h := min (e.h + 1) 4611686018427387904 } else { e with p := p, h := 1 }
theorem upd_a (e : Ent) (p : Nat) : (upd e p).a = e.a := by unfold upd; split <;> rfl
theorem upd_r (e : Ent) (p : Nat) : (upd e p).r = e.r := by unfold upd; split <;> rfl
theorem upd_n (e : Ent) (p : Nat) : (upd e p).n = e.n := by unfold upd; split <;> rfl
theorem upd_p (e : Ent) (p : Nat) : (upd e p).p = p := by unfold upd; split <;> simp_all
theorem upd_ok {e : Ent} (h : EnOk e) {p : Nat} (hp : p ≤ 9223372036854775807) : EnOk (upd e p) := by
  refine ⟨by rw [upd_r, upd_n]; exact h.1, by rw [upd_p]; exact hp, ?_⟩
  unfold upd
  split
  · exact Nat.min_le_right _ _
  · show 1 ≤ _; omega
set_option maxRecDepth 10000 in
set_option maxHeartbeats 4000000 in
theorem met_calls (b : Nat) (e : Ent) (q : Int) (p : Nat) (hh : e.h ≤ 4611686018427387904) (w : World) (hb : At w b (entC e q) 78) :
    Calls Try.prog 26 #[ptB b, .int .i64 (p : Int)] w fun en w' => en = .returned (.tuple #[]) ∧ At w' b (entC (upd e p) q) 78 ∧ Lap (fun k => k = b) w w' := by
  have c2 := hb.cell 2
  have c3 := hb.cell 3
  have f2 := hb.frozen 2
  have f3 := hb.frozen 3
  have hb' := hid hb
  obtain ⟨er, en, ep, eh, ea⟩ := e
  simp only [entC, List.getElem?_toArray, List.getElem?_cons_succ, List.getElem?_cons_zero] at c2 c3
  have hhi : (eh : Int) ≤ 4611686018427387904 := by dsimp only at hh; omega
  by_cases he : ep = p
  · subst he
    have hfin := hid (show At (w.setCell ⟨b, 3, none⟩ (.int .i64 (min ((eh : Int) + 1) 4611686018427387904))) b (entC (upd ⟨er, en, ep, eh, ea⟩ ep) q) 78 from by
      have h1 := hb'.out.set 3 (.int .i64 (min ((eh : Int) + 1) 4611686018427387904))
      have e1 : (entC ⟨er, en, ep, eh, ea⟩ q).setIfInBounds 3 (.int .i64 (min ((eh : Int) + 1) 4611686018427387904)) = entC (upd ⟨er, en, ep, eh, ea⟩ ep) q := by
        have e2 : ((min (eh + 1) 4611686018427387904 : Nat) : Int) = min ((eh : Int) + 1) 4611686018427387904 := by omega
        simp [entC, upd, ← e2]
      rw [e1] at h1
      exact h1)
    have hlap := hid ((Lap.refl (fun k => k = b) w).setCell ⟨b, 3, none⟩ rfl (.int .i64 (min ((eh : Int) + 1) 4611686018427387904)))
    clear hb hh
    go_enter Try.func26, Try.ntmps26
    go_wp2
    go_end0
    exact ⟨rfl, hfin.out, hlap.out⟩
  · have he' : ((p : Int) == (ep : Int)) = false := by simp; omega
    have hb2 := hb.set 2 (.int .i64 (p : Int))
    have d3 := hb2.cell 3
    have g3 := hb2.frozen 3
    simp [entC] at d3
    have hfin := hid (show At ((w.setCell ⟨b, 2, none⟩ (.int .i64 (p : Int))).setCell ⟨b, 3, none⟩ (.int .i64 1)) b (entC (upd ⟨er, en, ep, eh, ea⟩ p) q) 78 from by
      have h1 := hb2.set 3 (.int .i64 1)
      have e1 : ((entC ⟨er, en, ep, eh, ea⟩ q).setIfInBounds 2 (.int .i64 (p : Int))).setIfInBounds 3 (.int .i64 1) = entC (upd ⟨er, en, ep, eh, ea⟩ p) q := by
        simp [entC, upd, he]
      rw [e1] at h1
      exact h1)
    have hlap := hid (((Lap.refl (fun k => k = b) w).setCell ⟨b, 2, none⟩ rfl (.int .i64 (p : Int))).setCell ⟨b, 3, none⟩ rfl (.int .i64 1))
    clear hb hh hb2
    go_enter Try.func26, Try.ntmps26
    go_wp2
    (try simp only [Exit.inBlock, Exit.then])
    refine bodyPost_ret (results_none rfl _ _ _) rfl ?_
    exact ⟨rfl, hfin.out, hlap.out⟩

/-- What makeRoom leaves of the entries. -/
def Rmd (room : Nat) (L L' : List Ent) : Prop := (L.length < room ∧ L' = L) ∨ (L.length = room ∧ ∃ A f B, L = A ++ f :: B ∧ (∀ z ∈ L, ¬ ahd z f) ∧ L' = A ++ B)
theorem perm_out {L : List Ent} {R : List Ent} {f : Ent} (h : (f :: R).Perm L) : ∃ A B, L = A ++ f :: B ∧ R.Perm (A ++ B) := by
  obtain ⟨A, B, rfl⟩ := List.append_of_mem (h.mem_iff.1 (List.mem_cons_self ..))
  exact ⟨A, B, rfl, (h.trans List.perm_middle).cons_inv⟩
set_option maxRecDepth 10000 in
set_option maxHeartbeats 8000000 in
theorem makeRoom_calls (pb mb : Nat) (v : Value) (H : HpL) (S : Nat → Prop) (room came : Nat) (L : List Ent) (h0 : 0 < room) (w : World) (hP : Hid (PatI w pb mb v H S room came L)) :
    Calls Try.prog 28 #[ptB pb] w fun e w' => e = .returned (.tuple #[]) ∧ ∃ v' H' L', Hid (Rmd room L L') ∧ Hid (PatI w' pb mb v' H' S room came L') ∧ Hid (∀ x ∈ H', x ∈ H) ∧ Hid (Lap S w w') := by
  have c0 := hP.out.hv.box.cell 0
  have c2 := hP.out.hv.box.cell 2
  simp only [patC, List.getElem?_toArray, List.getElem?_cons_succ, List.getElem?_cons_zero] at c0 c2
  obtain ⟨n, hn⟩ : ∃ n, Hid (H.length = n) := ⟨_, rfl⟩
  have hnL : Hid (L.length = n) := by show _ = _; rw [← hP.out.len]; exact hn.out
  have hlen := fun (m : Nat) (ty : TypeId) => (hP.out.mp.kept (w' := w.drewN m) rfl).len ty
  rw [hn.out] at hlen
  have hrm : (room : Int) ≤ 4096 := by have := hP.out.rm; omega
  have hnr : n ≤ room := by have := hP.out.ln; have := hnL.out; omega
  have hni : (n : Int) ≤ 4096 := by omega
  by_cases hlt : n < room
  · have hne : ((n : Int) == (room : Int)) = false := by simp; omega
    go_enter Try.func28, Try.ntmps28
    go_wp2_with fail
    go_quiet (fail)
    go_wp2
    go_end0
    refine ⟨rfl, v, H, L, hid (.inl ⟨by rw [hnL.out]; exact hlt, rfl⟩), hid (hP.out.kept (fun q _ hl => (below_drewN w.heap.size w nq).block q hl)), hid (fun x h => h), hid (Lap.of (below_drewN _ _ _))⟩
  · obtain rfl : n = room := by omega
    have hne : ((n : Int) == (n : Int)) = true := by simp
    obtain ⟨f, hf⟩ : ∃ f, Hid (H[0]? = some f) := ⟨H[0]'(by have := hn.out; omega), List.getElem?_eq_getElem _⟩
    go_enter Try.func28, Try.ntmps28
    go_wp2_with fail
    go_quiet (fail)
    go_wp2_with fail
    obtain ⟨W0, hW0⟩ : ∃ W, w.drewN nq = W := ⟨_, rfl⟩
    rw [hW0]
    have hP0 := hid (show PatI W0 pb mb v H S n came L by rw [← hW0]; exact hP.out.kept (fun q _ hl => (below_drewN w.heap.size w nq).block q hl))
    have hL0 := hid (show Below w.heap.size w W0 by rw [← hW0]; exact below_drewN _ _ _)
    clear hW0 hlen c0 c2 hP
    have hfm := hid (List.mem_of_getElem? hf.out)
    have hpop := hid (pop_calls pb (n : Int) (came : Int) (.map (some mb)) v H (by have := hP0.out.len; have := hP0.out.ln; have := hP0.out.rm; omega) f hf (hid hP0.out.hp) W0.drew (hid (hP0.out.hv.keptB (w' := W0.drew) (below_drewN _ _ 1))))
    have c2 : W0.drew.cell? ⟨pb, 2, none⟩ = some (.map (some mb)) := hP0.out.hv.box.drew.cell 2
    have rk : W0.drew.rangeAt f.1 0 [.string f.2.r, .string f.2.n] := fun j u hj => by
      have h5 := (hP0.out.hv.ent 0 f hf.out).drew.cell j
      rw [Nat.zero_add, h5]
      match j, hj with
      | 0, hj => simpa [entC] using hj
      | 1, hj => simpa [entC] using hj
      | j + 2, hj => simp at hj
    refine wp_region_held_drew (S := fun u => u.cell? ⟨pb, 2, none⟩ = some (.map (some mb)) ∧ u.rangeAt f.1 0 [.string f.2.r, .string f.2.n]) (by kernel_rfl) ⟨c2, rk⟩ (fun hH => ?_)
    (refine' wpAnyH_take (i := 0) rfl (by kernel_rfl) (by kernel_rfl) (by kernel_rfl) (fun _ _ _ h => h) (Or.inl ⟨by rfl, ?_⟩) (by assumption) ?_; rotate_left; (· (intro wq hq; (try dsimp only at hq); go_simp; first | done | with_reducible rfl)); simp only [Act.put, List.getElem_toArray, List.getElem_cons_zero, List.setIfInBounds_toArray, List.set_cons_zero, List.set_cons_succ])
    (refine' wpAnyH_take (i := 1) rfl (by kernel_rfl) (by kernel_rfl) (by kernel_rfl) (fun _ _ _ h => h) (Or.inl ⟨by rfl, ?_⟩) (by assumption) ?_; rotate_left; (· (intro wq hq; (try dsimp only at hq); go_simp; first | done | with_reducible rfl)); simp only [Act.put, List.getElem_toArray, List.getElem_cons_zero, List.getElem_cons_succ, List.setIfInBounds_toArray, List.set_cons_zero, List.set_cons_succ])
    (refine' wpAnyH_take (i := 2) rfl (by kernel_rfl) (by kernel_rfl) (by kernel_rfl) (fun _ _ _ h => h) (Or.inl ⟨by rfl, ?_⟩) (by assumption) ?_; rotate_left; (· (intro wq hq; (try dsimp only at hq); go_simp; first | done | with_reducible rfl)); simp only [Act.put, List.getElem_toArray, List.getElem_cons_zero, List.getElem_cons_succ, List.setIfInBounds_toArray, List.set_cons_zero, List.set_cons_succ])
    (refine' wpAnyH_take (i := 3) rfl (by kernel_rfl) (by kernel_rfl) (by kernel_rfl) (fun _ _ _ h => h) (Or.inl ⟨by rfl, ?_⟩) (by assumption) ?_; rotate_left; (· (intro wq hq; (try dsimp only at hq); go_simp; first | done | with_reducible rfl)); simp only [Act.put, List.getElem_toArray, List.getElem_cons_zero, List.getElem_cons_succ, List.setIfInBounds_toArray, List.set_cons_zero, List.set_cons_succ])
    (refine' wpAnyH_take (i := 4) rfl (by kernel_rfl) (by kernel_rfl) (by kernel_rfl) (fun _ _ _ h => h) (Or.inl ⟨by rfl, ?_⟩) (by assumption) ?_; rotate_left; (· (intro wq hq; (try dsimp only at hq); go_simp; first | done | with_reducible rfl)); simp only [Act.put, List.getElem_toArray, List.getElem_cons_zero, List.getElem_cons_succ, List.setIfInBounds_toArray, List.set_cons_zero, List.set_cons_succ])
    (refine' wpAnyH_take (i := 5) rfl (by kernel_rfl) (by kernel_rfl) (by kernel_rfl) (fun _ _ _ h => h) (Or.inl ⟨by rfl, ?_⟩) (by assumption) ?_; rotate_left; (· (intro wq hq; (try dsimp only at hq); go_simp; first | done | with_reducible rfl)); simp only [Act.put, List.getElem_toArray, List.getElem_cons_zero, List.getElem_cons_succ, List.setIfInBounds_toArray, List.set_cons_zero, List.set_cons_succ])
    (refine' wpAnyH_take (i := 6) rfl (by kernel_rfl) (by kernel_rfl) (by kernel_rfl) (fun _ _ _ h => h) (Or.inl ⟨by rfl, ?_⟩) (by assumption) ?_; rotate_left; (· (intro wq hq; (try dsimp only at hq); go_simp; first | done | with_reducible rfl)); simp only [Act.put, List.getElem_toArray, List.getElem_cons_zero, List.getElem_cons_succ, List.setIfInBounds_toArray, List.set_cons_zero, List.set_cons_succ])
    refine wpAnyH_ready (rs := [7]) (by kernel_rfl) (by simp) ?_
    refine AllReadyH.cons rfl (fun K hK => ?_) ?_
    rotate_left
    · exact AllReadyH.nil
    rw [if_pos (by rfl)]
    go_simp
    refine Calls.mono hpop.out ?_
    rintro e w2 ⟨rfl, v', H', hp', hi', hv', hob, hfe, hl2⟩
    obtain ⟨qf, hfe'⟩ := hfe.out
    have hfe' := hid hfe'
    have r2 : w2.rangeAt f.1 0 [.string f.2.r, .string f.2.n] := fun j u hj => by
      have h5 := hfe'.out.cell j
      rw [Nat.zero_add, h5]
      match j, hj with
      | 0, hj => simpa [entC] using hj
      | 1, hj => simpa [entC] using hj
      | j + 2, hj => simp at hj
    have d2 : w2.cell? ⟨pb, 2, none⟩ = some (.map (some mb)) := hv'.out.box.cell 2
    have hM0 := hP0.out.mp
    have hMblk := hid (fun (q : Nat) (hq : PZ pb v H q) (e : q = mb) => (by
      rcases hq with rfl | hz | ⟨z, hz, rfl⟩
      · exact hM0.ne hP0.out.hv.box e
      · rcases hP0.out.hv.row.2 with ⟨h2, -⟩ | ⟨g', cap, cur, h2, -, h3, -⟩
        · rw [h2] at hz; cases hz
        · rw [h2] at hz
          obtain rfl : g' = q := by simpa [Value.ownBlock] using hz
          obtain ⟨D, ⟨es, clock, h1, -⟩, -⟩ := hM0
          rw [e, h1] at h3
          cases h3
      · obtain ⟨i, hi, rfl⟩ := List.mem_iff_getElem.1 hz
        exact hM0.ne (hP0.out.hv.ent i _ (List.getElem?_eq_getElem hi)) e : False))
    have hM2 := hid (show MpM w2 mb H from (hM0.kept (w' := W0.drew) rfl).kept (hl2.out.block mb hM0.lt (fun hz => hMblk.out mb hz rfl)))
    refine hK _ _ ⟨d2, r2⟩ (fun hH2 => ?_)
    clear hK K hpop c2 rk hH hM0
    (refine' wpAnyH_take (i := 8) rfl (by kernel_rfl) (by kernel_rfl) (by kernel_rfl) (fun _ _ _ h => h) (Or.inl ⟨by rfl, ?_⟩) (by assumption) ?_; rotate_left; (· (intro wq hq; (try dsimp only at hq); go_simp; first | done | with_reducible rfl)); simp only [Act.put, List.getElem_toArray, List.getElem_cons_zero, List.getElem_cons_succ, List.setIfInBounds_toArray, List.set_cons_zero, List.set_cons_succ])
    (refine' wpAnyH_take (i := 9) rfl (by kernel_rfl) (by kernel_rfl) (by kernel_rfl) (fun _ _ _ h => h) (Or.inl ⟨by rfl, ?_⟩) (by assumption) ?_; rotate_left; (· (intro wq hq; (try dsimp only at hq); go_simp; first | done | with_reducible rfl)); simp only [Act.put, List.getElem_toArray, List.getElem_cons_zero, List.getElem_cons_succ, List.setIfInBounds_toArray, List.set_cons_zero, List.set_cons_succ])
    (refine wpAnyH_take (i := 10) (v := .agg [.string f.2.r, .string f.2.n].toArray) rfl (by kernel_rfl) (by kernel_rfl) (by kernel_rfl) (fun _ _ _ h => h) (yieldsIf_load_mid (by rfl) 74 _ rfl (f.1) 0 rfl [.string f.2.r, .string f.2.n] _ (fun wq hq => hq.2) Try.underlying74 rfl (by kernel_rfl)) (by assumption) ?_; simp only [Act.put, List.getElem_toArray, List.getElem_cons_zero, List.getElem_cons_succ, List.setIfInBounds_toArray, List.set_cons_zero, List.set_cons_succ])
    have hdrop := fun ty => hM2.out.drop hp'.out ty
    obtain ⟨w3, hrun, hM3, ht⟩ := hdrop 0
    have hrun : ∀ ty, (Builtin.delete_ #[61, 74] ty #[.map (some mb), .agg #[.string f.2.r, .string f.2.n]]).run Try.prog w2 = .ok (.tuple #[]) w3 := fun ty => hrun
    have hv3 := hid (hv'.out.turned hM2.out ht)
    have hfe3 := hid (mapTurned_at hfe'.out ht (hM2.out.ne hfe'.out))
    have r3 : w3.rangeAt f.1 0 [.string f.2.r, .string f.2.n] := fun j u hj => by
      have h5 := hfe3.out.cell j
      rw [Nat.zero_add, h5]
      match j, hj with
      | 0, hj => simpa [entC] using hj
      | 1, hj => simpa [entC] using hj
      | j + 2, hj => simp at hj
    have d3 : w3.cell? ⟨pb, 2, none⟩ = some (.map (some mb)) := hv3.out.box.cell 2
    have hM3 := hid hM3
    have hlap := hid (show Lap S w w3 from (((Lap.of (Z := S) hL0.out).drew).trans hl2.out (fun q _ hz => hP0.out.own q (.inl hz))).grown ht.grown (fun k hk _ => by cases hk; exact hP0.out.own mb (.inr rfl)))
    refine wpAnyH_ready (rs := [11]) (by kernel_rfl) (by simp) ?_
    refine AllReadyH.cons rfl (fun K hK => ?_) ?_
    rotate_left
    · exact AllReadyH.nil
    rw [if_pos (by rfl)]
    go_simp
    refine hK _ _ ⟨d3, r3⟩ (fun hH3 => ?_)
    clear hK K d3 r3 hH3 hrun hH2 d2 r2
    refine wpAnyH_done (by kernel_rfl) ?_ _
    have hpm1 : (f.2 :: H'.map (fun z : Nat × Ent => z.2)).Perm L := (hp'.out.map (fun z : Nat × Ent => z.2)).trans hP0.out.pm
    obtain ⟨A, B, hAB, hR⟩ := perm_out hpm1
    have hsub : ∀ x ∈ A ++ B, x ∈ L := fun x hx => by
      rw [hAB]
      rcases List.mem_append.1 hx with hx | hx
      · exact List.mem_append_left _ hx
      · exact List.mem_append_right _ (List.mem_cons_of_mem _ hx)
    have hfin := hid (show PatI w3 pb mb v' H' S n came (A ++ B) from by
      refine ⟨hv3.out, hi'.out, hM3.out, hR, ?_, fun x hx => hP0.out.ok x (hsub x hx), ?_, hP0.out.rm, ?_⟩
      · have h1 := hP0.out.asc
        rw [hAB] at h1
        exact h1.sublist (List.Sublist.append_left (List.sublist_cons_self _ _) _)
      · have h1 := hP0.out.ln
        rw [hAB] at h1
        simp at h1 ⊢
        omega
      · intro q hq
        rcases hq with (rfl | hq | ⟨z, hz, rfl⟩) | rfl
        · exact hP0.out.own q (.inl (.inl rfl))
        · rw [hob.out] at hq
          exact hP0.out.own q (.inl (.inr (.inl hq)))
        · exact hP0.out.own z.1 (.inl (.inr (.inr ⟨z, hp'.out.mem_iff.1 (List.mem_cons_of_mem _ hz), rfl⟩)))
        · exact hP0.out.own q (.inr rfl))
    have hrmd := hid (show Rmd n L (A ++ B) from .inr ⟨hnL.out, A, f.2, B, hAB, fun z hz => by
      obtain ⟨y, hy, rfl⟩ := List.mem_map.1 (hP0.out.pm.mem_iff.2 hz)
      obtain ⟨i, hi, rfl⟩ := List.mem_iff_getElem.1 hy
      exact hp_min hP0.out.hp hf.out i _ (List.getElem?_eq_getElem hi), rfl⟩)
    have hmem := hid (fun (x : Nat × Ent) (hx : x ∈ H') => hp'.out.mem_iff.1 (List.mem_cons_of_mem f hx))
    go_end0
    exact ⟨rfl, v', H', A ++ B, hrmd, hfin, hmem, hlap⟩

/-- What Learn leaves of the entries, and of the count of those that came. -/
def Lrn (room came : Nat) (L : List Ent) (r n : ByteArray) (p : Nat) (came' : Nat) (L' : List Ent) : Prop :=
  (∃ A e B, L = A ++ e :: B ∧ e.r = r ∧ e.n = n ∧ L' = A ++ upd e p :: B ∧ came' = came) ∨
  ((∀ e ∈ L, ¬ (e.r = r ∧ e.n = n)) ∧ ((room = 0 ∧ L' = L ∧ came' = came) ∨ (0 < room ∧ ∃ L1, Rmd room L L1 ∧ L' = L1 ++ [⟨r, n, p, 1, came⟩] ∧ came' = came + 1)))
theorem set_perm {α : Type} {x y : α} : ∀ {H : List α} {i : Nat}, H[i]? = some x → H.Perm (x :: H.eraseIdx i) ∧ (H.set i y).Perm (y :: H.eraseIdx i)
  | [], _, hi => by simp at hi
  | a :: H, 0, hi => by
    simp at hi
    subst hi
    exact ⟨List.Perm.refl _, List.Perm.refl _⟩
  | a :: H, i + 1, hi => by
    obtain ⟨h1, h2⟩ := set_perm (H := H) (i := i) (by simpa using hi)
    exact ⟨(h1.cons a).trans (List.Perm.swap _ _ _), (h2.cons a).trans (List.Perm.swap _ _ _)⟩
theorem MpM.renew {w : World} {mb : Nat} {x y : Nat × Ent} {R : HpL} (h : MpM w mb (x :: R)) (hb : y.1 = x.1) (hr : y.2.r = x.2.r) (hn : y.2.n = x.2.n) : MpM w mb (y :: R) := by
  obtain ⟨D, h1, h2⟩ := h
  refine ⟨D, by simpa using h1, h2.td, by simpa using h2.sz, fun z hz => ?_, ?_, fun z hz => ?_, fun r n hk hz => ?_⟩
  · rcases List.mem_cons.1 hz with rfl | hz
    · rw [hr, hn]; exact h2.ok x (by simp)
    · exact h2.ok z (by simp [hz])
  · have := List.pairwise_cons.1 h2.ap
    refine List.pairwise_cons.2 ⟨fun z hz => by rw [hr, hn]; exact this.1 z hz, this.2⟩
  · rcases List.mem_cons.1 hz with rfl | hz
    · rw [hr, hn, hb]; exact h2.yes x (by simp)
    · exact h2.yes z (by simp [hz])
  · refine h2.no r n hk (fun z hz' => ?_)
    rcases List.mem_cons.1 hz' with rfl | hz'
    · have := hz y (by simp)
      rw [hr, hn] at this
      exact this
    · exact hz z (by simp [hz'])
end Go.Proofs.Ytiggfigjibggaaa
