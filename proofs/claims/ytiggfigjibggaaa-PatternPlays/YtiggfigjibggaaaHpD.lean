/-
  The heap: sink, mend (by gen_hpd.py).
-/
import Derived.Test.YtiggfigjibggaaaHpC
namespace Go.Proofs.Ytiggfigjibggaaa
open Go.RowKit Go.Shelf

/-- Draws upon draws. -/
theorem quiet_twice {f : FuncId} {args : Array Value} {w : World} {n m : Nat} {v : Value} (h : Calls Try.prog f args (w.drewN (n + m)) fun e w' => e = .returned v ∧ ∃ q, w' = (w.drewN (n + m)).drewN q) : Calls Try.prog f args (w.drewN (n + m)) fun e w'' => e = .returned v ∧ ∃ q, w'' = w.drewN (n + q) := by
  refine h.mono ?_
  rintro e w' ⟨he, q, hq⟩
  exact ⟨he, m + q, by rw [hq, World.drewN_drewN, Nat.add_assoc]⟩
set_option maxRecDepth 10000 in
set_option maxHeartbeats 8000000 in
theorem sink_calls (pb : Nat) (room came : Int) (mv : Value) (g cap n : Nat) (hn : (n : Int) ≤ 1048576) (H : HpL) (k : Nat) (x : Nat × Ent) (hx : Hid (H[k]? = some x)) (hri : Hid (SiI H k)) (w : World) (hm : Hid (HM w pb room came mv g cap n H k)) :
    Calls Try.prog 44 #[.pointer (some ⟨pb, 3, none⟩), ptB x.1, .int .i64 (k : Int)] w fun e w' => MvP (fun H' _ => IsHp H') pb room came mv g cap n H x w e w' := by
  have he := enterA
  have hkn : k < n := by have := (List.getElem?_eq_some_iff.1 hx.out).1; have := hm.out.len; omega
  go_enter Try.func44, Try.ntmps44
  go_wp2
  go_loopw [2] (fun ii wr => ∃ (H' : HpL) (k' : Nat), ii = .int .i64 (k' : Int) ∧ k' < n ∧ Hid (H'[k']? = some x) ∧ Hid (H'.Perm H) ∧ Hid (SiI H' k') ∧ Hid (HM wr pb room came mv g cap n H' k') ∧ Hid (Lap (HZ g H) w wr)) (fun ii _ => n - (intOf ii).toNat)
  case atStart => exact ⟨H, k, rfl, hkn, hx, hid (List.Perm.refl _), hri, hm, hid (Lap.refl _ _)⟩
  case round =>
    clear hx hri hm hkn
    obtain ⟨H', k', rfl, hkn, hx, hp, hri, hm, hl⟩ := hrel
    have hkn' : (k' : Int) < (n : Int) := by omega
    obtain ⟨m1, hm1⟩ : ∃ m, 2 * k' + 1 = m := ⟨_, rfl⟩
    have hmi : (2 : Int) * (k' : Int) + 1 = (m1 : Int) := by omega
    have hb1 : (m1 : Int) ≤ 4194304 := by omega
    have c3 := hm.out.box.cell 3
    have c4 := hm.out.box.cell 4
    simp only [patC, List.getElem?_toArray, List.getElem?_cons_succ, List.getElem?_cons_zero] at c3 c4
    have hx1 := hid (hm.out.there hkn)
    obtain ⟨qx, hex, -⟩ := hm.out.ent k' x hx.out
    have hex := hid hex
    have ad1 : (⟨g, 0, none⟩ : Addr).add m1 = ⟨g, m1, none⟩ := by by_cases h : m1 = 0 <;> simp [Addr.add, h]
    by_cases hA : m1 < n
    · have hA' : (m1 : Int) < (n : Int) := by omega
      have gA : decide ((n : Int) ≤ (m1 : Int)) = false := by simp; omega
      obtain ⟨z1, hz1⟩ : ∃ y, Hid (H'[m1]? = some y) := ⟨_, List.getElem?_eq_getElem (by have := hm.out.len; omega)⟩
      obtain ⟨q1, he1, -⟩ := hm.out.ent m1 z1 hz1.out
      have he1 := hid he1
      have cz1 := hm.out.cell hz1.out (by omega)
      have hah1 := hid (fun (m : Nat) => ahead_calls z1.2 x.2 z1.1 x.1 q1 qx (wr.drewN m) (he1.out.drewN m) (hex.out.drewN m))
      by_cases hC : m1 + 1 < n
      · have hC' : (m1 : Int) + 1 < (n : Int) := by omega
        have gC : decide ((m1 : Int) + 1 < (n : Int)) = true := by simp; omega
        obtain ⟨m2, hm2⟩ : ∃ m, m1 + 1 = m := ⟨_, rfl⟩
        have hmi2 : (m1 : Int) + 1 = (m2 : Int) := by omega
        have ad2 : (⟨g, 0, none⟩ : Addr).add m2 = ⟨g, m2, none⟩ := by by_cases h : m2 = 0 <;> simp [Addr.add, h]
        obtain ⟨z2, hz2⟩ : ∃ y, Hid (H'[m2]? = some y) := ⟨_, List.getElem?_eq_getElem (by have := hm.out.len; omega)⟩
        obtain ⟨q2, he2, -⟩ := hm.out.ent m2 z2 hz2.out
        have he2 := hid he2
        have cz2 := hm.out.cell hz2.out (by omega)
        have hah2 := hid (fun (m : Nat) => ahead_calls z2.2 x.2 z2.1 x.1 q2 qx (wr.drewN m) (he2.out.drewN m) (hex.out.drewN m))
        have hah := hid (fun (m : Nat) => ahead_calls z2.2 z1.2 z2.1 z1.1 q2 q1 (wr.drewN m) (he2.out.drewN m) (he1.out.drewN m))
        obtain ⟨B, hB⟩ : ∃ B, decide (ahd z2.2 z1.2) = B := ⟨_, rfl⟩
        rw [hB] at hah
        have hm2n : (m2 : Int) < (n : Int) := by omega
        have hb2 : (m2 : Int) ≤ 4194304 := by omega
        have hm2N : m2 < n := by omega
        have gA2 : decide ((n : Int) ≤ (m2 : Int)) = false := by simp; omega
        rw [hmi2] at gC hC'
        cases B with
        | true =>
          have hsib := hid (fun (s : Nat) (z : Nat × Ent) (h0 : 0 < s) (h1 : (s - 1) / 2 = k') (h2 : s ≠ m2) (h3 : H'[s]? = some z) => (by
            have e : s = m1 := by omega
            subst e
            rw [hz1.out] at h3
            cases h3
            exact ahd_as (by simpa using hB) : ¬ ahd z.2 z2.2))
          have hpar := hid (show (m2 - 1) / 2 = k' ∧ 0 < m2 ∧ m2 < n ∧ k' < m2 by omega)
          clear hB hah1 hz1
          go_wp2_with fail
          go_quiet ((go_at_call 22; exact Calls.quiet_of (hah.out _)))
          clear hah cz1 gC ad1
          obtain ⟨n1, rfl⟩ : ∃ n1, n1 = nq := ⟨_, rfl⟩
          go_wp2_with fail
          obtain ⟨D, hD⟩ : ∃ D, decide (ahd z2.2 x.2) = D := ⟨_, rfl⟩
          rw [hD] at hah2
          cases D with
          | false =>
            have hfin := hid (si_end hri.out hx.out (fun s z h0 h1 h3 => (by
              by_cases e : s = m2
              · subst e
                rw [hz2.out] at h3
                cases h3
                simpa using hD
              · exact ahd_tr (hsib.out s z h0 h1 e h3) (by simpa using hD) : ¬ ahd z.2 x.2)))
            clear hri hx1 hex he2 hD hsib hpar
            go_quiet ((go_at_call 22; exact quiet_twice (hah2.out _)))
            go_wp2
            go_ret
            exact ⟨H', k', rfl, hx, hp, hfin, hid (hm.out.kept (by first | exact below_drewN _ _ _ | (rw [World.drewN_drewN]; exact below_drewN _ _ _))), hid (hl.out.andB (by first | exact below_drewN _ _ _ | (rw [World.drewN_drewN]; exact below_drewN _ _ _)))⟩
          | true =>
            have hjk : m2 ≠ k' := by have := hpar.out; omega
            obtain ⟨uk, hcu, hcf⟩ := hx1.out
            have hput := hid (fun (m : Nat) => put_calls room came mv pb g n cap z2.1 k' (entC z2.2 q2) (wr.drewN m) (hm.out.box.drewN m) hkn uk (by exact hcu) (by exact hcf) hm.out.gpb (hm.out.gent hz2.out) (.int .i64 q2) (he2.out.drewN m) rfl)
            have hm3 := hid (fun (m : Nat) => (hm.out.kept (w' := wr.drewN m) (below_drewN _ _ m)).put hx.out hz2.out hjk)
            have hl1 := hid (fun (m : Nat) => ((hl.out.andB (u := wr.drewN m) (below_drewN _ _ m)).setCell ⟨g, k', none⟩ (.inl rfl) (ptB z2.1)).setCell ⟨z2.1, 5, none⟩ (.inr ⟨z2, hp.out.mem_iff.1 (List.mem_of_getElem? hz2.out), rfl⟩) (.int .i64 (k' : Int)))
            have hri1 := hid (si_step hri.out hpar.out.2.1 hpar.out.1 hx.out hz2.out (by simpa using hD) (fun s z h0 h1 h2 h3 => hsib.out s z h0 h1 h2 h3))
            have hx2 : Hid ((swH H' k' m2 x z2)[m2]? = some x) := by show _ = _; rw [swH_get hx.out hz2.out, if_pos rfl]
            have hp2 := hid ((swH_perm hx.out hz2.out).trans hp.out)
            clear hm hl hri hx1 hcu hcf he2 hex hsib hD
            go_quiet ((go_at_call 22; exact quiet_twice (hah2.out _)))
            go_wp2_with fail
            refine Calls.mono (hput.out _) ?_
            rintro e w1 ⟨rfl, rfl⟩
            have hm2 := hid (hm3.out (n1 + nq))
            have hl2 := hid (hl1.out (n1 + nq))
            clear hput hm3 hl1
            generalize (World.setCell (World.setCell _ ⟨g, k', none⟩ (ptB z2.1)) ⟨z2.1, 5, none⟩ (.int .i64 (k' : Int))) = W2 at *
            go_wp2
            go_roundw
            case rel => exact ⟨_, m2, rfl, hpar.out.2.2.1, hx2, hp2, hri1, hm2, hl2⟩
            case measure => simp [intOf]; have := hpar.out; omega
        | false =>
          have hsib := hid (fun (s : Nat) (z : Nat × Ent) (h0 : 0 < s) (h1 : (s - 1) / 2 = k') (h2 : s ≠ m1) (h3 : H'[s]? = some z) => (by
            have e : s = m2 := by omega
            subst e
            rw [hz2.out] at h3
            cases h3
            simpa using hB : ¬ ahd z.2 z1.2))
          have hpar := hid (show (m1 - 1) / 2 = k' ∧ 0 < m1 ∧ m1 < n ∧ k' < m1 by omega)
          clear hB hah2 hz2
          go_wp2_with fail
          go_quiet ((go_at_call 22; exact Calls.quiet_of (hah.out _)))
          clear hah cz2 gC ad2
          obtain ⟨n1, rfl⟩ : ∃ n1, n1 = nq := ⟨_, rfl⟩
          go_wp2_with fail
          obtain ⟨D, hD⟩ : ∃ D, decide (ahd z1.2 x.2) = D := ⟨_, rfl⟩
          rw [hD] at hah1
          cases D with
          | false =>
            have hfin := hid (si_end hri.out hx.out (fun s z h0 h1 h3 => (by
              by_cases e : s = m1
              · subst e
                rw [hz1.out] at h3
                cases h3
                simpa using hD
              · exact ahd_tr (hsib.out s z h0 h1 e h3) (by simpa using hD) : ¬ ahd z.2 x.2)))
            clear hri hx1 hex he1 hD hsib hpar
            go_quiet ((go_at_call 22; exact quiet_twice (hah1.out _)))
            go_wp2
            go_ret
            exact ⟨H', k', rfl, hx, hp, hfin, hid (hm.out.kept (by first | exact below_drewN _ _ _ | (rw [World.drewN_drewN]; exact below_drewN _ _ _))), hid (hl.out.andB (by first | exact below_drewN _ _ _ | (rw [World.drewN_drewN]; exact below_drewN _ _ _)))⟩
          | true =>
            have hjk : m1 ≠ k' := by have := hpar.out; omega
            obtain ⟨uk, hcu, hcf⟩ := hx1.out
            have hput := hid (fun (m : Nat) => put_calls room came mv pb g n cap z1.1 k' (entC z1.2 q1) (wr.drewN m) (hm.out.box.drewN m) hkn uk (by exact hcu) (by exact hcf) hm.out.gpb (hm.out.gent hz1.out) (.int .i64 q1) (he1.out.drewN m) rfl)
            have hm3 := hid (fun (m : Nat) => (hm.out.kept (w' := wr.drewN m) (below_drewN _ _ m)).put hx.out hz1.out hjk)
            have hl1 := hid (fun (m : Nat) => ((hl.out.andB (u := wr.drewN m) (below_drewN _ _ m)).setCell ⟨g, k', none⟩ (.inl rfl) (ptB z1.1)).setCell ⟨z1.1, 5, none⟩ (.inr ⟨z1, hp.out.mem_iff.1 (List.mem_of_getElem? hz1.out), rfl⟩) (.int .i64 (k' : Int)))
            have hri1 := hid (si_step hri.out hpar.out.2.1 hpar.out.1 hx.out hz1.out (by simpa using hD) (fun s z h0 h1 h2 h3 => hsib.out s z h0 h1 h2 h3))
            have hx2 : Hid ((swH H' k' m1 x z1)[m1]? = some x) := by show _ = _; rw [swH_get hx.out hz1.out, if_pos rfl]
            have hp2 := hid ((swH_perm hx.out hz1.out).trans hp.out)
            clear hm hl hri hx1 hcu hcf he1 hex hsib hD
            go_quiet ((go_at_call 22; exact quiet_twice (hah1.out _)))
            go_wp2_with fail
            refine Calls.mono (hput.out _) ?_
            rintro e w1 ⟨rfl, rfl⟩
            have hm2 := hid (hm3.out (n1 + nq))
            have hl2 := hid (hl1.out (n1 + nq))
            clear hput hm3 hl1
            generalize (World.setCell (World.setCell _ ⟨g, k', none⟩ (ptB z1.1)) ⟨z1.1, 5, none⟩ (.int .i64 (k' : Int))) = W2 at *
            go_wp2
            go_roundw
            case rel => exact ⟨_, m1, rfl, hpar.out.2.2.1, hx2, hp2, hri1, hm2, hl2⟩
            case measure => simp [intOf]; have := hpar.out; omega
      · have gC : decide ((m1 : Int) + 1 < (n : Int)) = false := by simp; omega
        have hsib := hid (fun (s : Nat) (z : Nat × Ent) (h0 : 0 < s) (h1 : (s - 1) / 2 = k') (h2 : s ≠ m1) (h3 : H'[s]? = some z) => (by
          have e : s = m1 + 1 := by omega
          have := (List.getElem?_eq_some_iff.1 h3).1
          have := hm.out.len
          omega : ¬ ahd z.2 z1.2))
        have hpar := hid (show (m1 - 1) / 2 = k' ∧ 0 < m1 ∧ m1 < n ∧ k' < m1 by omega)
        go_wp2_with fail
        go_quiet (fail)
        clear gC
        obtain ⟨n1, rfl⟩ : ∃ n1, n1 = nq := ⟨_, rfl⟩
        go_wp2_with fail
        obtain ⟨D, hD⟩ : ∃ D, decide (ahd z1.2 x.2) = D := ⟨_, rfl⟩
        rw [hD] at hah1
        cases D with
        | false =>
          have hfin := hid (si_end hri.out hx.out (fun s z h0 h1 h3 => (by
            by_cases e : s = m1
            · subst e
              rw [hz1.out] at h3
              cases h3
              simpa using hD
            · exact ahd_tr (hsib.out s z h0 h1 e h3) (by simpa using hD) : ¬ ahd z.2 x.2)))
          clear hri hx1 hex he1 hD hsib hpar
          go_quiet ((go_at_call 22; exact quiet_twice (hah1.out _)))
          go_wp2
          go_ret
          exact ⟨H', k', rfl, hx, hp, hfin, hid (hm.out.kept (by first | exact below_drewN _ _ _ | (rw [World.drewN_drewN]; exact below_drewN _ _ _))), hid (hl.out.andB (by first | exact below_drewN _ _ _ | (rw [World.drewN_drewN]; exact below_drewN _ _ _)))⟩
        | true =>
          have hjk : m1 ≠ k' := by have := hpar.out; omega
          obtain ⟨uk, hcu, hcf⟩ := hx1.out
          have hput := hid (fun (m : Nat) => put_calls room came mv pb g n cap z1.1 k' (entC z1.2 q1) (wr.drewN m) (hm.out.box.drewN m) hkn uk (by exact hcu) (by exact hcf) hm.out.gpb (hm.out.gent hz1.out) (.int .i64 q1) (he1.out.drewN m) rfl)
          have hm3 := hid (fun (m : Nat) => (hm.out.kept (w' := wr.drewN m) (below_drewN _ _ m)).put hx.out hz1.out hjk)
          have hl1 := hid (fun (m : Nat) => ((hl.out.andB (u := wr.drewN m) (below_drewN _ _ m)).setCell ⟨g, k', none⟩ (.inl rfl) (ptB z1.1)).setCell ⟨z1.1, 5, none⟩ (.inr ⟨z1, hp.out.mem_iff.1 (List.mem_of_getElem? hz1.out), rfl⟩) (.int .i64 (k' : Int)))
          have hri1 := hid (si_step hri.out hpar.out.2.1 hpar.out.1 hx.out hz1.out (by simpa using hD) (fun s z h0 h1 h2 h3 => hsib.out s z h0 h1 h2 h3))
          have hx2 : Hid ((swH H' k' m1 x z1)[m1]? = some x) := by show _ = _; rw [swH_get hx.out hz1.out, if_pos rfl]
          have hp2 := hid ((swH_perm hx.out hz1.out).trans hp.out)
          clear hm hl hri hx1 hcu hcf he1 hex hsib hD
          go_quiet ((go_at_call 22; exact quiet_twice (hah1.out _)))
          go_wp2_with fail
          refine Calls.mono (hput.out _) ?_
          rintro e w1 ⟨rfl, rfl⟩
          have hm2 := hid (hm3.out (n1 + nq))
          have hl2 := hid (hl1.out (n1 + nq))
          clear hput hm3 hl1
          generalize (World.setCell (World.setCell _ ⟨g, k', none⟩ (ptB z1.1)) ⟨z1.1, 5, none⟩ (.int .i64 (k' : Int))) = W2 at *
          go_wp2
          go_roundw
          case rel => exact ⟨_, m1, rfl, hpar.out.2.2.1, hx2, hp2, hri1, hm2, hl2⟩
          case measure => simp [intOf]; have := hpar.out; omega
    · have gA : decide ((n : Int) ≤ (m1 : Int)) = true := by simp; omega
      have gC : decide ((m1 : Int) + 1 < (n : Int)) = false := by simp; omega
      have hfin := hid (si_end hri.out hx.out (fun s z h0 h1 h3 => (by
        have := (List.getElem?_eq_some_iff.1 h3).1
        have := hm.out.len
        omega : ¬ ahd z.2 x.2)))
      clear hri hx1 hex ad1
      go_wp2_with fail
      go_quiet (fail)
      go_wp2_with fail
      go_quiet (fail)
      go_wp2
      go_ret
      exact ⟨H', k', rfl, hx, hp, hfin, hid (hm.out.kept (by first | exact below_drewN _ _ _ | (rw [World.drewN_drewN]; exact below_drewN _ _ _))), hid (hl.out.andB (by first | exact below_drewN _ _ _ | (rw [World.drewN_drewN]; exact below_drewN _ _ _)))⟩
end Go.Proofs.Ytiggfigjibggaaa
