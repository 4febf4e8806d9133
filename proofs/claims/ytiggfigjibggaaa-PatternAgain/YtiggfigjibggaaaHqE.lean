/-
  PatternAgain.
-/
import Derived.Test.YtiggfigjibggaaaHqD
namespace Go.Proofs.Ytiggfigjibggaaa
open Go.RowKit Go.Shelf Go.Maps

theorem patM_at {w : World} {pb B : Nat} {room came : Nat} {L : List Ent} (h : PatM w pb (fun q => B ≤ q) room came L) : PatM w pb (fun q => B ≤ q ∧ q < w.heap.size) room came L := h.mono (fun _ h1 h2 => ⟨h2, h1⟩)
set_option maxRecDepth 10000 in
set_option maxHeartbeats 8000000 in
theorem patternAgain_walk (a0 : Int) (_ : (Lit.int .i64 a0).wf = true) (ao : Option Addr) (cap : Nat) (ops : List OpV) (hz : ops.length ≤ reachBytes) (bo : Option Addr) (cap2 : Nat) (mor : List OpV) (hz2 : mor.length ≤ reachBytes) (w : World) (hops : OpsAt w ao ops) (hmor : OpsAt w bo mor) :
    Calls Try.prog 7 #[.int .i64 a0, .slice ao ops.length cap, .slice bo mor.length cap2] w fun e w' => e = .returned (.bool true) ∧ Below w.heap.size w w' := by
  obtain ⟨N, hN⟩ : ∃ N, Hid (ops.length = N) := ⟨_, rfl⟩
  obtain ⟨K, hK⟩ : ∃ K, Hid (mor.length = K) := ⟨_, rfl⟩
  have hN2 : (N : Int) ≤ 140737488355328 := by have := hN.out; unfold reachBytes at hz; omega
  have hK2 : (K : Int) ≤ 140737488355328 := by have := hK.out; unfold reachBytes at hz2; omega
  rw [hN.out, hK.out]
  have hops := hid hops
  have hmor := hid hmor
  have haw := hid (awake25 w)
  clear hz hz2
  go_enter Try.func7, Try.ntmps7
  go_wp2_with fail
  refine Calls.mono haw.out ?_
  rintro e w1 ⟨rfl, B1⟩
  have B1 := hid B1
  have hpk := hid (pick25_calls a0 40 (by omega) (by omega) w1)
  clear haw
  go_wp2_with fail
  refine Calls.mono hpk.out ?_
  rintro e w2 ⟨⟨R, hR, rfl⟩, rfl⟩
  have hR4 : (R : Int) ≤ 4096 := by omega
  have hle := hid (learns_calls R (by omega) ops N hN hN2 ao cap w2 (hid (hops.out.kept B1.out)))
  clear hpk
  go_wp2_with fail
  refine Calls.mono hle.out ?_
  rintro e w3 ⟨pb, came, L, rfl, hL, hP, b3⟩
  have B3 := hid (show Below w.heap.size w w3 from B1.out.trans (b3.out.mono B1.out.size))
  have s12 := hid B1.out.size
  have s23 := hid b3.out.size
  have hP3 := hid (patM_at hP.out)
  obtain ⟨n, hn⟩ : ∃ n, Hid (L.length = n) := ⟨_, rfl⟩
  have hnR : n ≤ R := by rw [← hn.out]; exact hP.out.ok.2.1
  have hLok := hid hP.out.ok
  have hcm : Hid (came ≤ N) := by have := hL.out.came; rw [hN.out] at this; exact this
  have hal := hid (all_calls25 pb _ R came L w3 hP3.out)
  clear hle hP
  go_wp2_with fail
  refine Calls.mono hal.out ?_
  rintro e w4 ⟨g, M, rfl, hMp, hMs, hMr, hg, b4⟩
  rw [hn.out] at hMr ⊢
  have s34 := hid b4.out.size
  have hP4 := hid (hP3.out.keptB b4.out)
  have B4 := hid (show Below w.heap.size w w4 from B3.out.trans (b4.out.mono B3.out.size))
  have hMl : Hid ((M.map lrOf).length = n) := by show _ = _; rw [List.length_map, hMp.out.length_eq]; exact hn.out
  have hMok := hid (show ∀ e ∈ M, EnOk e from fun e he => hLok.out.1 e (hMp.out.mem_iff.1 he))
  have hlns := hid (hMr.out.lns hMok.out)
  have hg4 := hid hMr.out.lt
  have hcp := hid (copyL_calls (M.map lrOf) (some ⟨g, 0, none⟩) n n hMl (by omega) w4 hlns)
  clear hal hP3
  go_wp2_with fail
  refine Calls.mono hcp.out ?_
  rintro e w5 ⟨so, cs, rfl, hwas, hso, b5⟩
  have s45 := hid b5.out.size
  have hnw := hid (new_calls R (by omega) (M.map lrOf) n hMl hnR (some ⟨g, 0, none⟩) n w5 (hid (hlns.out.kept b5.out)))
  clear hcp
  go_wp2_with fail
  refine Calls.mono hnw.out ?_
  rintro e w6 ⟨b6, ⟨-, qb, rfl, hQ⟩ | ⟨hbad, -⟩⟩
  rotate_left
  · exact absurd (okL_of hMp.out hLok.out.1 hLok.out.2.2.2.1) hbad.out
  have s56 := hid b6.out.size
  obtain ⟨E, hE⟩ : ∃ E, Hid (entsL (M.map lrOf) = E) := ⟨_, rfl⟩
  rw [hMl.out, hE.out] at hQ
  have hEn : Hid (E.length = n) := by show _ = _; rw [← hE.out, entsL_len]; have := hMl.out; rwa [List.length_map] at this
  have hEs : Hid (E.Pairwise ltE) := by rw [← hE.out]; exact hid (entsL_ltE hMs.out)
  have hEb : Hid (E.map lrOf = M.map lrOf) := by rw [← hE.out]; exact hid (entsL_back M)
  have hQ6 := hid (patM_at hQ.out)
  have hP6 := hid ((hP4.out.keptB b5.out).keptB b6.out)
  have hln := hid (fun (u : World) => learn_no pb ⟨#[47]⟩ ⟨#[97]⟩ (-1) (by omega) u)
  clear hnw hQ hP4
  go_wp2_with fail
  refine Calls.mono (hln.out _) ?_
  rintro e w7 ⟨rfl, rfl⟩
  have hal := hid (all_calls25 pb _ R came L w7 hP6.out)
  clear hln
  go_wp2_with fail
  refine Calls.mono hal.out ?_
  rintro e w8 ⟨g2, M2, rfl, hM2p, hM2s, hM2r, hg2, b8⟩
  obtain rfl : M2 = M := sortedE_one (hM2p.out.trans hMp.out.symm) hM2s.out hMs.out
  rw [hn.out] at hM2r ⊢
  have s68 := hid b8.out.size
  have hP8 := hid (hP6.out.keptB b8.out)
  have hQ8 := hid (hQ6.out.keptB b8.out)
  have hal2 := hid (all_calls25 qb _ R n E w8 hQ8.out)
  clear hal hP6 hQ6
  go_wp2_with fail
  refine Calls.mono hal2.out ?_
  rintro e w9 ⟨g3, M3, rfl, hM3p, hM3s, hM3r, hg3, b9⟩
  obtain rfl : M3 = E := sortedE_one hM3p.out hM3s.out hEs.out
  rw [hEn.out] at hM3r ⊢
  have s89 := hid b9.out.size
  have hP9 := hid (hP8.out.keptB b9.out)
  have hQ9 := hid (hQ8.out.keptB b9.out)
  have hEok := hid (show ∀ e ∈ M3, EnOk e from hQ9.out.ok.1)
  have hw9 := hid ((((hwas.out.kept b6.out).kept b8.out).kept b9.out))
  have hl2 := hid ((hM2r.out.kept b9.out).lns hMok.out)
  have hl3 : Hid (LnsAt w9 (some ⟨g3, 0, none⟩) (M2.map lrOf)) := by rw [← hEb.out]; exact hid (hM3r.out.lns hEok.out)
  have hsa := hid (same25_calls (M2.map lrOf) (some ⟨g2, 0, none⟩) so n n cs hMl (by omega) w9 hl2 hw9)
  clear hal2 hP8 hQ8
  go_wp2_with fail
  refine Calls.mono hsa.out ?_
  rintro e w10 ⟨rfl, b10⟩
  have b10 := hid b10
  have hsb := hid (same25_calls (M2.map lrOf) (some ⟨g3, 0, none⟩) so n n cs hMl (by omega) w10 (hid (hl3.out.kept b10.out)) (hid (hw9.out.kept b10.out)))
  clear hsa
  go_wp2_with fail
  refine Calls.mono hsb.out ?_
  rintro e w11 ⟨rfl, b11⟩
  have b11 := hid b11
  obtain ⟨W12, hW12⟩ : ∃ W, w11.alloc (.cells #[.slice (some ⟨g, 0, none⟩) n n, .slice (some ⟨g2, 0, none⟩) n n, .slice (some ⟨g3, 0, none⟩) n n] 22) = W := ⟨_, rfl⟩
  obtain ⟨G, hGs⟩ : ∃ G, w11.heap.size = G := ⟨_, rfl⟩
  have A12 := hid (show At W12 G _ _ from by rw [← hW12]; exact at_newP hGs)
  have b12 := hid (show Below w11.heap.size w11 W12 by rw [← hW12]; exact (Below.refl _ w11).alloc (Nat.le_refl _) _)
  have b9' := hid (show Below w9.heap.size w9 W12 from b10.out.trans ((b11.out.trans (b12.out.mono b11.out.size)).mono b10.out.size))
  have s9G := hid (show w9.heap.size ≤ G by rw [← hGs]; exact Nat.le_trans b10.out.size b11.out.size)
  have hg12 := hid hg2.out
  have hap := hid (apart3_calls (B := w3.heap.size) (n := n) (hid (((((hMr.out.kept b5.out).kept b6.out).kept b8.out).kept b9.out).kept b9'.out)) (hid ((hM2r.out.kept b9.out).kept b9'.out)) (hid (hM3r.out.kept b9'.out)) hg.out (by have h1 := hg4.out; have h2 := s45.out; have h3 := s56.out; have h4 := hg2.out; omega) (by have h1 := hM2r.out.lt; have h2 := hg3.out; omega) (by have h1 := hM3r.out.lt; have h2 := s9G.out; omega) (by omega) A12)
  clear hsb
  go_wp2_with fail
  refine Calls.mono hap.out ?_
  rintro e w13 ⟨rfl, hA, hAo⟩
  have hP12 := hid (hP9.out.keptB b9'.out)
  have hQ12 := hid (hQ9.out.keptB b9'.out)
  have hP13 := hid (hP12.out.kept (w' := w13) (fun q h1 h2 => hA.out.block q h1.2))
  have hQ13 := hid (hQ12.out.kept (w' := w13) (fun q h1 h2 => hAo.out q h2 (by have h3 := hg4.out; have h4 := s45.out; have h5 := h1.1; omega) (by have h3 := hg2.out; have h5 := h1.2; omega) (by have h3 := hg3.out; have h4 := s68.out; have h5 := h1.2; omega)))
  have s1213 := hid hA.out.size
  have hw12 := hid (hw9.out.kept b9'.out)
  have hw13 := hid (hw12.out.on (w' := w13) s1213.out (fun a e => hAo.out a.block (by have h1 := (hso.out a e).2; have h2 := s56.out; have h3 := s68.out; have h4 := s89.out; have h5 := b9'.out.size; omega) (by have h1 := (hso.out a e).1; have h2 := hg4.out; omega) (by have h1 := (hso.out a e).2; have h2 := s56.out; have h3 := hg2.out; omega) (by have h1 := (hso.out a e).2; have h2 := s56.out; have h3 := s68.out; have h4 := hg3.out; omega)))
  have B13 := hid (show Below w.heap.size w w13 from ((((((B4.out.trans (b5.out.mono B4.out.size)).trans (b6.out.mono (Nat.le_trans B4.out.size s45.out))).trans (b8.out.mono (Nat.le_trans B4.out.size (Nat.le_trans s45.out s56.out)))).trans (b9.out.mono (Nat.le_trans B4.out.size (Nat.le_trans s45.out (Nat.le_trans s56.out s68.out))))).trans (b9'.out.mono (Nat.le_trans B4.out.size (Nat.le_trans s45.out (Nat.le_trans s56.out (Nat.le_trans s68.out s89.out)))))).trans (hA.out.mono B3.out.size)))
  have s613 := hid (show w7.heap.size ≤ w13.heap.size from Nat.le_trans s68.out (Nat.le_trans s89.out (Nat.le_trans b9'.out.size s1213.out)))
  have hal := hid (all_calls25 pb _ R came L w13 hP13.out)
  clear hap hP9 hQ9 hw9 hl2 hl3 hM2p hM2s hM2r hM3p hM3s hM3r hMr hlns hW12 A12 b12 b9' hP12 hQ12 hw12 hA hAo b8 b9 b10 b11 hg2 hg3 hg12 hg hGs s9G
  go_wp2_with fail
  refine Calls.mono hal.out ?_
  rintro e w14 ⟨g4, M4, rfl, hM4p, hM4s, hM4r, hg4', b14⟩
  obtain rfl : M4 = M2 := sortedE_one (hM4p.out.trans hMp.out.symm) hM4s.out hMs.out
  rw [hn.out] at hM4r ⊢
  have hw14 := hid (hw13.out.kept b14.out)
  have hsa := hid (same25_calls (M4.map lrOf) (some ⟨g4, 0, none⟩) so n n cs hMl (by omega) w14 (hid (hM4r.out.lns hMok.out)) hw14)
  clear hal
  go_wp2_with fail
  refine Calls.mono hsa.out ?_
  rintro e w15 ⟨rfl, b15⟩
  have b15 := hid b15
  have b1315 := hid (show Below w13.heap.size w13 w15 from b14.out.trans (b15.out.mono b14.out.size))
  have hQ15 := hid (hQ13.out.keptB b1315.out)
  have hal := hid (all_calls25 qb _ R n M3 w15 hQ15.out)
  clear hsa
  go_wp2_with fail
  refine Calls.mono hal.out ?_
  rintro e w16 ⟨g5, M5, rfl, hM5p, hM5s, hM5r, hg5, b16⟩
  obtain rfl : M5 = M3 := sortedE_one hM5p.out hM5s.out hEs.out
  rw [hEn.out] at hM5r ⊢
  have hl5 : Hid (LnsAt w16 (some ⟨g5, 0, none⟩) (M4.map lrOf)) := by rw [← hEb.out]; exact hid (hM5r.out.lns hEok.out)
  have hsa := hid (same25_calls (M4.map lrOf) (some ⟨g5, 0, none⟩) so n n cs hMl (by omega) w16 hl5 (hid ((hw14.out.kept b15.out).kept b16.out)))
  clear hal
  go_wp2_with fail
  refine Calls.mono hsa.out ?_
  rintro e w17 ⟨rfl, b17⟩
  have b1317 := hid (show Below w13.heap.size w13 w17 from b1315.out.trans ((b16.out.trans (b17.mono b16.out.size)).mono b1315.out.size))
  have hP17 := hid (hP13.out.keptB b1317.out)
  have hQ17 := hid (hQ13.out.keptB b1317.out)
  have hw17 := hid (hw13.out.kept b1317.out)
  have B17 := hid (show Below w.heap.size w w17 from B13.out.trans (b1317.out.mono B13.out.size))
  have s617 := hid (show w7.heap.size ≤ w17.heap.size from Nat.le_trans s613.out b1317.out.size)
  clear hsa hP13 hQ13 hw13 hw14 hl5 hM5p hM5s hM5r hM4p hM4s hM4r hQ15 b1315 b14 b15 b16 b17 hg4' hg5
  go_wp2_with fail
  go_loopw [14] (fun ii wr => ∃ i : Nat, i ≤ K ∧ ii = .int .i64 (i : Int) ∧ Hid (Below w17.heap.size w17 wr)) (fun ii _ => K - (intOf ii).toNat)
  case atStart => exact ⟨0, Nat.zero_le _, rfl, hid (Below.refl _ _)⟩
  case round =>
    obtain ⟨i, hi, rfl, hB⟩ := hrel
    by_cases hlt : i < K
    · have hlti : (i : Int) < (K : Int) := by omega
      have hi' := hid (show i + 1 ≤ K by omega)
      obtain ⟨x, hx⟩ : ∃ x, Hid (mor[i]? = some x) := ⟨mor[i]'(by rw [hK.out]; exact hlt), List.getElem?_eq_getElem _⟩
      have hBw := hid (show Below w.heap.size w wr from B17.out.trans (hB.out.mono B17.out.size))
      obtain ⟨b, o, rfl, -, -, c2, c3, -⟩ := ops_at (hmor.out.kept hBw.out) hx.out
      have hxo := hid (hmor.out i x hx.out).1
      have ad : (⟨b, o, none⟩ : Addr).add (i * 5) = ⟨b, o + i * 5, none⟩ := by by_cases h : i * 5 = 0 <;> simp [Addr.add, h]
      have hgs : ∃ (p : Int) (k : Bool), Hid (∀ m, Calls Try.prog 19 #[ptB pb, .string x.r, .string x.n] (wr.drewN m) fun en w' => en = .returned (.tuple #[.int .i64 p, .bool k]) ∧ w' = wr.drewN m) ∧ Hid (∀ m m2, Calls Try.prog 19 #[ptB qb, .string x.r, .string x.n] ((wr.drewN m).drewN m2) fun en w' => en = .returned (.tuple #[.int .i64 p, .bool k]) ∧ w' = (wr.drewN m).drewN m2) := by
        have hPr := fun m => (hP17.out.keptB hB.out).keptB (below_drewN wr.heap.size wr m)
        have hQr := fun m m2 => ((hQ17.out.keptB hB.out).keptB (below_drewN wr.heap.size wr m)).keptB (below_drewN _ (wr.drewN m) m2)
        by_cases hk : ∃ e ∈ L, e.r = x.r ∧ e.n = x.n
        · obtain ⟨e, he, h1, h2⟩ := hk
          obtain ⟨f, hf, f1, f2, f3⟩ := ents_yes hMp.out he
          rw [hE.out] at hf
          refine ⟨(e.p : Int), true, hid fun m => ?_, hid fun m m2 => ?_⟩
          · rw [← h1, ← h2]
            exact guess_yes pb _ R came L e he _ (hPr m)
          · rw [← h1, ← h2, ← f1, ← f2, ← f3]
            exact guess_yes qb _ R n M5 f hf _ (hQr m m2)
        · have hno : ∀ e ∈ L, ¬ (e.r = x.r ∧ e.n = x.n) := fun e he h => hk ⟨e, he, h⟩
          have hno2 := ents_no hMp.out hno
          rw [hE.out] at hno2
          exact ⟨0, false, hid fun m => guess_no pb _ R came L x.r x.n hxo.out.1 hno _ (hPr m), hid fun m m2 => guess_no qb _ R n M5 x.r x.n hxo.out.1 hno2 _ (hQr m m2)⟩
      obtain ⟨pp, kk, hg1, hg2⟩ := hgs
      obtain ⟨on, kd, r, nn, p⟩ := x
      dsimp only at *
      have epp : (pp == pp) = true := by simp
      have ekk : (kk == kk) = true := by simp
      go_wp2_with fail
      go_quiet ((go_at_call 19; exact Calls.quiet_of_same (hg1.out _)))
      obtain ⟨W1, hW1⟩ : ∃ W, wr.drewN nq = W := ⟨_, rfl⟩
      rw [hW1]
      have d2 : W1.cell? ⟨b, o + i * 5 + 2, none⟩ = some (.string r) := by rw [← hW1]; exact c2
      have d3 : W1.cell? ⟨b, o + i * 5 + 3, none⟩ = some (.string nn) := by rw [← hW1]; exact c3
      have hg3 := hid (show ∀ m2, Calls Try.prog 19 #[ptB qb, .string r, .string nn] (W1.drewN m2) fun en w' => en = .returned (.tuple #[.int .i64 pp, .bool kk]) ∧ w' = W1.drewN m2 from fun m2 => by rw [← hW1]; exact hg2.out nq m2)
      have hB1 := hid (show Below w17.heap.size w17 W1 by rw [← hW1]; exact hB.out.trans ((below_drewN wr.heap.size wr nq).mono hB.out.size))
      clear hW1 c2 c3 hg1 hg2 hB hBw
      go_wp2_with fail
      go_quiet ((go_at_call 19; exact Calls.quiet_of_same (hg3.out _)))
      have hB2 := hid (show Below w17.heap.size w17 (W1.drewN nq) from hB1.out.trans ((below_drewN W1.heap.size W1 nq).mono hB1.out.size))
      clear d2 d3 hg3 hB1
      go_wp2
      go_roundw
      case rel => exact ⟨i + 1, hi'.out, by simp, hB2⟩
      case measure => simp [intOf]; have := hi'.out; omega
    · obtain rfl : i = K := by omega
      have hP18 := hid (hP17.out.keptB hB.out)
      have hQ18 := hid (hQ17.out.keptB hB.out)
      have hw18 := hid (hw17.out.kept hB.out)
      have B18 := hid (show Below w.heap.size w wr from B17.out.trans (hB.out.mono B17.out.size))
      have s618 := hid (show w7.heap.size ≤ wr.heap.size from Nat.le_trans s617.out hB.out.size)
      obtain ⟨w18, rfl⟩ : ∃ w18, w18 = wr := ⟨_, rfl⟩
      clear hP17 hQ17 hw17 B17 s617 hB
      go_wp2_with fail
      go_loopw [19] (fun ii wr => ∃ (i3 c : Nat) (L' : List Ent), i3 ≤ i ∧ ii = .int .i64 (i3 : Int) ∧ Hid (c ≤ N + i3) ∧ Hid (PatM wr pb (fun q => (w2.heap.size ≤ q ∧ q < w3.heap.size) ∨ w18.heap.size ≤ q) R c L') ∧ Hid (Lap (fun q => (w2.heap.size ≤ q ∧ q < w3.heap.size) ∨ w18.heap.size ≤ q) w18 wr)) (fun ii _ => i - (intOf ii).toNat)
      case atStart => exact ⟨0, came, L, Nat.zero_le _, rfl, hcm, hid (hP18.out.mono (fun q _ h => .inl h)), hid (Lap.refl _ _)⟩
      case round =>
        clear hP18
        obtain ⟨i2, c, L', hi, rfl, hc, hPr, hlap⟩ := hrel
        have hBr := hid (show Below w.heap.size w wr from B18.out.trans (hlap.out.below B18.out.size (fun q h => by
          rcases h with h | h
          · exact Nat.le_trans s12.out h.1
          · exact Nat.le_trans B18.out.size h)))
        by_cases hlt : i2 < i
        · have hlti : (i2 : Int) < (i : Int) := by omega
          have hi' := hid (show i2 + 1 ≤ i by omega)
          obtain ⟨x, hx⟩ : ∃ x, Hid (mor[i2]? = some x) := ⟨mor[i2]'(by rw [hK.out]; exact hlt), List.getElem?_eq_getElem _⟩
          have hcm2 : c < 4611686018427387904 := by have := hc.out; omega
          have hxo := hid (hmor.out i2 x hx.out).1
          obtain ⟨b, o, rfl, -⟩ := ops_at hmor.out hx.out
          have hSu := hid (fun (u : World) (hu : Below w.heap.size w u) => (show u.cell? ⟨b, o + i2 * 5 + 2, none⟩ = some (.string x.r) ∧ u.cell? ⟨b, o + i2 * 5 + 3, none⟩ = some (.string x.n) ∧ u.cell? ⟨b, o + i2 * 5 + 4, none⟩ = some (.int .i64 x.p) from by
            obtain ⟨b', o', h1, -, -, h2, h3, h4⟩ := ops_at (hmor.out.kept hu) hx.out
            cases h1
            exact ⟨h2, h3, h4⟩))
          have ad : (⟨b, o, none⟩ : Addr).add (i2 * 5) = ⟨b, o + i2 * 5, none⟩ := by by_cases h : i2 * 5 = 0 <;> simp [Addr.add, h]
          obtain ⟨on, kd, r, nn, p⟩ := x
          dsimp only at *
          by_cases hp : p < 0
          · have hle := hid (fun (u : World) => learn_no pb r nn p hp u)
            go_wp2_with fail
            rename_i Kr hKr
            refine wp_region_held_drew (S := fun u => (u.cell? ⟨b, o + i2 * 5 + 2, none⟩ = some (.string r) ∧ u.cell? ⟨b, o + i2 * 5 + 3, none⟩ = some (.string nn) ∧ u.cell? ⟨b, o + i2 * 5 + 4, none⟩ = some (.int .i64 p))) (by kernel_rfl) (hSu.out _ hBr.out.drew) (fun hH => ?_)
            (refine' wpAnyH_take (i := 0) rfl (by kernel_rfl) (by kernel_rfl) (by kernel_rfl) (fun _ _ _ h => h) (Or.inl ⟨by rfl, ?_⟩) (by assumption) ?_; rotate_left; (· (intro wq hq; (try dsimp only at hq); go_simp; first | done | with_reducible rfl)); simp only [Act.put, List.getElem_toArray, List.getElem_cons_zero, List.setIfInBounds_toArray, List.set_cons_zero, List.set_cons_succ])
            (refine' wpAnyH_take (i := 1) rfl (by kernel_rfl) (by kernel_rfl) (by kernel_rfl) (fun _ _ _ h => h) (Or.inl ⟨by rfl, ?_⟩) (by assumption) ?_; rotate_left; (· (intro wq hq; (try dsimp only at hq); go_simp; first | done | with_reducible rfl)); simp only [Act.put, List.getElem_toArray, List.getElem_cons_zero, List.getElem_cons_succ, List.setIfInBounds_toArray, List.set_cons_zero, List.set_cons_succ])
            (refine' wpAnyH_take (i := 2) rfl (by kernel_rfl) (by kernel_rfl) (by kernel_rfl) (fun _ _ _ h => h) (Or.inl ⟨by rfl, ?_⟩) (by assumption) ?_; rotate_left; (· (intro wq hq; (try dsimp only at hq); go_simp; first | done | with_reducible rfl)); simp only [Act.put, List.getElem_toArray, List.getElem_cons_zero, List.getElem_cons_succ, List.setIfInBounds_toArray, List.set_cons_zero, List.set_cons_succ])
            (refine' wpAnyH_take (i := 3) rfl (by kernel_rfl) (by kernel_rfl) (by kernel_rfl) (fun _ _ _ h => h) (Or.inl ⟨by rfl, ?_⟩) (by assumption) ?_; rotate_left; (· (intro wq hq; (try dsimp only at hq); go_simp; first | done | with_reducible rfl)); simp only [Act.put, List.getElem_toArray, List.getElem_cons_zero, List.getElem_cons_succ, List.setIfInBounds_toArray, List.set_cons_zero, List.set_cons_succ])
            (refine' wpAnyH_take (i := 4) rfl (by kernel_rfl) (by kernel_rfl) (by kernel_rfl) (fun _ _ _ h => h) (Or.inl ⟨by rfl, ?_⟩) (by assumption) ?_; rotate_left; (· (intro wq hq; (try dsimp only at hq); go_simp; first | done | with_reducible rfl)); simp only [Act.put, List.getElem_toArray, List.getElem_cons_zero, List.getElem_cons_succ, List.setIfInBounds_toArray, List.set_cons_zero, List.set_cons_succ])
            (refine' wpAnyH_take (i := 5) rfl (by kernel_rfl) (by kernel_rfl) (by kernel_rfl) (fun _ _ _ h => h) (Or.inl ⟨by rfl, ?_⟩) (by assumption) ?_; rotate_left; (· (intro wq hq; (try dsimp only at hq); go_simp; first | done | with_reducible rfl)); simp only [Act.put, List.getElem_toArray, List.getElem_cons_zero, List.getElem_cons_succ, List.setIfInBounds_toArray, List.set_cons_zero, List.set_cons_succ])
            (refine' wpAnyH_take (i := 6) rfl (by kernel_rfl) (by kernel_rfl) (by kernel_rfl) (fun _ _ _ h => h) (Or.inl ⟨by rfl, ?_⟩) (by assumption) ?_; rotate_left; (· (intro wq hq; (try dsimp only at hq); go_simp; first | done | with_reducible rfl)); simp only [Act.put, List.getElem_toArray, List.getElem_cons_zero, List.getElem_cons_succ, List.setIfInBounds_toArray, List.set_cons_zero, List.set_cons_succ])
            (refine' wpAnyH_take (i := 7) rfl (by kernel_rfl) (by kernel_rfl) (by kernel_rfl) (fun _ _ _ h => h) (Or.inl ⟨by rfl, ?_⟩) (by assumption) ?_; rotate_left; (· (intro wq hq; (try dsimp only at hq); go_simp; first | done | with_reducible rfl)); simp only [Act.put, List.getElem_toArray, List.getElem_cons_zero, List.getElem_cons_succ, List.setIfInBounds_toArray, List.set_cons_zero, List.set_cons_succ])
            (refine' wpAnyH_take (i := 8) rfl (by kernel_rfl) (by kernel_rfl) (by kernel_rfl) (fun _ _ _ h => h) (Or.inl ⟨by rfl, ?_⟩) (by assumption) ?_; rotate_left; (· (intro wq hq; (try dsimp only at hq); go_simp; first | done | with_reducible rfl)); simp only [Act.put, List.getElem_toArray, List.getElem_cons_zero, List.getElem_cons_succ, List.setIfInBounds_toArray, List.set_cons_zero, List.set_cons_succ])
            (refine' wpAnyH_take (i := 9) rfl (by kernel_rfl) (by kernel_rfl) (by kernel_rfl) (fun _ _ _ h => h) (Or.inl ⟨by rfl, ?_⟩) (by assumption) ?_; rotate_left; (· (intro wq hq; (try dsimp only at hq); go_simp; first | done | with_reducible rfl)); simp only [Act.put, List.getElem_toArray, List.getElem_cons_zero, List.getElem_cons_succ, List.setIfInBounds_toArray, List.set_cons_zero, List.set_cons_succ])
            (refine' wpAnyH_take (i := 10) rfl (by kernel_rfl) (by kernel_rfl) (by kernel_rfl) (fun _ _ _ h => h) (Or.inl ⟨by rfl, ?_⟩) (by assumption) ?_; rotate_left; (· (intro wq hq; (try dsimp only at hq); go_simp; first | done | with_reducible rfl)); simp only [Act.put, List.getElem_toArray, List.getElem_cons_zero, List.getElem_cons_succ, List.setIfInBounds_toArray, List.set_cons_zero, List.set_cons_succ])
            (refine' wpAnyH_take (i := 11) rfl (by kernel_rfl) (by kernel_rfl) (by kernel_rfl) (fun _ _ _ h => h) (Or.inl ⟨by rfl, ?_⟩) (by assumption) ?_; rotate_left; (· (intro wq hq; (try dsimp only at hq); go_simp; first | done | with_reducible rfl)); simp only [Act.put, List.getElem_toArray, List.getElem_cons_zero, List.getElem_cons_succ, List.setIfInBounds_toArray, List.set_cons_zero, List.set_cons_succ])
            (refine' wpAnyH_take (i := 12) rfl (by kernel_rfl) (by kernel_rfl) (by kernel_rfl) (fun _ _ _ h => h) (Or.inl ⟨by rfl, ?_⟩) (by assumption) ?_; rotate_left; (· (intro wq hq; (try dsimp only at hq); go_simp; first | done | with_reducible rfl)); simp only [Act.put, List.getElem_toArray, List.getElem_cons_zero, List.getElem_cons_succ, List.setIfInBounds_toArray, List.set_cons_zero, List.set_cons_succ])
            (refine' wpAnyH_take (i := 13) rfl (by kernel_rfl) (by kernel_rfl) (by kernel_rfl) (fun _ _ _ h => h) (Or.inl ⟨by rfl, ?_⟩) (by assumption) ?_; rotate_left; (· (intro wq hq; (try dsimp only at hq); go_simp; first | done | with_reducible rfl)); simp only [Act.put, List.getElem_toArray, List.getElem_cons_zero, List.getElem_cons_succ, List.setIfInBounds_toArray, List.set_cons_zero, List.set_cons_succ])
            (refine' wpAnyH_take (i := 14) rfl (by kernel_rfl) (by kernel_rfl) (by kernel_rfl) (fun _ _ _ h => h) (Or.inl ⟨by rfl, ?_⟩) (by assumption) ?_; rotate_left; (· (intro wq hq; (try dsimp only at hq); go_simp; first | done | with_reducible rfl)); simp only [Act.put, List.getElem_toArray, List.getElem_cons_zero, List.getElem_cons_succ, List.setIfInBounds_toArray, List.set_cons_zero, List.set_cons_succ])
            (refine' wpAnyH_take (i := 15) rfl (by kernel_rfl) (by kernel_rfl) (by kernel_rfl) (fun _ _ _ h => h) (Or.inl ⟨by rfl, ?_⟩) (by assumption) ?_; rotate_left; (· (intro wq hq; (try dsimp only at hq); go_simp; first | done | with_reducible rfl)); simp only [Act.put, List.getElem_toArray, List.getElem_cons_zero, List.getElem_cons_succ, List.setIfInBounds_toArray, List.set_cons_zero, List.set_cons_succ])
            refine wpAnyH_ready (rs := [16]) (by kernel_rfl) (by simp) ?_
            refine AllReadyH.cons rfl (fun K hK => ?_) ?_
            rotate_left
            · exact AllReadyH.nil
            rw [if_pos (by rfl)]
            go_simp
            refine Calls.mono (hle.out _) ?_
            rintro e wz ⟨rfl, rfl⟩
            refine hK _ _ hH (fun hH2 => ?_)
            clear hK
            refine wpAnyH_done (by kernel_rfl) ?_ _
            refine hKr _ _ ?_
            have hP2 := hid (hPr.out.keptB (w' := wr.drew) (below_drewN _ _ 1))
            have hlap2 := hid hlap.out.drew
            have hc2 : Hid (c ≤ N + (i2 + 1)) := by have := hc.out; exact hid (by omega)
            clear hPr hlap hle hSu hH hH2 hBr
            go_wp2
            go_roundw
            case rel => exact ⟨i2 + 1, c, L', hi'.out, by simp, hc2, hP2, hlap2⟩
            case measure => simp [intOf]; have := hi'.out; omega
          · obtain ⟨pn, rfl⟩ : ∃ k : Nat, p = (k : Int) := ⟨p.toNat, by omega⟩
            have hle := hid (learn_calls pb _ R c L' hcm2 r nn hxo.out.1 pn (by have := hxo.out.2.2.1; dsimp only at this; omega) wr.drew (hPr.out.keptB (w' := wr.drew) (below_drewN _ _ 1)))
            go_wp2_with fail
            rename_i Kr hKr
            refine wp_region_held_drew (S := fun u => (u.cell? ⟨b, o + i2 * 5 + 2, none⟩ = some (.string r) ∧ u.cell? ⟨b, o + i2 * 5 + 3, none⟩ = some (.string nn) ∧ u.cell? ⟨b, o + i2 * 5 + 4, none⟩ = some (.int .i64 (pn : Int)))) (by kernel_rfl) (hSu.out _ hBr.out.drew) (fun hH => ?_)
            (refine' wpAnyH_take (i := 0) rfl (by kernel_rfl) (by kernel_rfl) (by kernel_rfl) (fun _ _ _ h => h) (Or.inl ⟨by rfl, ?_⟩) (by assumption) ?_; rotate_left; (· (intro wq hq; (try dsimp only at hq); go_simp; first | done | with_reducible rfl)); simp only [Act.put, List.getElem_toArray, List.getElem_cons_zero, List.setIfInBounds_toArray, List.set_cons_zero, List.set_cons_succ])
            (refine' wpAnyH_take (i := 1) rfl (by kernel_rfl) (by kernel_rfl) (by kernel_rfl) (fun _ _ _ h => h) (Or.inl ⟨by rfl, ?_⟩) (by assumption) ?_; rotate_left; (· (intro wq hq; (try dsimp only at hq); go_simp; first | done | with_reducible rfl)); simp only [Act.put, List.getElem_toArray, List.getElem_cons_zero, List.getElem_cons_succ, List.setIfInBounds_toArray, List.set_cons_zero, List.set_cons_succ])
            (refine' wpAnyH_take (i := 2) rfl (by kernel_rfl) (by kernel_rfl) (by kernel_rfl) (fun _ _ _ h => h) (Or.inl ⟨by rfl, ?_⟩) (by assumption) ?_; rotate_left; (· (intro wq hq; (try dsimp only at hq); go_simp; first | done | with_reducible rfl)); simp only [Act.put, List.getElem_toArray, List.getElem_cons_zero, List.getElem_cons_succ, List.setIfInBounds_toArray, List.set_cons_zero, List.set_cons_succ])
            (refine' wpAnyH_take (i := 3) rfl (by kernel_rfl) (by kernel_rfl) (by kernel_rfl) (fun _ _ _ h => h) (Or.inl ⟨by rfl, ?_⟩) (by assumption) ?_; rotate_left; (· (intro wq hq; (try dsimp only at hq); go_simp; first | done | with_reducible rfl)); simp only [Act.put, List.getElem_toArray, List.getElem_cons_zero, List.getElem_cons_succ, List.setIfInBounds_toArray, List.set_cons_zero, List.set_cons_succ])
            (refine' wpAnyH_take (i := 4) rfl (by kernel_rfl) (by kernel_rfl) (by kernel_rfl) (fun _ _ _ h => h) (Or.inl ⟨by rfl, ?_⟩) (by assumption) ?_; rotate_left; (· (intro wq hq; (try dsimp only at hq); go_simp; first | done | with_reducible rfl)); simp only [Act.put, List.getElem_toArray, List.getElem_cons_zero, List.getElem_cons_succ, List.setIfInBounds_toArray, List.set_cons_zero, List.set_cons_succ])
            (refine' wpAnyH_take (i := 5) rfl (by kernel_rfl) (by kernel_rfl) (by kernel_rfl) (fun _ _ _ h => h) (Or.inl ⟨by rfl, ?_⟩) (by assumption) ?_; rotate_left; (· (intro wq hq; (try dsimp only at hq); go_simp; first | done | with_reducible rfl)); simp only [Act.put, List.getElem_toArray, List.getElem_cons_zero, List.getElem_cons_succ, List.setIfInBounds_toArray, List.set_cons_zero, List.set_cons_succ])
            (refine' wpAnyH_take (i := 6) rfl (by kernel_rfl) (by kernel_rfl) (by kernel_rfl) (fun _ _ _ h => h) (Or.inl ⟨by rfl, ?_⟩) (by assumption) ?_; rotate_left; (· (intro wq hq; (try dsimp only at hq); go_simp; first | done | with_reducible rfl)); simp only [Act.put, List.getElem_toArray, List.getElem_cons_zero, List.getElem_cons_succ, List.setIfInBounds_toArray, List.set_cons_zero, List.set_cons_succ])
            (refine' wpAnyH_take (i := 7) rfl (by kernel_rfl) (by kernel_rfl) (by kernel_rfl) (fun _ _ _ h => h) (Or.inl ⟨by rfl, ?_⟩) (by assumption) ?_; rotate_left; (· (intro wq hq; (try dsimp only at hq); go_simp; first | done | with_reducible rfl)); simp only [Act.put, List.getElem_toArray, List.getElem_cons_zero, List.getElem_cons_succ, List.setIfInBounds_toArray, List.set_cons_zero, List.set_cons_succ])
            (refine' wpAnyH_take (i := 8) rfl (by kernel_rfl) (by kernel_rfl) (by kernel_rfl) (fun _ _ _ h => h) (Or.inl ⟨by rfl, ?_⟩) (by assumption) ?_; rotate_left; (· (intro wq hq; (try dsimp only at hq); go_simp; first | done | with_reducible rfl)); simp only [Act.put, List.getElem_toArray, List.getElem_cons_zero, List.getElem_cons_succ, List.setIfInBounds_toArray, List.set_cons_zero, List.set_cons_succ])
            (refine' wpAnyH_take (i := 9) rfl (by kernel_rfl) (by kernel_rfl) (by kernel_rfl) (fun _ _ _ h => h) (Or.inl ⟨by rfl, ?_⟩) (by assumption) ?_; rotate_left; (· (intro wq hq; (try dsimp only at hq); go_simp; first | done | with_reducible rfl)); simp only [Act.put, List.getElem_toArray, List.getElem_cons_zero, List.getElem_cons_succ, List.setIfInBounds_toArray, List.set_cons_zero, List.set_cons_succ])
            (refine' wpAnyH_take (i := 10) rfl (by kernel_rfl) (by kernel_rfl) (by kernel_rfl) (fun _ _ _ h => h) (Or.inl ⟨by rfl, ?_⟩) (by assumption) ?_; rotate_left; (· (intro wq hq; (try dsimp only at hq); go_simp; first | done | with_reducible rfl)); simp only [Act.put, List.getElem_toArray, List.getElem_cons_zero, List.getElem_cons_succ, List.setIfInBounds_toArray, List.set_cons_zero, List.set_cons_succ])
            (refine' wpAnyH_take (i := 11) rfl (by kernel_rfl) (by kernel_rfl) (by kernel_rfl) (fun _ _ _ h => h) (Or.inl ⟨by rfl, ?_⟩) (by assumption) ?_; rotate_left; (· (intro wq hq; (try dsimp only at hq); go_simp; first | done | with_reducible rfl)); simp only [Act.put, List.getElem_toArray, List.getElem_cons_zero, List.getElem_cons_succ, List.setIfInBounds_toArray, List.set_cons_zero, List.set_cons_succ])
            (refine' wpAnyH_take (i := 12) rfl (by kernel_rfl) (by kernel_rfl) (by kernel_rfl) (fun _ _ _ h => h) (Or.inl ⟨by rfl, ?_⟩) (by assumption) ?_; rotate_left; (· (intro wq hq; (try dsimp only at hq); go_simp; first | done | with_reducible rfl)); simp only [Act.put, List.getElem_toArray, List.getElem_cons_zero, List.getElem_cons_succ, List.setIfInBounds_toArray, List.set_cons_zero, List.set_cons_succ])
            (refine' wpAnyH_take (i := 13) rfl (by kernel_rfl) (by kernel_rfl) (by kernel_rfl) (fun _ _ _ h => h) (Or.inl ⟨by rfl, ?_⟩) (by assumption) ?_; rotate_left; (· (intro wq hq; (try dsimp only at hq); go_simp; first | done | with_reducible rfl)); simp only [Act.put, List.getElem_toArray, List.getElem_cons_zero, List.getElem_cons_succ, List.setIfInBounds_toArray, List.set_cons_zero, List.set_cons_succ])
            (refine' wpAnyH_take (i := 14) rfl (by kernel_rfl) (by kernel_rfl) (by kernel_rfl) (fun _ _ _ h => h) (Or.inl ⟨by rfl, ?_⟩) (by assumption) ?_; rotate_left; (· (intro wq hq; (try dsimp only at hq); go_simp; first | done | with_reducible rfl)); simp only [Act.put, List.getElem_toArray, List.getElem_cons_zero, List.getElem_cons_succ, List.setIfInBounds_toArray, List.set_cons_zero, List.set_cons_succ])
            (refine' wpAnyH_take (i := 15) rfl (by kernel_rfl) (by kernel_rfl) (by kernel_rfl) (fun _ _ _ h => h) (Or.inl ⟨by rfl, ?_⟩) (by assumption) ?_; rotate_left; (· (intro wq hq; (try dsimp only at hq); go_simp; first | done | with_reducible rfl)); simp only [Act.put, List.getElem_toArray, List.getElem_cons_zero, List.getElem_cons_succ, List.setIfInBounds_toArray, List.set_cons_zero, List.set_cons_succ])
            refine wpAnyH_ready (rs := [16]) (by kernel_rfl) (by simp) ?_
            refine AllReadyH.cons rfl (fun K hK => ?_) ?_
            rotate_left
            · exact AllReadyH.nil
            rw [if_pos (by rfl)]
            go_simp
            refine Calls.mono hle.out ?_
            rintro e wz ⟨rfl, c', L2, hl', hP', hlap'⟩
            have s18 := hid (show w18.heap.size ≤ wr.drew.heap.size from hlap.out.size)
            have hlap2 := hid (show Lap (fun q => (w2.heap.size ≤ q ∧ q < w3.heap.size) ∨ w18.heap.size ≤ q) w18 wz from hlap.out.drew.trans hlap'.out (fun q _ h => h))
            have hP2 := hid (hP'.out.mono (S' := fun q => (w2.heap.size ≤ q ∧ q < w3.heap.size) ∨ w18.heap.size ≤ q) (fun q _ h => by
              rcases h with h | h
              · exact h
              · exact .inr (Nat.le_trans s18.out h)))
            have hc2 : Hid (c' ≤ N + (i2 + 1)) := by have := hc.out; have := lrn_came hl'.out; exact hid (by omega)
            have hB2 := hid (show Below w.heap.size w wz from B18.out.trans (hlap2.out.below B18.out.size (fun q h => by
              rcases h with h | h
              · exact Nat.le_trans s12.out h.1
              · exact Nat.le_trans B18.out.size h)))
            refine hK _ _ (hSu.out _ hB2.out) (fun hH2 => ?_)
            clear hK
            refine wpAnyH_done (by kernel_rfl) ?_ _
            refine hKr _ _ ?_
            clear hPr hlap hle hSu hH hH2 hBr hP' hlap' hl' hB2
            go_wp2
            go_roundw
            case rel => exact ⟨i2 + 1, c', L2, hi'.out, by simp, hc2, hP2, hlap2⟩
            case measure => simp [intOf]; have := hi'.out; omega
        · obtain rfl : i2 = i := by omega
          have hnz := hid (show ∀ q, w4.heap.size ≤ q → q < w18.heap.size → wr.heap[q]? = w18.heap[q]? from fun q h1 h2 => hlap.out.block q h2 (fun h => by
            rcases h with h | h
            · have := s34.out; omega
            · omega))
          have hQe := hid (hQ18.out.kept (w' := wr) (fun q h1 h2 => hnz.out q (by have := s45.out; have := h1.1; omega) h2))
          have hwe := hid (hw18.out.on (w' := wr) hlap.out.size (fun a e => hnz.out a.block (hso.out a e).1 (by have h1 := (hso.out a e).2; have h2 := s56.out; have h3 := s618.out; omega)))
          have hal := hid (all_calls25 qb _ R n M5 wr hQe.out)
          clear hPr hlap hnz hQ18 hw18
          go_wp2_with fail
          refine Calls.mono hal.out ?_
          rintro e w19 ⟨g6, M6, rfl, hM6p, hM6s, hM6r, hg6, b19⟩
          obtain rfl : M6 = M5 := sortedE_one hM6p.out hM6s.out hEs.out
          rw [hEn.out] at hM6r ⊢
          have hl6 : Hid (LnsAt w19 (some ⟨g6, 0, none⟩) (M4.map lrOf)) := by rw [← hEb.out]; exact hid (hM6r.out.lns hEok.out)
          have hsa := hid (same25_calls (M4.map lrOf) (some ⟨g6, 0, none⟩) so n n cs hMl (by omega) w19 hl6 (hid (hwe.out.kept b19.out)))
          clear hal
          go_wp2_with fail
          refine Calls.mono hsa.out ?_
          rintro e w20 ⟨rfl, b20⟩
          have hfin := hid (show Below w.heap.size w w20 from hBr.out.trans ((b19.out.trans (b20.mono b19.out.size)).mono hBr.out.size))
          go_wp2
          go_ret
          exact ⟨rfl, hfin.out⟩
end Go.Proofs.Ytiggfigjibggaaa
