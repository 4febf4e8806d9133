/-
  What quarrykit.ApartWords answers of rows that lie apart: true.
-/
import Derived.Test.YtmjmcdoanolelabDoorApartKit4
import Derived.Deep.RegionHeld
import Derived.Deep.DeepCutAuto
namespace Go.Proofs.YtmjmcdoanolelabDoor
open Go.RowKit

set_option maxRecDepth 10000 in
set_option maxHeartbeats 8000000 in
theorem apartW_calls (w : World) (G n cap B : Nat) (rs : List RowX) (F : Nat → Nat → Nat) (cs : Array Value) (ty : TypeId) (hn : rs.length = n) (hn2 : n ≤ 100) (hr : ∀ x ∈ rs, x.r ≤ 17592186044351) (hBw : B ≤ w.heap.size) (hGa : At w G cs ty) (hGr : ∀ (k : Nat) (x : RowX), rs[k]? = some x → x.g ≠ some G) (hG : ∀ (k : Nat) (x : RowX), rs[k]? = some x → cs[k]? = some (slX x)) (hR : RowsX w B rs F) :
    Calls Tryd.prog 22 #[.slice (some ⟨G, 0, none⟩) n cap] w fun e w' => e = .returned (.bool true) ∧ ApartK B rs w w' := by
  have hGc : Hid (∀ (W : World), ApartK B rs w W → ∀ (k : Nat) (x : RowX), rs[k]? = some x → W.cell? ⟨G, k, none⟩ = some (slX x)) := fun W h k x hk => by
    rw [(h.2 G cs ty hGa hGr).cell k, hG k x hk]
  have hR' := hid hR
  have hn' := hid hn
  have hr' := hid hr
  have hBw' := hid hBw
  have hGr' := hid hGr
  have hgw : Hid (∀ (k : Nat) (x : RowX) (g : Nat), rs[k]? = some x → x.g = some g → g < w.heap.size) := fun k x g hk hg => hR.lt hk hg
  clear hG hR hn hr hGa hGr hBw
  go_enter Tryd.func22, Tryd.ntmps22
  go_wp2
  go_loopw [3, 4] (fun kk _ wr => ∃ k : Nat, k ≤ n ∧ kk = .int .i64 (k : Int) ∧ Hid (RowsX wr B rs (fun l j => if l < k then markN l j else F l j)) ∧ Hid (ApartK B rs w wr)) (fun kk _ _ => n - (intOf kk).toNat)
  case atStart => exact ⟨0, Nat.zero_le _, rfl, hid (hR'.out.congr (fun k x j _ _ => by simp)), hid (ApartK.refl _ _ _)⟩
  case round =>
    obtain ⟨k, hkn, rfl, hX, hB⟩ := hrel
    by_cases hlt : k < n
    · -- <<
      have hki : (k : Int) < (n : Int) := by omega
      obtain ⟨x, hx⟩ : ∃ x, rs[k]? = some x := ⟨_, List.getElem?_eq_getElem (by have := hn'.out; omega)⟩
      have hx' := hid hx
      have hxr := hr'.out x (List.mem_of_getElem? hx)
      clear hx
      go_wp2
      go_loopw [4] (fun ii wr => ∃ i : Nat, i ≤ x.r ∧ ii = .int .i64 (i : Int) ∧ Hid (RowsX wr B rs (fun l j => if l < k ∨ (l = k ∧ j < i) then markN l j else F l j)) ∧ Hid (ApartK B rs w wr)) (fun ii _ => x.r - (intOf ii).toNat)
      case atStart => exact ⟨0, Nat.zero_le _, rfl, hid (hX.out.congr (fun l y j _ _ => by simp)), hB⟩
      case round =>
        obtain ⟨i, hir, rfl, hX2, hB2⟩ := hrel
        have c0 : wr.cell? ⟨G, k, none⟩ = some (.slice (x.g.map fun g => ⟨g, 0, none⟩) x.r x.r) := hGc.out wr hB2.out k x hx'.out
        by_cases hil : i < x.r
        · have hii : (i : Int) < (x.r : Int) := by omega
          obtain ⟨g, hg, hgB, hgA, m0, f0⟩ := hX2.out.at hx'.out hil
          rw [hg] at c0
          simp only [Option.map_some] at c0
          have hmk := hid (mark_calls k i (by omega) (by omega))
          obtain ⟨mk, hmkN⟩ : ∃ mk, Hid (markN k i = mk) := ⟨_, rfl⟩
          have hms : mk < 9223372036854775808 := by rw [← hmkN.out]; unfold markN; omega
          rw [hmkN.out] at hmk
          have hst := hid (hX2.out.set hx'.out hg i mk)
          have hBs := hid (hB2.out.row hx'.out hg hgB i (.int .u64 ((mk : Nat) : Int)))
          have hgG : Hid (g ≠ G) := fun e => hGr'.out k x hx'.out (by rw [hg, e])
          have ewr : IntKind.u64.wrap (mk : Int) = (mk : Int) := by rw [IntKind.wrap_u64]; omega
          have cs' : ∀ v, (wr.setCell ⟨g, i, none⟩ v).cell? ⟨G, k, none⟩ = some (.slice (some ⟨g, 0, none⟩) x.r x.r) := fun v => by
            rw [World.cell?_setCell_other _ _ _ _ (by simp; intro e; exact absurd e hgG.out)]; exact c0
          have cs'' := hid cs'
          clear cs' hgA
          go_wp2_with fail
          rename_i K7 hK7
          refine wp_region_held_drew (S := fun w' => w'.cell? ⟨G, k, none⟩ = some (.slice (some ⟨g, 0, none⟩) x.r x.r)) (by kernel_rfl) c0 (fun hHeld => ?_)
          (refine' wpAnyH_take (i := 0) rfl (by kernel_rfl) (by kernel_rfl) (by kernel_rfl) (fun _ _ _ h => h) (Or.inl ⟨by rfl, ?_⟩) (by assumption) ?_; rotate_left; (· (intro wq hq; (try dsimp only at hq); go_simp; first | done | with_reducible rfl)); simp only [Act.put, List.getElem_toArray, List.getElem_cons_zero, List.setIfInBounds_toArray, List.set_cons_zero, List.set_cons_succ])
          (refine' wpAnyH_take (i := 1) rfl (by kernel_rfl) (by kernel_rfl) (by kernel_rfl) (fun _ _ _ h => h) (Or.inl ⟨by rfl, ?_⟩) (by assumption) ?_; rotate_left; (· (intro wq hq; (try dsimp only at hq); go_simp; first | done | with_reducible rfl)); simp only [Act.put, List.getElem_toArray, List.getElem_cons_zero, List.getElem_cons_succ, List.setIfInBounds_toArray, List.set_cons_zero, List.set_cons_succ])
          (refine' wpAnyH_take (i := 2) rfl (by kernel_rfl) (by kernel_rfl) (by kernel_rfl) (fun _ _ _ h => h) (Or.inl ⟨by rfl, ?_⟩) (by assumption) ?_; rotate_left; (· (intro wq hq; (try dsimp only at hq); go_simp; first | done | with_reducible rfl)); simp only [Act.put, List.getElem_toArray, List.getElem_cons_zero, List.getElem_cons_succ, List.setIfInBounds_toArray, List.set_cons_zero, List.set_cons_succ])
          (refine' wpAnyH_take (i := 3) rfl (by kernel_rfl) (by kernel_rfl) (by kernel_rfl) (fun _ _ _ h => h) (Or.inl ⟨by rfl, ?_⟩) (by assumption) ?_; rotate_left; (· (intro wq hq; (try dsimp only at hq); go_simp; first | done | with_reducible rfl)); simp only [Act.put, List.getElem_toArray, List.getElem_cons_zero, List.getElem_cons_succ, List.setIfInBounds_toArray, List.set_cons_zero, List.set_cons_succ])
          (refine' wpAnyH_take (i := 4) rfl (by kernel_rfl) (by kernel_rfl) (by kernel_rfl) (fun _ _ _ h => h) (Or.inl ⟨by rfl, ?_⟩) (by assumption) ?_; rotate_left; (· (intro wq hq; (try dsimp only at hq); go_simp; first | done | with_reducible rfl)); simp only [Act.put, List.getElem_toArray, List.getElem_cons_zero, List.getElem_cons_succ, List.setIfInBounds_toArray, List.set_cons_zero, List.set_cons_succ])
          (refine' wpAnyH_take (i := 5) rfl (by kernel_rfl) (by kernel_rfl) (by kernel_rfl) (fun _ _ _ h => h) (Or.inl ⟨by rfl, ?_⟩) (by assumption) ?_; rotate_left; (· (intro wq hq; (try dsimp only at hq); go_simp; first | done | with_reducible rfl)); simp only [Act.put, List.getElem_toArray, List.getElem_cons_zero, List.getElem_cons_succ, List.setIfInBounds_toArray, List.set_cons_zero, List.set_cons_succ])
          (refine' wpAnyH_take (i := 6) rfl (by kernel_rfl) (by kernel_rfl) (by kernel_rfl) (fun _ _ _ h => h) (Or.inl ⟨by rfl, ?_⟩) (by assumption) ?_; rotate_left; (· (intro wq hq; (try dsimp only at hq); go_simp; first | done | with_reducible rfl)); simp only [Act.put, List.getElem_toArray, List.getElem_cons_zero, List.getElem_cons_succ, List.setIfInBounds_toArray, List.set_cons_zero, List.set_cons_succ])
          refine wpAnyH_ready (rs := [7]) (by kernel_rfl) (by simp) ?_
          refine AllReadyH.cons rfl (fun K hK => ?_) ?_
          · rw [if_pos (by rfl)]
            go_simp
            refine (hmk.out _).mono ?_
            rintro e wq ⟨rfl, hwq⟩
            rw [hwq]
            clear hwq
            refine hK.out _ _ hHeld (fun hH => ?_)
            clear hK K
            (refine' wpAnyH_take (i := 8) rfl (by kernel_rfl) (by kernel_rfl) (by kernel_rfl) (fun _ _ _ h => h) (Or.inl ⟨by rfl, ?_⟩) (by assumption) ?_; rotate_left; (· (intro wq hq; (try dsimp only at hq); go_simp; first | done | with_reducible rfl)); simp only [Act.put, List.getElem_toArray, List.getElem_cons_zero, List.getElem_cons_succ, List.setIfInBounds_toArray, List.set_cons_zero, List.set_cons_succ])
            (refine' wpAnyH_take (i := 9) rfl (by kernel_rfl) (by kernel_rfl) (by kernel_rfl) (fun _ _ _ h => h) (Or.inl ⟨by rfl, ?_⟩) (by assumption) ?_; rotate_left; (· (intro wq hq; (try dsimp only at hq); go_simp; first | done | with_reducible rfl)); simp only [Act.put, List.getElem_toArray, List.getElem_cons_zero, List.getElem_cons_succ, List.setIfInBounds_toArray, List.set_cons_zero, List.set_cons_succ])
            refine wpAnyH_ready (rs := [10]) (by kernel_rfl) (by simp) ?_
            refine AllReadyH.cons rfl (fun K hK => ?_) ?_
            · go_simp
              refine hK.out _ _ (cs''.out _) (fun hH2 => ?_)
              clear hK K
              refine wpAnyH_done (by kernel_rfl) ?_ _
              refine hK7 _ _ ?_
              go_wp2
              go_roundw
              case rel =>
                refine ⟨i + 1, by omega, by simp, hid (hst.out.drew.congr (fun l y j _ _ => ?_)), hid hBs.out.drew⟩
                by_cases h1 : l = k ∧ j = i
                · obtain ⟨rfl, rfl⟩ := h1
                  simp [hmkN.out]
                · have h2 : (l < k ∨ l = k ∧ j < i) ↔ (l < k ∨ l = k ∧ j < i + 1) := by omega
                  simp only [h1, if_false, h2]
              case measure => simp [intOf]; omega
            · exact AllReadyH.nil
          · exact AllReadyH.nil
        · obtain rfl : i = x.r := by omega
          go_wp2
          go_roundw
          case rel => exact ⟨k + 1, by omega, by simp, hid (hX2.out.congr (fun l y j hl hj => by
                        by_cases h1 : l = k
                        · subst h1
                          obtain rfl : y = x := by rw [hx'.out] at hl; exact (Option.some.inj hl).symm
                          simp [hj]
                        · have h2 : (l < k ∨ l = k ∧ j < x.r) ↔ l < k + 1 := by omega
                          simp only [h2])), hB2⟩
          case measure => simp [intOf]; omega
      -- >>
    · obtain rfl : k = n := by omega
      have hM : Hid (RowsX wr B rs markN) := hid (hX.out.congr (fun l y j hl _ => by
        have := (List.getElem?_eq_some_iff.1 hl).1
        rw [if_pos (by have := hn'.out; omega)]))
      clear hX hR'
      go_wp2
      go_loopw [5, 6, 7, 8] (fun gv kk _ _ wr => ∃ (l : Nat) (ys : List GrX), l ≤ k ∧ kk = .int .i64 (l : Int) ∧ Hid (ys.length = l) ∧ Hid (GsI wr w.heap.size gv rs ys (fun x => x.r + 64)) ∧ Hid (RowsX wr B rs markN) ∧ Hid (ApartK B rs w wr)) (fun _ kk _ _ _ => k - (intOf kk).toNat)
      case atStart => exact ⟨0, [], Nat.zero_le _, rfl, rfl, hid (GsI.nil _ _ _ _), hM, hB⟩
      case round =>
        clear hM hB
        obtain ⟨l, ys, hlk, rfl, hyl, hGs, hM, hB⟩ := hrel
        by_cases hlt : l < k
        · -- <<
          have hki : (l : Int) < (k : Int) := by omega
          obtain ⟨x, hx⟩ : ∃ x, rs[l]? = some x := ⟨_, List.getElem?_eq_getElem (by have := hn'.out; omega)⟩
          have hx' := hid hx
          have hxr := hr'.out x (List.mem_of_getElem? hx)
          obtain ⟨w3, rfl⟩ : ∃ w3, w3 = wr := ⟨_, rfl⟩
          have c0 : w3.cell? ⟨G, l, none⟩ = some (.slice (x.g.map fun g => ⟨g, 0, none⟩) x.r x.r) := hGc.out w3 hB.out l x hx
          clear hx
          go_wp2
          go_loopw [7, 8] (fun v ii wr => ∃ i : Nat, i ≤ 64 ∧ ii = .int .i64 (i : Int) ∧ Hid (GrowI wr w3.heap.size l x i v) ∧ Hid (Below w3.heap.size w3 wr)) (fun _ ii _ => 64 - (intOf ii).toNat)
          case atStart => exact ⟨0, by decide, rfl, hid (.inl ⟨rfl, rfl⟩), hid (Below.refl _ _)⟩
          case round =>
            obtain ⟨i, hi64, rfl, hv, hBi⟩ := hrel
            have c1 : wr.cell? ⟨G, l, none⟩ = some (.slice (x.g.map fun g => ⟨g, 0, none⟩) x.r x.r) := hGc.out wr (hB.out.kept hBi.out (Nat.le_trans hBw'.out hB.out.size)) l x hx'.out
            clear c0
            by_cases hi : i < 64
            · obtain ⟨P, hP⟩ : ∃ P, Hid (x.r + i = P) := ⟨_, rfl⟩
              have hsum : (x.r : Int) + (i : Int) = (P : Int) := by have := hP.out; omega
              have hPl : P ≤ 17592186044416 := by have := hP.out; omega
              have hmk := hid (mark_calls l P (by omega) hPl)
              obtain ⟨mk, hmkN⟩ : ∃ mk, Hid (markN l P = mk) := ⟨_, rfl⟩
              have hms : mk < 9223372036854775808 := by rw [← hmkN.out]; unfold markN; omega
              rw [hmkN.out] at hmk
              have ewr : IntKind.u64.wrap (mk : Int) = (mk : Int) := by rw [IntKind.wrap_u64]; omega
              have hii : (i : Int) < 64 := by omega
              have hM4 := hid ((hM.out.kept hBi.out).kept (show Below wr.heap.size wr (wr.alloc (.cells #[.int .u64 (mk : Int)] 33)) from (Below.refl _ wr).alloc (Nat.le_refl _) _))
              have hv4 : Hid (GrowI (wr.alloc (.cells #[.int .u64 (mk : Int)] 33)) w3.heap.size l x i u7) := by
                rcases hv.out with h | h
                · exact .inl h
                · exact .inr (World.ownsRow.alloc h _)
              have hz := hid hBi.out.size
              have hcl : Hid ((wr.alloc (.cells #[.int .u64 (mk : Int)] 33)).cell? ((⟨wr.heap.size, 0, none⟩ : Addr).add 0) = some (.int .u64 ((markN l (x.r + i) : Nat) : Int))) := by
                show _ = _
                rw [hP.out, hmkN.out]
                exact (At.new wr #[.int .u64 (mk : Int)] 33).cell 0
              go_wp2_with (first
                | (go_at_call 37; refine Calls.mono (hmk.out _) ?_; rintro e w' ⟨rfl, hw'⟩; obtain rfl := hw'.symm)
                | (at_builtin; refine wpList_grow rfl _ _ rfl hM4.out hx'.out (fun _ _ => rfl) rfl hv4.out (by rw [World.size_alloc]; have := hz.out; omega) ⟨wr.heap.size, 0, none⟩ 1 rfl hcl.out (by omega) ?_)
                | go_in)
              intro v' w' hv' hb'
              have hv'' := hid hv'
              have hb'' := hid ((hBi.out.alloc hz.out _).trans hb')
              clear hv' hb'
              go_wp2
              go_roundw
              case rel => exact ⟨i + 1, by omega, by simp, hv'', hb''⟩
              case measure => simp [intOf]; omega
            · obtain rfl : i = 64 := by omega
              have hrow : wr.ownsRow w3.heap.size 33 1 u7 (x.r + 64) (wdsL (x.r + 64) (markN l)) := by
                rcases hv.out with ⟨h, _⟩ | h
                · omega
                · exact h
              obtain ⟨g4, cap4, _, rfl, -, -, -⟩ := row_new hrow
              have hrow' := hid hrow
              have hz := hid hBi.out.size
              have hz3 := hid hB.out.size
              have hG4 := hid (hGs.out.kept hBi.out)
              have hM4 := hid (hM.out.kept hBi.out)
              have hB4 := hid (hB.out.kept hBi.out (Nat.le_trans hBw'.out hB.out.size))
              have hlt5 : Hid (∀ r, u5.ownBlock = some r → w.heap.size ≤ r ∧ r < w3.heap.size) := fun r e => hGs.out.1.lt r e
              have hal : Hid (Below wr.heap.size wr (wr.alloc (.cells #[.slice (some ⟨g4, 0, none⟩) (x.r + 64) cap4] 23))) := (Below.refl _ wr).alloc (Nat.le_refl _) _
              have hyn : ys.length < 1000000 := by have := hyl.out; omega
              have hbs : w.heap.size ≤ (wr.alloc (.cells #[.slice (some ⟨g4, 0, none⟩) (x.r + 64) cap4] 23)).heap.size := by
                rw [World.size_alloc]; have := hB4.out.size; omega
              clear hrow hv hGs hM hB
              have hge : ¬ (64 : Int) < 64 := by decide
              go_wp2_with (first
                | (at_builtin; refine wpList_appendS rfl _ _ rfl w.heap.size u5 (.slice (some ⟨g4, 0, none⟩) (x.r + 64) cap4) ys.length (List.zipWith slG rs ys) rfl (World.ownsRow.alloc hG4.out.1 _) ⟨wr.heap.size, 0, none⟩ 1 rfl ((At.new wr #[.slice (some ⟨g4, 0, none⟩) (x.r + 64) cap4] 23).cell 0) rfl hyn hbs ?_)
                | go_in)
              intro v' w' hown' hgr' hnew'
              obtain ⟨y, -, hpush⟩ := hG4.out.push (by rw [hyl.out]; exact hx'.out) (by rw [hyl.out]; exact hrow'.out) hz3.out (fun r e => (hlt5.out r e).2) (Nat.le_refl _) hgr' hown' (by rw [World.size_alloc]; exact hnew')
              have hpush' := hid hpush
              have hMn := hid ((hM4.out.kept hal.out).grown hgr' (fun k' x' hk' => by
                cases hgx : x'.g with
                | none => exact .inl rfl
                | some g' => exact .inr (fun e => by have h1 := hgw.out k' x' g' hk' hgx; have h2 := (hlt5.out g' e.symm).1; omega)))
              have hBn := hid ((hB4.out.kept hal.out (Nat.le_trans hBw'.out hB4.out.size)).grown hgr' (fun r e => (hlt5.out r e).1) hBw'.out)
              clear hown' hgr' hnew' hpush hG4 hM4 hB4
              go_wp2
              go_roundw
              case rel => exact ⟨l + 1, ys ++ [y], by omega, by simp, by show _ = _; rw [List.length_append, List.length_singleton, hyl.out], hpush', hMn, hBn⟩
              case measure => simp [intOf]; omega
          -- >>
        · obtain rfl : l = k := by omega
          go_wp2
          go_loopw [9, 10] (fun kk _ wr => ∃ k : Nat, k ≤ l ∧ kk = .int .i64 (k : Int) ∧ Hid (GsI wr w.heap.size u5 rs ys (fun x => x.r + 64)) ∧ Hid (RowsX wr B rs markN) ∧ Hid (ApartK B rs w wr)) (fun kk _ _ => l - (intOf kk).toNat)
          case atStart => exact ⟨0, Nat.zero_le _, rfl, hGs, hM, hB⟩
          case round =>
            clear hGs hM hB
            obtain ⟨k, hkl, rfl, hGs, hM, hB⟩ := hrel
            by_cases hlt : k < l
            · have hki : (k : Int) < (l : Int) := by omega
              obtain ⟨x, hx⟩ : ∃ x, rs[k]? = some x := ⟨_, List.getElem?_eq_getElem (by have := hn'.out; omega)⟩
              obtain ⟨y, hy⟩ : ∃ y, ys[k]? = some y := ⟨_, List.getElem?_eq_getElem (by have := hyl.out; omega)⟩
              have hx' := hid hx
              have hy' := hid hy
              have hxr := hr'.out x (List.mem_of_getElem? hx)
              obtain ⟨gg, cg, hgv, -, -, -, -⟩ := hGs.out.at hx hy
              rw [hyl.out] at hgv
              clear hx hy
              go_wp2
              go_loopw [10] (fun ii wr => ∃ i : Nat, i ≤ x.r + 64 ∧ ii = .int .i64 (i : Int) ∧ Hid (GsI wr w.heap.size u5 rs ys (fun x => x.r + 64)) ∧ Hid (RowsX wr B rs markN) ∧ Hid (ApartK B rs w wr)) (fun ii _ => x.r + 64 - (intOf ii).toNat)
              case atStart => exact ⟨0, Nat.zero_le _, rfl, hGs, hM, hB⟩
              case round =>
                clear hGs hM hB
                obtain ⟨i, hi, rfl, hGs, hM, hB⟩ := hrel
                subst hgv
                obtain ⟨Q, hQ⟩ : ∃ Q, Hid (x.r + 64 = Q) := ⟨_, rfl⟩
                have c2 : wr.cell? ⟨gg, k, none⟩ = some (.slice (some ⟨y.b, 0, none⟩) Q y.c) := by
                  obtain ⟨gg', cg', e, -, -, h, -⟩ := hGs.out.at hx'.out hy'.out
                  cases e
                  rw [← hQ.out]
                  exact h
                have c1 : wr.cell? ⟨G, k, none⟩ = some (.slice (x.g.map fun g => ⟨g, 0, none⟩) x.r x.r) := hGc.out wr hB.out k x hx'.out
                have hQl : Q ≤ 17592186044415 := by have := hQ.out; omega
                by_cases hiQ : i < Q
                · have hii : (i : Int) < (Q : Int) := by omega
                  have hiq' : i < x.r + 64 := by have := hQ.out; omega
                  have hmk := hid (mark_calls k i (by omega) (by omega))
                  obtain ⟨mk, hmkN⟩ : ∃ mk, Hid (markN k i = mk) := ⟨_, rfl⟩
                  have hms : mk < 9223372036854775808 := by rw [← hmkN.out]; unfold markN; omega
                  rw [hmkN.out] at hmk
                  have ewr : IntKind.u64.wrap (mk : Int) = (mk : Int) := by rw [IntKind.wrap_u64]; omega
                  have emk : ((mk : Int) == (mk : Int)) = true := by simp
                  have c3 : wr.cell? ⟨y.b, i, none⟩ = some (.int .u64 (mk : Int)) := by rw [← hmkN.out]; exact hGs.out.word hx'.out hy'.out (by have := hQ.out; omega)
                  by_cases hir : i < x.r
                  · -- <<
                    obtain ⟨g, hg, -, -, m0, -⟩ := hM.out.at hx'.out hir
                    rw [hmkN.out] at m0
                    rw [hg] at c1
                    simp only [Option.map_some] at c1
                    have hiri : (i : Int) < (x.r : Int) := by omega
                    go_wp2_with fail
                    go_quiet ((go_at_call 37; refine (hmk.out _).mono ?_; rintro e w' ⟨rfl, rfl⟩; exact ⟨rfl, _, rfl⟩))
                    have hb := hid (below_drewN (Below.refl wr.heap.size wr) nq)
                    clear c1 c2 c3
                    go_wp2
                    go_roundw
                    case rel => exact ⟨i + 1, by omega, by simp, hid (hGs.out.kept hb.out), hid (hM.out.kept hb.out), hid (hB.out.kept hb.out (Nat.le_trans hBw'.out hB.out.size))⟩
                    case measure => simp [intOf]; omega
                    -- >>
                  · obtain ⟨so, hso⟩ : ∃ so, (x.g.map fun g => (⟨g, 0, none⟩ : Addr)) = so := ⟨_, rfl⟩
                    rw [hso] at c1
                    have er1 : decide (i < x.r) = false := by simp; omega
                    have er2 : decide ((i : Int) < (x.r : Int)) = false := by simp; omega
                    go_wp2_with fail
                    go_quiet ((go_at_call 37; refine (hmk.out _).mono ?_; rintro e w' ⟨rfl, rfl⟩; exact ⟨rfl, _, rfl⟩))
                    have hb := hid (below_drewN (Below.refl wr.heap.size wr) nq)
                    clear c1 c2 c3
                    go_wp2
                    go_roundw
                    case rel => exact ⟨i + 1, by omega, by simp, hid (hGs.out.kept hb.out), hid (hM.out.kept hb.out), hid (hB.out.kept hb.out (Nat.le_trans hBw'.out hB.out.size))⟩
                    case measure => simp [intOf]; omega
                · obtain rfl : i = Q := by have := hQ.out; omega
                  clear c1
                  go_wp2
                  go_roundw
                  case rel => exact ⟨k + 1, by omega, by simp, hGs, hM, hB⟩
                  case measure => simp [intOf]; omega
            · obtain rfl : k = l := by omega
              have hGw : Hid (GsI wr w.heap.size u5 rs ys (fun x => x.r)) := hid (hGs.out.weaken (fun x => Nat.le_add_right _ _))
              clear hGs
              go_wp2
              go_loopw [11, 12, 13] (fun kk _ _ wr => ∃ (l : Nat) (ys : List GrX), l ≤ k ∧ kk = .int .i64 (l : Int) ∧ Hid (ys.length = k) ∧ Hid (GsI wr w.heap.size u5 rs ys (fun x => x.r)) ∧ Hid (RowsX wr B rs markN) ∧ Hid (ApartK B rs w wr)) (fun kk _ _ _ => k - (intOf kk).toNat)
              case atStart => exact ⟨0, ys, Nat.zero_le _, rfl, hyl, hGw, hM, hB⟩
              case round =>
                clear hGw hM hB hyl
                obtain ⟨l, zs, hlk, rfl, hyl, hGs, hM, hB⟩ := hrel
                by_cases hlt : l < k
                · have hki : (l : Int) < (k : Int) := by omega
                  obtain ⟨x, hx⟩ : ∃ x, rs[l]? = some x := ⟨_, List.getElem?_eq_getElem (by have := hn'.out; omega)⟩
                  obtain ⟨y, hy⟩ : ∃ y, zs[l]? = some y := ⟨_, List.getElem?_eq_getElem (by have := hyl.out; omega)⟩
                  have hx' := hid hx
                  have hy' := hid hy
                  have hxr := hr'.out x (List.mem_of_getElem? hx)
                  clear hx hy
                  obtain ⟨w3, rfl⟩ : ∃ w3, w3 = wr := ⟨_, rfl⟩
                  go_wp2
                  go_loopw [12, 13] (fun v ii wr => ∃ i : Nat, i ≤ 64 ∧ ii = .int .i64 (i : Int) ∧ Hid (wr.ownsRow w3.heap.size 33 1 v i (wdsL i (markN (l + k)))) ∧ Hid (Below w3.heap.size w3 wr)) (fun _ ii _ => 64 - (intOf ii).toNat)
                  case atStart => exact ⟨0, by decide, rfl, hid (by simpa [wdsL] using World.ownsRow_nil w3 w3.heap.size 33 1), hid (Below.refl _ _)⟩
                  case round =>
                    obtain ⟨i, hi64, rfl, hv, hBi⟩ := hrel
                    by_cases hi : i < 64
                    · obtain ⟨P, hP⟩ : ∃ P, Hid (l + k = P) := ⟨_, rfl⟩
                      have hsum : (l : Int) + (k : Int) = (P : Int) := by have := hP.out; omega
                      have hPl : P ≤ 1000000 := by have := hP.out; omega
                      have hmk := hid (mark_calls P i hPl (by omega))
                      obtain ⟨mk, hmkN⟩ : ∃ mk, Hid (markN P i = mk) := ⟨_, rfl⟩
                      have hms : mk < 9223372036854775808 := by rw [← hmkN.out]; unfold markN; omega
                      rw [hmkN.out] at hmk
                      rw [hP.out] at hv
                      have ewr : IntKind.u64.wrap (mk : Int) = (mk : Int) := by rw [IntKind.wrap_u64]; omega
                      have hii : (i : Int) < 64 := by omega
                      have hz := hid hBi.out.size
                      obtain ⟨i0, hi0, hz0, hz1, hz2⟩ := info_parts infoW
                      have hz0' := hid hz0
                      have hz1' := hid hz1
                      have hz2' := hid hz2
                      have hi0' := hid hi0
                      clear hz0 hz1 hz2 hi0
                      go_wp2_with (first
                        | (go_at_call 37; refine Calls.mono (hmk.out _) ?_; rintro e w' ⟨rfl, hw'⟩; obtain rfl := hw'.symm)
                        | (at_builtin; refine wpList_append_own _ rfl _ _ 23 rfl w3.heap.size 33 i0 (.int .u64 0) 1 8 Tryd.underlying23 hi0'.out hz0'.out hz1'.out hz2'.out rfl (by decide) _ _ _ rfl (World.ownsRow.alloc hv.out _) ⟨wr.heap.size, 0, none⟩ 1 1 [.int .u64 (mk : Int)] rfl rfl (fun j u hj => by match j, hj with | 0, hj => simp at hj; subst hj; simp [Addr.add]) (fun u hu => by simp at hu; subst hu; rfl) (by unfold maxLen; omega) (by omega) (by rw [World.size_alloc]; have := hz.out; omega) ?_)
                        | go_in)
                      intro v' w' hown1 hgrow _
                      have hb'' := hid ((hBi.out.alloc hz.out (.cells #[.int .u64 (mk : Int)] 33)).grown hgrow (by rw [World.size_alloc]; have := hz.out; omega) (fun b e => (hv.out.lt b e).1))
                      have hown2 : Hid (w'.ownsRow w3.heap.size 33 1 v' (i + 1) (wdsL (i + 1) (markN (l + k)))) := by
                        rw [hP.out, ← wdsL_snoc, hmkN.out]
                        exact hown1
                      clear hown1 hgrow
                      go_wp2
                      go_roundw
                      case rel => exact ⟨i + 1, by omega, by simp, hown2, hb''⟩
                      case measure => simp [intOf]; omega
                    · obtain rfl : i = 64 := by omega
                      have hrow := hv.out
                      obtain ⟨gm, cm, _, rfl, -, -, -⟩ := row_new (r := 0) (show wr.ownsRow w3.heap.size 33 1 u12 (0 + 64) (wdsL 64 (markN (l + k))) from hrow)
                      have hcl := hid (hrow.cells (g := gm) rfl)
                      clear hrow hv
                      have hz := hid hBi.out.size
                      have hG4 := hid (hGs.out.kept hBi.out)
                      have hM4 := hid (hM.out.kept hBi.out)
                      have hB4 := hid (hB.out.kept hBi.out (Nat.le_trans hBw'.out hB.out.size))
                      have c1 : wr.cell? ⟨G, l, none⟩ = some (.slice (x.g.map fun g => ⟨g, 0, none⟩) x.r x.r) := hGc.out wr hB4.out l x hx'.out
                      have hlt5 : Hid (∀ r, u5.ownBlock = some r → w.heap.size ≤ r ∧ r < w3.heap.size) := fun r e => hGs.out.1.lt r e
                      obtain ⟨gg, cg, hgv, hgb, hgl, -, -⟩ := hG4.out.at hx'.out hy'.out
                      rw [hyl.out] at hgv
                      subst hgv
                      have hgb' := hid hgb
                      have hgl' := hid hgl
                      clear hGs hM hB hgb hgl
                      have hge : ¬ (64 : Int) < 64 := by decide
                      go_wp2_with (first
                        | (at_builtin; refine wpList_first rfl _ _ rfl hM4.out hx'.out rfl ⟨gm, 0, none⟩ (0 + 64) cm (wdsL 64 (markN (l + k))) rfl (wdsL_len _ _) (by decide) hcl.out (fun u hu => by simp [wdsL] at hu; obtain ⟨_, _, rfl⟩ := hu; rfl) (by omega) ?_)
                        | go_in)
                      intro v' w' hown' hb'
                      have hGn := hid (hG4.out.kept hb')
                      have hMn := hid (hM4.out.kept hb')
                      have hBn := hid (hB4.out.kept hb' (Nat.le_trans hBw'.out hB4.out.size))
                      have hzn := hid hb'.size
                      obtain ⟨gn, cn, _, rfl, -, -, -⟩ := row_new hown'
                      obtain ⟨y', -, hset⟩ := hGn.out.set hx'.out hy'.out hown' (fun _ _ => rfl) (by have := hB4.out.size; omega) (fun r e => by have h1 := (hlt5.out r e).2; have h2 := hz.out; omega) (Nat.le_refl _) (gg := gg) (cap := cg) (by rw [hyl.out])
                      have hset' := hid hset
                      have hMs := hid (hMn.out.off (b := gg) (i := l) (fun k' x' g' hk' hg' => by have h1 := hgw.out k' x' g' hk' hg'; have h2 := hgb'.out; omega) (.slice (some ⟨gn, 0, none⟩) (x.r + 64) cn))
                      have hBs := hid (hBn.out.own (b := gg) hgb'.out (Nat.le_trans hBw'.out hgb'.out) l (.slice (some ⟨gn, 0, none⟩) (x.r + 64) cn))
                      obtain ⟨gg2, cg2, e2, -, -, c2, f2⟩ := hGn.out.at hx'.out hy'.out
                      obtain ⟨rfl, rfl⟩ : gg2 = gg ∧ cg2 = cg := by
                        rw [hyl.out] at e2
                        cases e2
                        exact ⟨rfl, rfl⟩
                      clear e2 hown' hb' hset hG4 hM4 hB4 hGn hMn hBn c1
                      go_wp2
                      go_roundw
                      case rel => exact ⟨l + 1, zs.set l y', by omega, by simp, by show _ = _; rw [List.length_set, hyl.out], hset', hMs, hBs⟩
                      case measure => simp [intOf]; omega
                · obtain rfl : l = k := by omega
                  go_wp2
                  go_loopw [14, 15] (fun kk _ wr => ∃ k : Nat, k ≤ l ∧ kk = .int .i64 (k : Int) ∧ Hid (GsI wr w.heap.size u5 rs zs (fun x => x.r)) ∧ Hid (RowsX wr B rs markN) ∧ Hid (ApartK B rs w wr)) (fun kk _ _ => l - (intOf kk).toNat)
                  case atStart => exact ⟨0, Nat.zero_le _, rfl, hGs, hM, hB⟩
                  case round =>
                    clear hGs hM hB
                    obtain ⟨k, hkl, rfl, hGs, hM, hB⟩ := hrel
                    by_cases hlt : k < l
                    · have hki : (k : Int) < (l : Int) := by omega
                      obtain ⟨x, hx⟩ : ∃ x, rs[k]? = some x := ⟨_, List.getElem?_eq_getElem (by have := hn'.out; omega)⟩
                      obtain ⟨y, hy⟩ : ∃ y, zs[k]? = some y := ⟨_, List.getElem?_eq_getElem (by have := hyl.out; omega)⟩
                      have hx' := hid hx
                      have hy' := hid hy
                      have hxr := hr'.out x (List.mem_of_getElem? hx)
                      obtain ⟨gg, cg, hgv, -, -, -, -⟩ := hGs.out.at hx hy
                      rw [hyl.out] at hgv
                      clear hx hy
                      go_wp2
                      go_loopw [15] (fun ii wr => ∃ i : Nat, i ≤ x.r ∧ ii = .int .i64 (i : Int) ∧ Hid (GsI wr w.heap.size u5 rs zs (fun x => x.r)) ∧ Hid (RowsX wr B rs markN) ∧ Hid (ApartK B rs w wr)) (fun ii _ => x.r - (intOf ii).toNat)
                      case atStart => exact ⟨0, Nat.zero_le _, rfl, hGs, hM, hB⟩
                      case round =>
                        clear hGs hM hB
                        obtain ⟨i, hi, rfl, hGs, hM, hB⟩ := hrel
                        subst hgv
                        have c1 : wr.cell? ⟨G, k, none⟩ = some (.slice (x.g.map fun g => ⟨g, 0, none⟩) x.r x.r) := hGc.out wr hB.out k x hx'.out
                        by_cases hir : i < x.r
                        · obtain ⟨Q, hQ⟩ : ∃ Q, Hid (x.r + 64 = Q) := ⟨_, rfl⟩
                          have c2 : wr.cell? ⟨gg, k, none⟩ = some (.slice (some ⟨y.b, 0, none⟩) Q y.c) := by
                            obtain ⟨gg', cg', e, -, -, h, -⟩ := hGs.out.at hx'.out hy'.out
                            cases e
                            rw [← hQ.out]
                            exact h
                          have hii : (i : Int) < (Q : Int) := by have := hQ.out; omega
                          have hmk := hid (mark_calls k i (by omega) (by omega))
                          obtain ⟨mk, hmkN⟩ : ∃ mk, Hid (markN k i = mk) := ⟨_, rfl⟩
                          have hms : mk < 9223372036854775808 := by rw [← hmkN.out]; unfold markN; omega
                          rw [hmkN.out] at hmk
                          have ewr : IntKind.u64.wrap (mk : Int) = (mk : Int) := by rw [IntKind.wrap_u64]; omega
                          have emk : ((mk : Int) == (mk : Int)) = true := by simp
                          have c3 : wr.cell? ⟨y.b, i, none⟩ = some (.int .u64 (mk : Int)) := by rw [← hmkN.out]; exact hGs.out.word hx'.out hy'.out hir
                          obtain ⟨g, hg, -, -, m0, -⟩ := hM.out.at hx'.out hir
                          rw [hmkN.out] at m0
                          rw [hg] at c1
                          simp only [Option.map_some] at c1
                          have hiri : (i : Int) < (x.r : Int) := by omega
                          go_wp2_with fail
                          go_quiet ((go_at_call 37; refine (hmk.out _).mono ?_; rintro e w' ⟨rfl, rfl⟩; exact ⟨rfl, _, rfl⟩))
                          have hb := hid (below_drewN (Below.refl wr.heap.size wr) nq)
                          clear c1 c2 c3 m0
                          go_wp2
                          go_roundw
                          case rel => exact ⟨i + 1, by omega, by simp, hid (hGs.out.kept hb.out), hid (hM.out.kept hb.out), hid (hB.out.kept hb.out (Nat.le_trans hBw'.out hB.out.size))⟩
                          case measure => simp [intOf]; omega
                        · obtain rfl : i = x.r := by omega
                          go_wp2
                          go_roundw
                          case rel => exact ⟨k + 1, by omega, by simp, hGs, hM, hB⟩
                          case measure => simp [intOf]; omega
                    · obtain rfl : k = l := by omega
                      go_wp2
                      go_ret
                      exact ⟨rfl, hB.out⟩
end Go.Proofs.YtmjmcdoanolelabDoor
