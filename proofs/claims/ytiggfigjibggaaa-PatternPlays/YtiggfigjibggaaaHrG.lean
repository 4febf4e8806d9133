/-
  The document's pattern: sorted of two and more, All (gen_hrg.py).
-/
import Derived.Test.YtiggfigjibggaaaHrF
namespace Go.Proofs.Ytiggfigjibggaaa
open Go.RowKit Go.Shelf Go.Maps

theorem drop_at {α : Type} {L : List α} {i : Nat} {x : α} (h : L[i]? = some x) : L.drop i = x :: L.drop (i + 1) := by
  obtain ⟨h1, h2⟩ := List.getElem?_eq_some_iff.1 h
  rw [List.drop_eq_getElem_cons h1, h2]
set_option maxRecDepth 10000 in
set_option maxHeartbeats 16000000 in
theorem sortedR_step (f : Nat) (L : List Ent) (n : Nat) (hn : 2 ≤ n) (hn4 : n ≤ 4096) (so0 : Option Addr) (cap : Nat) (w : World) (hL : Hid (SlAt w so0 n cap L))
    (ih : ∀ (M : List Ent) (m : Nat) (so : Option Addr) (c : Nat) (u : World), m < n → SlAt u so m c M → Calls Try.prog 39 #[.slice so m c] u fun e w' => SoR f M m u e w') :
    Calls Try.prog 39 #[.slice so0 n cap] w fun e w' => SoR (f + 1) L n w e w' := by
  have hl := hL.out.1
  obtain ⟨h, hh⟩ : ∃ h, n / 2 = h := ⟨_, rfl⟩
  obtain ⟨nb, hnb⟩ : ∃ m, n - h = m := ⟨_, rfl⟩
  have hms : msR (f + 1) L = mgR (msR f (L.take h)) (msR f (L.drop h)) := by
    conv => lhs; unfold msR
    rw [if_neg (by omega), hl, hh]
  obtain ⟨A, hA⟩ : ∃ A, msR f (L.take h) = A := ⟨_, rfl⟩
  obtain ⟨Bq, hBq⟩ : ∃ B, msR f (L.drop h) = B := ⟨_, rfl⟩
  have hAl := hid (show A.length = h by rw [← hA, (msR_perm f _).length_eq, List.length_take, hl]; omega)
  have hBl := hid (show Bq.length = nb by rw [← hBq, (msR_perm f _).length_eq, List.length_drop, hl]; omega)
  unfold SoR
  rw [hms, hA, hBq]
  obtain ⟨-, ⟨-, h0, -⟩ | ⟨b, off, rfl, h2, h3, h4, h5⟩⟩ := hL.out
  · omega
  have hq : Int.tdiv (n : Int) 2 = (h : Int) := by rw [← hh]; exact (Int.ofNat_tdiv n 2).symm
  obtain ⟨d, hd⟩ : ∃ d, cap - h = d := ⟨_, rfl⟩
  have hd1 : ¬ d = 0 := by omega
  have hd0 : (d == 0) = false := by simp; omega
  have hhn : (h : Int) ≤ (n : Int) := by omega
  have hnc : (n : Int) ≤ (cap : Int) := by omega
  have hni : ¬ (n : Int) < 2 := by omega
  have ew : IntKind.i64.wrap (h : Int) = (h : Int) := by rw [IntKind.wrap_i64]; omega
  have hhc0 : (h : Int) ≤ (cap : Int) := by omega
  have hch : ¬ cap = h := by omega
  have hn4i : (n : Int) ≤ 4096 := by omega
  have hbs : (n : Int) - (h : Int) = (nb : Int) := by omega
  have sa := ih (L.take h) h (some ⟨b, off, none⟩) cap w.drew (by omega) ⟨by rw [List.length_take, hl]; omega, .inr ⟨b, off, rfl, by omega, h3, h4, fun j x hj => by
    rw [List.getElem?_take] at hj
    split at hj
    · exact h5 j x hj
    · cases hj⟩⟩
  have sbF := hid (fun (u : World) (hu : Below w.heap.size w u) => ih (L.drop h) nb (some ⟨b, off + h * 4, none⟩) d u (by omega) ⟨by rw [List.length_drop, hl]; exact hnb, .inr ⟨b, off + h * 4, rfl, by omega, by omega, Nat.lt_of_lt_of_le h4 hu.size, fun j x hj => by
    rw [List.getElem?_drop] at hj
    have h6 := range_kept (h5 (h + j) x hj) hu
    rw [show off + (h + j) * 4 = off + h * 4 + j * 4 by omega] at h6
    exact h6⟩⟩)
  have sa := hid sa
  clear h5 ih hL
  go_enter Try.func39, Try.ntmps39
  go_wp2_with fail
  rename_i Kr hKr
  refine wp_region_held_drew (S := fun _ => True) (by kernel_rfl) trivial (fun hH => ?_)
  (refine' wpAnyH_take (i := 0) rfl (by kernel_rfl) (by kernel_rfl) (by kernel_rfl) (fun _ _ _ h => h) (Or.inl ⟨by rfl, ?_⟩) (by assumption) ?_; rotate_left; (· (intro wq hq; (try dsimp only at hq); go_simp; first | done | with_reducible rfl)); simp only [Act.put, List.getElem_toArray, List.getElem_cons_zero, List.setIfInBounds_toArray, List.set_cons_zero, List.set_cons_succ])
  (refine' wpAnyH_take (i := 1) rfl (by kernel_rfl) (by kernel_rfl) (by kernel_rfl) (fun _ _ _ h => h) (Or.inl ⟨by rfl, ?_⟩) (by assumption) ?_; rotate_left; (· (intro wq hq; (try dsimp only at hq); go_simp; first | done | with_reducible rfl)); simp only [Act.put, List.getElem_toArray, List.getElem_cons_zero, List.getElem_cons_succ, List.setIfInBounds_toArray, List.set_cons_zero, List.set_cons_succ])
  (refine' wpAnyH_take (i := 2) rfl (by kernel_rfl) (by kernel_rfl) (by kernel_rfl) (fun _ _ _ h => h) (Or.inl ⟨by rfl, ?_⟩) (by assumption) ?_; rotate_left; (· (intro wq hq; (try dsimp only at hq); go_simp; first | done | with_reducible rfl)); simp only [Act.put, List.getElem_toArray, List.getElem_cons_zero, List.getElem_cons_succ, List.setIfInBounds_toArray, List.set_cons_zero, List.set_cons_succ])
  (refine' wpAnyH_take (i := 3) rfl (by kernel_rfl) (by kernel_rfl) (by kernel_rfl) (fun _ _ _ h => h) (Or.inl ⟨by rfl, ?_⟩) (by assumption) ?_; rotate_left; (· (intro wq hq; (try dsimp only at hq); go_simp; first | done | with_reducible rfl)); simp only [Act.put, List.getElem_toArray, List.getElem_cons_zero, List.getElem_cons_succ, List.setIfInBounds_toArray, List.set_cons_zero, List.set_cons_succ])
  (refine' wpAnyH_take (i := 4) rfl (by kernel_rfl) (by kernel_rfl) (by kernel_rfl) (fun _ _ _ h => h) (Or.inl ⟨by rfl, ?_⟩) (by assumption) ?_; rotate_left; (· (intro wq hq; (try dsimp only at hq); go_simp; first | done | with_reducible rfl)); simp only [Act.put, List.getElem_toArray, List.getElem_cons_zero, List.getElem_cons_succ, List.setIfInBounds_toArray, List.set_cons_zero, List.set_cons_succ])
  (refine' wpAnyH_take (i := 6) rfl (by kernel_rfl) (by kernel_rfl) (by kernel_rfl) (fun _ _ _ h => h) (Or.inl ⟨by rfl, ?_⟩) (by assumption) ?_; rotate_left; (· (intro wq hq; (try dsimp only at hq); go_simp; first | done | with_reducible rfl)); simp only [Act.put, List.getElem_toArray, List.getElem_cons_zero, List.getElem_cons_succ, List.setIfInBounds_toArray, List.set_cons_zero, List.set_cons_succ])
  (refine' wpAnyH_take (i := 7) rfl (by kernel_rfl) (by kernel_rfl) (by kernel_rfl) (fun _ _ _ h => h) (Or.inl ⟨by rfl, ?_⟩) (by assumption) ?_; rotate_left; (· (intro wq hq; (try dsimp only at hq); go_simp; first | done | with_reducible rfl)); simp only [Act.put, List.getElem_toArray, List.getElem_cons_zero, List.getElem_cons_succ, List.setIfInBounds_toArray, List.set_cons_zero, List.set_cons_succ])
  (refine' wpAnyH_take (i := 8) rfl (by kernel_rfl) (by kernel_rfl) (by kernel_rfl) (fun _ _ _ h => h) (Or.inl ⟨by rfl, ?_⟩) (by assumption) ?_; rotate_left; (· (intro wq hq; (try dsimp only at hq); go_simp; first | done | with_reducible rfl)); simp only [Act.put, List.getElem_toArray, List.getElem_cons_zero, List.getElem_cons_succ, List.setIfInBounds_toArray, List.set_cons_zero, List.set_cons_succ])
  (refine' wpAnyH_take (i := 9) rfl (by kernel_rfl) (by kernel_rfl) (by kernel_rfl) (fun _ _ _ h => h) (Or.inl ⟨by rfl, ?_⟩) (by assumption) ?_; rotate_left; (· (intro wq hq; (try dsimp only at hq); go_simp; first | done | with_reducible rfl)); simp only [Act.put, List.getElem_toArray, List.getElem_cons_zero, List.getElem_cons_succ, List.setIfInBounds_toArray, List.set_cons_zero, List.set_cons_succ])
  (refine' wpAnyH_take (i := 10) rfl (by kernel_rfl) (by kernel_rfl) (by kernel_rfl) (fun _ _ _ h => h) (Or.inl ⟨by rfl, ?_⟩) (by assumption) ?_; rotate_left; (· (intro wq hq; (try dsimp only at hq); go_simp; first | done | with_reducible rfl)); simp only [Act.put, List.getElem_toArray, List.getElem_cons_zero, List.getElem_cons_succ, List.setIfInBounds_toArray, List.set_cons_zero, List.set_cons_succ])
  refine wpAnyH_ready (rs := [5]) (by kernel_rfl) (by simp) ?_
  refine AllReadyH.cons rfl (fun K hK => ?_) ?_
  rotate_left
  · exact AllReadyH.nil
  rw [if_pos (by rfl)]
  go_simp
  refine Calls.mono sa.out ?_
  rintro e w1 ⟨sa1, ca, rfl, ha1, b1⟩
  have B1 := hid (show Below w.heap.size w w1 from (below_drewN w.heap.size w 1).trans (b1.out.mono (Nat.le_refl _)))
  have sb := hid (sbF.out w1 B1.out)
  refine hK _ _ trivial (fun hH2 => ?_)
  clear hK sa sbF
  refine wpAnyH_ready (rs := [11]) (by kernel_rfl) (by simp) ?_
  refine AllReadyH.cons rfl (fun K hK => ?_) ?_
  rotate_left
  · exact AllReadyH.nil
  rw [if_pos (by rfl)]
  go_simp
  (try rw [if_neg hch])
  refine Calls.mono sb.out ?_
  rintro e w2 ⟨sb1, cb, rfl, hb1, b2⟩
  have B02 := hid (show Below w.heap.size w w2 from B1.out.trans (b2.out.mono B1.out.size))
  have ha := hid (show w2.ownsRow w.heap.size 25 4 (.slice sa1 h ca) h ((A.map lrOf).flatMap lrL) by rw [← hA]; exact own_onP (W' := w2) ha1.out (fun q hq _ hl => b2.out.block q hl))
  have hb := hid (show w2.ownsRow w1.heap.size 25 4 (.slice sb1 nb cb) nb ((Bq.map lrOf).flatMap lrL) by rw [← hBq]; exact hb1.out)
  refine hK _ _ trivial (fun hH3 => ?_)
  clear hK sb ha1 hb1 B1 b1 b2
  (refine' wpAnyH_take (i := 12) rfl (by kernel_rfl) (by kernel_rfl) (by kernel_rfl) (fun _ _ _ h => h) (Or.inl ⟨by rfl, ?_⟩) (by assumption) ?_; rotate_left; (· (intro wq hq; (try dsimp only at hq); go_simp; first | done | with_reducible rfl)); simp only [Act.put, List.getElem_toArray, List.getElem_cons_zero, List.getElem_cons_succ, List.setIfInBounds_toArray, List.set_cons_zero, List.set_cons_succ])
  (refine' wpAnyH_take (i := 13) rfl (by kernel_rfl) (by kernel_rfl) (by kernel_rfl) (fun _ _ _ h => h) (Or.inl ⟨by rfl, ?_⟩) (by assumption) ?_; rotate_left; (· (intro wq hq; (try dsimp only at hq); go_simp; first | done | with_reducible rfl)); simp only [Act.put, List.getElem_toArray, List.getElem_cons_zero, List.getElem_cons_succ, List.setIfInBounds_toArray, List.set_cons_zero, List.set_cons_succ])
  refine wpAnyH_done (by kernel_rfl) ?_ _
  refine hKr _ _ ?_
  clear hKr Kr hH hH2 hH3
  obtain ⟨ga, ca', e⟩ := own_someP ha.out (by omega)
  cases e
  obtain ⟨gb, cb', e⟩ := own_someP hb.out (by omega)
  cases e
  have hhc : h ≤ ca := by
    rcases ha.out.2 with ⟨h1, -⟩ | ⟨g', cap', cur, h1, -, -, h2, -⟩
    · cases h1
    · cases h1; exact h2
  have hcM : (ca : Int) ≤ 9223372036854775807 := by
    rcases ha.out.2 with ⟨h1, -⟩ | ⟨g', cap', cur, h1, -, -, -, h2, -⟩
    · cases h1
    · cases h1
      unfold maxLen at h2
      omega
  clear hA hBq hms hl hd hd1 hd0 hbs hq hnc h2 h3 hh hch ew hhc0
  go_wp2_with fail
  go_loopw [3, 6, 7] (fun oo ii kk wr => ∃ (i k : Nat) (O : List Ent), i ≤ h ∧ k ≤ nb ∧ ii = .int .i64 (i : Int) ∧ kk = .int .i64 (k : Int) ∧ Hid (wr.ownsRow w2.heap.size 25 4 oo (i + k) ((O.map lrOf).flatMap lrL)) ∧ Hid (O ++ mgR (A.drop i) (Bq.drop k) = mgR A Bq) ∧ Hid (Below w2.heap.size w2 wr)) (fun _ _ kk _ => nb - (intOf kk).toNat)
  case atStart => exact ⟨0, 0, [], Nat.zero_le _, Nat.zero_le _, rfl, rfl, hid (by simpa using World.ownsRow_nil w2 w2.heap.size 25 4), hid (by simp), hid (Below.refl _ _)⟩
  case round =>
    obtain ⟨i, k, O, hi, hk, rfl, rfl, hO, heq, hB⟩ := hrel
    by_cases hlt : k < nb
    · have hlti : (k : Int) < (nb : Int) := by omega
      have hk' := hid (show k + 1 ≤ nb by omega)
      obtain ⟨y, hy⟩ : ∃ y, Hid (Bq[k]? = some y) := ⟨Bq[k]'(by rw [hBl.out]; exact hlt), List.getElem?_eq_getElem _⟩
      have hdy := hid (drop_at hy.out)
      have adk : (⟨gb, 0, none⟩ : Addr).add (k * 4) = ⟨gb, k * 4, none⟩ := by by_cases h : k * 4 = 0 <;> simp [Addr.add, h]
      obtain ⟨yr, yn, yp, yh, ya⟩ := y
      (try dsimp only at *)
      go_wp2_with fail
      go_loopw [3, 6] (fun oo ii wr => ∃ (i : Nat) (O : List Ent), i ≤ h ∧ ii = .int .i64 (i : Int) ∧ Hid (wr.ownsRow w2.heap.size 25 4 oo (i + k) ((O.map lrOf).flatMap lrL)) ∧ Hid (O ++ mgR (A.drop i) (Bq.drop k) = mgR A Bq) ∧ Hid (Below w2.heap.size w2 wr)) (fun _ ii _ => h - (intOf ii).toNat)
      case atStart => exact ⟨i, O, hi, rfl, hO, heq, hB⟩
      case round =>
        clear hO heq hB hi
        obtain ⟨i, O, hi, rfl, hO, heq, hB⟩ := hrel
        obtain ⟨so, cp, rfl⟩ := own_shapeP hO.out
        have Ra := hid (own_onP (W' := wr) ha.out (fun q hq _ hl => hB.out.block q hl))
        have Rb := hid (own_onP (W' := wr) hb.out (fun q hq _ hl => hB.out.block q hl))
        obtain ⟨gb', cb', e, -, hry⟩ := rows_at Rb.out hy.out hBl.out
        cases e
        have y3 := hry 3 _ rfl
        have hry := hid hry
        by_cases hlt2 : i < h
        · have hlti2 : (i : Int) < (h : Int) := by omega
          obtain ⟨x, hx⟩ : ∃ x, Hid (A[i]? = some x) := ⟨A[i]'(by rw [hAl.out]; exact hlt2), List.getElem?_eq_getElem _⟩
          obtain ⟨ga', ca', e, -, hrx⟩ := rows_at Ra.out hx.out hAl.out
          cases e
          have x3 := hrx 3 _ rfl
          have hrx := hid hrx
          have hdx := hid (drop_at hx.out)
          have adi : (⟨ga, 0, none⟩ : Addr).add (i * 4) = ⟨ga, i * 4, none⟩ := by by_cases h : i * 4 = 0 <;> simp [Addr.add, h]
          obtain ⟨xr, xn, xp, xh, xa⟩ := x
          (try dsimp only at *)
          by_cases hyx : yh ≤ xh
          · have hd : decide ((yh : Int) ≤ (xh : Int)) = true := by simp; omega
            have hi' := hid (show i + 1 ≤ h by omega)
            have heq2 := hid (show (O ++ [(⟨xr, xn, xp, xh, xa⟩ : Ent)]) ++ mgR (A.drop (i + 1)) (Bq.drop k) = mgR A Bq from by
              rw [← heq.out, hdx.out, hdy.out, mgR_left (by exact hyx), List.append_assoc]
              rfl)
            go_wp2_with fail
            go_quiet (fail)
            obtain ⟨W0, hW0⟩ : ∃ W, wr.drewN nq = W := ⟨_, rfl⟩
            rw [hW0]
            have O0 : W0.ownsRow w2.heap.size 25 4 (.slice so (i + k) cp) (i + k) ((O.map lrOf).flatMap lrL) := by rw [← hW0]; exact own_onP (W' := wr.drewN nq) hO.out (fun _ _ _ _ => rfl)
            have B0 := hid (show Below w2.heap.size w2 W0 by rw [← hW0]; exact hB.out.trans ((below_drewN _ _ _).mono hB.out.size))
            have X0 := hid (show W0.rangeAt ga (i * 4) [.string xr, .string xn, .int .i64 (xp : Int), .int .i64 (xh : Int)] by rw [← hW0]; exact hrx.out)
            obtain ⟨X, hX⟩ : ∃ X, W0.heap.size = X := ⟨_, rfl⟩
            obtain ⟨W1, hW1⟩ : ∃ W, W0.alloc (.cells #[.string xr, .string xn, .int .i64 (xp : Int), .int .i64 (xh : Int)] 25) = W := ⟨_, rfl⟩
            obtain ⟨so', c', W2, hrun, own2, b2'⟩ := one_more O0 ⟨xr, xn, xp, xh, xa⟩ (by omega) B0.out.size
            rw [hX, hW1] at hrun
            have hrun := hid hrun
            have own2 := hid (show W2.ownsRow w2.heap.size 25 4 (.slice so' (i + k + 1) c') (i + 1 + k) (((O ++ [(⟨xr, xn, xp, xh, xa⟩ : Ent)]).map lrOf).flatMap lrL) by rw [show i + 1 + k = i + k + 1 by omega]; exact own2)
            have B2 := hid (show Below w2.heap.size w2 W2 from B0.out.trans b2')
            clear hW0 O0 B0 b2' hO hB hry hrx Ra Rb
            go_wp2_with (first
              | refine wpList_load_want 25 _ ga (i * 4) [.string xr, .string xn, .int .i64 (xp : Int), .int .i64 (xh : Int)] _ X0.out Try.underlying25 (by kernel_rfl) rfl rfl rfl (by rfl) ?_
              | (at_builtin; refine wpList_append_runP rfl _ _ 22 rfl (.slice so (i + k) cp) (.slice (some ⟨X, 0, none⟩) 1 1) (.slice so' (i + k + 1) c') W2 rfl rfl hrun.out ?_)
              | fail)
            go_roundw
            case rel => exact ⟨i + 1, _, hi'.out, by simp, own2, heq2, B2⟩
            case measure => simp [intOf]; have := hi'.out; omega
          · have hd : decide ((yh : Int) ≤ (xh : Int)) = false := by simp; omega
            have heq2 := hid (show (O ++ [(⟨yr, yn, yp, yh, ya⟩ : Ent)]) ++ mgR (A.drop i) (Bq.drop (k + 1)) = mgR A Bq from by
              rw [← heq.out, hdy.out, List.append_assoc]
              congr 1
              rw [hdx.out, mgR_right (by exact hyx)]
              rfl)
            go_wp2_with fail
            go_quiet (fail)
            obtain ⟨W0, hW0⟩ : ∃ W, wr.drewN nq = W := ⟨_, rfl⟩
            rw [hW0]
            have O0 : W0.ownsRow w2.heap.size 25 4 (.slice so (i + k) cp) (i + k) ((O.map lrOf).flatMap lrL) := by rw [← hW0]; exact own_onP (W' := wr.drewN nq) hO.out (fun _ _ _ _ => rfl)
            have B0 := hid (show Below w2.heap.size w2 W0 by rw [← hW0]; exact hB.out.trans ((below_drewN _ _ _).mono hB.out.size))
            have Y0 := hid (show W0.rangeAt gb (k * 4) [.string yr, .string yn, .int .i64 (yp : Int), .int .i64 (yh : Int)] by rw [← hW0]; exact hry.out)
            obtain ⟨X, hX⟩ : ∃ X, W0.heap.size = X := ⟨_, rfl⟩
            obtain ⟨W1, hW1⟩ : ∃ W, W0.alloc (.cells #[.string yr, .string yn, .int .i64 (yp : Int), .int .i64 (yh : Int)] 25) = W := ⟨_, rfl⟩
            obtain ⟨so', c', W2, hrun, own2, b2'⟩ := one_more O0 ⟨yr, yn, yp, yh, ya⟩ (by omega) B0.out.size
            rw [hX, hW1] at hrun
            have hrun := hid hrun
            have own2 := hid (show W2.ownsRow w2.heap.size 25 4 (.slice so' (i + k + 1) c') (i + (k + 1)) (((O ++ [(⟨yr, yn, yp, yh, ya⟩ : Ent)]).map lrOf).flatMap lrL) from own2)
            have B2 := hid (show Below w2.heap.size w2 W2 from B0.out.trans b2')
            clear hW0 O0 B0 b2' hO hB hry hrx Ra Rb
            go_wp2_with (first
              | refine wpList_load_want 25 _ gb (k * 4) [.string yr, .string yn, .int .i64 (yp : Int), .int .i64 (yh : Int)] _ Y0.out Try.underlying25 (by kernel_rfl) rfl rfl rfl (by rfl) ?_
              | (at_builtin; refine wpList_append_runP rfl _ _ 22 rfl (.slice so (i + k) cp) (.slice (some ⟨X, 0, none⟩) 1 1) (.slice so' (i + k + 1) c') W2 rfl rfl hrun.out ?_)
              | fail)
            go_roundw
            case rel => exact ⟨i, k + 1, _, hi, hk'.out, rfl, by simp, own2, heq2, B2⟩
            case measure => simp [intOf]; have := hk'.out; omega
        · obtain rfl : i = h := by omega
          have hrx := hid True.intro
          have heq2 := hid (show (O ++ [(⟨yr, yn, yp, yh, ya⟩ : Ent)]) ++ mgR (A.drop i) (Bq.drop (k + 1)) = mgR A Bq from by
            rw [← heq.out, hdy.out, List.append_assoc]
            congr 1
            rw [List.drop_eq_nil_of_le (by rw [hAl.out]; exact Nat.le_refl _), mgR_nil, mgR_nil]
            rfl)
          go_wp2_with fail
          go_quiet (fail)
          obtain ⟨W0, hW0⟩ : ∃ W, wr.drewN nq = W := ⟨_, rfl⟩
          rw [hW0]
          have O0 : W0.ownsRow w2.heap.size 25 4 (.slice so (i + k) cp) (i + k) ((O.map lrOf).flatMap lrL) := by rw [← hW0]; exact own_onP (W' := wr.drewN nq) hO.out (fun _ _ _ _ => rfl)
          have B0 := hid (show Below w2.heap.size w2 W0 by rw [← hW0]; exact hB.out.trans ((below_drewN _ _ _).mono hB.out.size))
          have Y0 := hid (show W0.rangeAt gb (k * 4) [.string yr, .string yn, .int .i64 (yp : Int), .int .i64 (yh : Int)] by rw [← hW0]; exact hry.out)
          obtain ⟨X, hX⟩ : ∃ X, W0.heap.size = X := ⟨_, rfl⟩
          obtain ⟨W1, hW1⟩ : ∃ W, W0.alloc (.cells #[.string yr, .string yn, .int .i64 (yp : Int), .int .i64 (yh : Int)] 25) = W := ⟨_, rfl⟩
          obtain ⟨so', c', W2, hrun, own2, b2'⟩ := one_more O0 ⟨yr, yn, yp, yh, ya⟩ (by omega) B0.out.size
          rw [hX, hW1] at hrun
          have hrun := hid hrun
          have own2 := hid (show W2.ownsRow w2.heap.size 25 4 (.slice so' (i + k + 1) c') (i + (k + 1)) (((O ++ [(⟨yr, yn, yp, yh, ya⟩ : Ent)]).map lrOf).flatMap lrL) from own2)
          have B2 := hid (show Below w2.heap.size w2 W2 from B0.out.trans b2')
          clear hW0 O0 B0 b2' hO hB hry hrx Ra Rb
          go_wp2_with (first
            | refine wpList_load_want 25 _ gb (k * 4) [.string yr, .string yn, .int .i64 (yp : Int), .int .i64 (yh : Int)] _ Y0.out Try.underlying25 (by kernel_rfl) rfl rfl rfl (by rfl) ?_
            | (at_builtin; refine wpList_append_runP rfl _ _ 22 rfl (.slice so (i + k) cp) (.slice (some ⟨X, 0, none⟩) 1 1) (.slice so' (i + k + 1) c') W2 rfl rfl hrun.out ?_)
            | fail)
          go_roundw
          case rel => exact ⟨i, k + 1, _, hi, hk'.out, rfl, by simp, own2, heq2, B2⟩
          case measure => simp [intOf]; have := hk'.out; omega
    · obtain rfl : k = nb := by omega
      have heq := hid (show O ++ A.drop i = mgR A Bq by
        have h := heq.out
        rw [List.drop_eq_nil_of_le (show Bq.length ≤ k by rw [hBl.out]; exact Nat.le_refl _), mgR_none] at h
        exact h)
      obtain ⟨so, cp, rfl⟩ := own_shapeP hO.out
      have Ra := hid (own_onP (W' := wr) ha.out (fun q hq _ hl => hB.out.block q hl))
      have hds : (A.drop i).length = h - i := by rw [List.length_drop, hAl.out]
      have hii : (i : Int) ≤ (h : Int) := by omega
      have hci : (h : Int) ≤ (ca : Int) := by omega
      by_cases hcm : ca = i
      · have hk1 : h - i = 0 := by omega
        subst hcm
        rw [hk1] at hds
        have Rb := hid True.intro
        obtain ⟨so', c', W2, hrun, own2, g2, -⟩ := rw_app hO.out ⟨ga, 0, none⟩ 0 0 (A.drop ca) hds (by rw [List.drop_eq_nil_of_le (by rw [hAl.out]; omega)]; intro j u h; simp at h) (by omega) hB.out.size
        rw [show ca + k + 0 = n by omega] at hrun own2
        rw [heq.out] at own2
        have hrun := hid hrun
        have own2 := hid (own2.mono (show w.heap.size ≤ w2.heap.size from B02.out.size))
        have B2 := hid (show Below w.heap.size w W2 from B02.out.trans (((hB.out).grown g2 hB.out.size (fun b e => (hO.out.lt b e).1)).mono B02.out.size))
        clear hO hB g2 Ra Rb
        go_wp2_with (first
          | (at_builtin; refine wpList_append_runP rfl _ _ 22 rfl (.slice so (ca + k) cp) (.slice (some ⟨ga, 0, none⟩) 0 0) (.slice so' n c') W2 rfl rfl hrun.out ?_)
          | fail)
        go_ret
        exact ⟨so', c', rfl, own2, B2⟩
      · obtain ⟨d, hd⟩ : ∃ d, ca - i = d := ⟨_, rfl⟩
        have hd1 : ¬ d = 0 := by omega
        have hd0 : (d == 0) = false := by simp; omega
        have Rb := hid True.intro
        obtain ⟨so', c', W2, hrun, own2, g2, -⟩ := rw_app hO.out ⟨ga, i * 4, none⟩ (h - i) d (A.drop i) hds (row_src Ra.out hAl.out (fun j x h => by rw [List.getElem?_drop] at h; exact h)) (by omega) hB.out.size
        rw [show i + k + (h - i) = n by omega] at hrun own2
        rw [heq.out] at own2
        have hrun := hid hrun
        have own2 := hid (own2.mono (show w.heap.size ≤ w2.heap.size from B02.out.size))
        have B2 := hid (show Below w.heap.size w W2 from B02.out.trans (((hB.out).grown g2 hB.out.size (fun b e => (hO.out.lt b e).1)).mono B02.out.size))
        clear hO hB g2 Ra Rb
        go_wp2_with (first
          | (at_builtin; refine wpList_append_runP rfl _ _ 22 rfl (.slice so (i + k) cp) (.slice (some ⟨ga, i * 4, none⟩) (h - i) d) (.slice so' n c') W2 rfl rfl hrun.out ?_)
          | fail)
        go_ret
        exact ⟨so', c', rfl, own2, B2⟩
theorem sortedR_calls : ∀ (f : Nat) (L : List Ent) (n : Nat) (so : Option Addr) (cap : Nat) (w : World), n ≤ f + 1 → n ≤ 4096 → SlAt w so n cap L →
    Calls Try.prog 39 #[.slice so n cap] w fun e w' => SoR f L n w e w'
  | 0, L, n, so, cap, w, h, _, hL => sortedR_few 0 L n (by omega) so cap w (hid hL)
  | f + 1, L, n, so, cap, w, h, h4, hL => by
    by_cases h2 : n < 2
    · exact sortedR_few (f + 1) L n h2 so cap w (hid hL)
    · exact sortedR_step f L n (by omega) h4 so cap w (hid hL) (fun M m so' c u hm hu => sortedR_calls f M m so' c u (by omega) (by omega) hu)
set_option maxRecDepth 10000 in
set_option maxHeartbeats 4000000 in
/-- All of the document's. -/
theorem allR_calls (qb : Nat) (S : Nat → Prop) (room : Nat) (L : List Ent) (hL : L.length ≤ 4096) (w : World) (hP : Hid (RfM w qb S room L)) :
    Calls Try.prog 16 #[ptB qb] w fun e w' => SoR 4096 L L.length w e w' := by
  obtain ⟨so, c, hV⟩ := hP.out.shape
  have c1 := hV.1.cell 1
  simp only [List.getElem?_toArray, List.getElem?_cons_succ, List.getElem?_cons_zero] at c1
  have hso := hid (sortedR_calls 4096 L L.length so c w (by omega) hL (own_sl hV.2.1 rfl))
  obtain ⟨N, hN⟩ : ∃ N, L.length = N := ⟨_, rfl⟩
  rw [hN] at c1 hso ⊢
  clear hV hP
  go_enter Try.func16, Try.ntmps16
  go_wp2_with fail
  refine Calls.mono hso.out ?_
  rintro e w1 ⟨so', c', rfl, h1, h2⟩
  clear hso
  go_wp2
  go_ret
  exact ⟨so', c', rfl, h1, h2⟩
end Go.Proofs.Ytiggfigjibggaaa
