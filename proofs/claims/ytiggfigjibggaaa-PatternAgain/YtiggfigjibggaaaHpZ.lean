/-
  PatternCounts.
-/
import Derived.Test.YtiggfigjibggaaaHpY
namespace Go.Proofs.Ytiggfigjibggaaa
open Go.RowKit Go.Shelf Go.Maps

theorem mem_takeO {α : Type} {l : List α} {i : Nat} {b : α} (h : b ∈ l.take i) : ∃ j, j < i ∧ l[j]? = some b := by
  obtain ⟨j, hj⟩ := List.getElem?_of_mem h
  rw [List.getElem?_take] at hj
  split at hj
  · rename_i h1; exact ⟨j, h1, hj⟩
  · cases hj
theorem takeO_mem {α : Type} {l : List α} {i j : Nat} {b : α} (h : l[j]? = some b) (hj : j < i) : b ∈ l.take i :=
  List.mem_of_getElem? (i := j) (by rw [List.getElem?_take, if_pos hj]; exact h)
/-- Whether none of the calls ahead of a place, and ahead of another one, learns the key. -/
def fstB (r n : ByteArray) (ops : List OpV) (i k : Nat) : Prop := ∀ j b, j < k → j < i → ops[j]? = some b → ¬ isK r n b
theorem fstB_zero (r n : ByteArray) (ops : List OpV) (i : Nat) : fstB r n ops i 0 := fun _ _ h => absurd h (Nat.not_lt_zero _)
theorem fstB_no {r n : ByteArray} {ops : List OpV} {i k : Nat} {y : OpV} (hy : ops[k]? = some y) (h : ¬ isK r n y) : fstB r n ops i (k + 1) ↔ fstB r n ops i k := by
  constructor
  · exact fun f j b h1 => f j b (by omega)
  · intro f j b h1 h2 h3
    by_cases hj : j = k
    · subst hj
      rw [hy] at h3
      cases h3
      exact h
    · exact f j b (by omega) h2 h3
theorem fstB_ge {r n : ByteArray} {ops : List OpV} {i k : Nat} (h : ¬ k < i) : fstB r n ops i (k + 1) ↔ fstB r n ops i k := by
  constructor
  · exact fun f j b h1 => f j b (by omega)
  · exact fun f j b h1 h2 h3 => f j b (by omega) h2 h3
theorem fstB_lt {r n : ByteArray} {ops : List OpV} {i k : Nat} {y : OpV} (hy : ops[k]? = some y) (h : isK r n y) (hk : k < i) : ¬ fstB r n ops i (k + 1) := fun f => f k y (Nat.lt_succ_self _) hk hy h
set_option maxRecDepth 10000 in
set_option maxHeartbeats 8000000 in
theorem patternCounts_walk (ao : Option Addr) (cap : Nat) (ops : List OpV) (hz : ops.length ≤ reachBytes) (w : World) (hops : OpsAt w ao ops) :
    Calls Try.prog 6 #[.slice ao ops.length cap] w fun e w' => e = .returned (.bool true) ∧ Below w.heap.size w w' := by
  obtain ⟨N, hN⟩ : ∃ N, Hid (ops.length = N) := ⟨_, rfl⟩
  have hN2 : (N : Int) ≤ 140737488355328 := by have := hN.out; unfold reachBytes at hz; omega
  rw [hN.out]
  have hops := hid hops
  have haw := hid (awake25 w)
  clear hz
  go_enter Try.func6, Try.ntmps6
  go_wp2_with fail
  refine Calls.mono haw.out ?_
  rintro e w1 ⟨rfl, B1⟩
  have B1 := hid B1
  clear haw
  by_cases hbig : 4000 < N
  · have hbigi : (4000 : Int) < (N : Int) := by omega
    go_wp2
    go_ret
    exact ⟨rfl, B1.out⟩
  have hbigi : ¬ (4000 : Int) < (N : Int) := by omega
  have hN4 : (N : Int) ≤ 4000 := by omega
  have hle := hid (learns_calls 4096 (Nat.le_refl _) ops N hN hN2 ao cap w1 (hid (hops.out.kept B1.out)))
  go_wp2_with fail
  refine Calls.mono hle.out ?_
  rintro e w3 ⟨pb, came, L, rfl, hL, hP, b3⟩
  have B3 := hid (show Below w.heap.size w w3 from B1.out.trans (b3.out.mono B1.out.size))
  have hal := hid (all_calls25 pb _ 4096 came L w3 hP.out)
  obtain ⟨n, hn⟩ : ∃ n, Hid (L.length = n) := ⟨_, rfl⟩
  have hcnt := hid (hL.out.cnt (by rw [hN.out]; omega) (Nat.le_refl _))
  have hnN : n ≤ N := by rw [← hn.out, ← hN.out]; exact hcnt.out.1
  have hni : (n : Int) ≤ 4000 := by omega
  clear hle
  go_wp2_with fail
  refine Calls.mono hal.out ?_
  rintro e w4 ⟨g, M, rfl, hMp, hMs, hMr, hg, b4⟩
  rw [hn.out] at hMr ⊢
  have B4 := hid (show Below w.heap.size w w4 from B3.out.trans (b4.out.mono B3.out.size))
  clear hal hP
  have hMl : Hid (M.length = n) := by show _ = _; rw [hMp.out.length_eq]; exact hn.out
  go_wp2_with fail
  go_loopw [5, 6] (fun mm ii wr => ∃ i m : Nat, i ≤ N ∧ m ≤ i ∧ mm = .int .i64 (m : Int) ∧ ii = .int .i64 (i : Int) ∧ Hid (Fst (ops.take i) m) ∧ Hid (Below w4.heap.size w4 wr)) (fun _ ii _ => N - (intOf ii).toNat)
  case atStart => exact ⟨0, 0, Nat.zero_le _, Nat.le_refl _, rfl, rfl, hid (by rw [List.take_zero]; exact .nil), hid (Below.refl _ _)⟩
  case round =>
    obtain ⟨wo, rfl⟩ : ∃ wo, wo = wr := ⟨_, rfl⟩
    obtain ⟨i, m, hi, hmi, rfl, rfl, hF, hB⟩ := hrel
    by_cases hlt : i < N
    · have hlti : (i : Int) < (N : Int) := by omega
      have hi' := hid (show i + 1 ≤ N by omega)
      have hm' := hid (show m + 1 ≤ i + 1 by omega)
      have hm2 := hid (show m ≤ i + 1 by omega)
      have hm4 : (m : Int) ≤ 4000 := by omega
      obtain ⟨x, hx⟩ : ∃ x, Hid (ops[i]? = some x) := ⟨ops[i]'(by rw [hN.out]; exact hlt), List.getElem?_eq_getElem _⟩
      have htk := hid (take_snocO hx.out)
      have hu := hid (fun (u : World) (hu : Below w4.heap.size w4 u) => hops.out.kept (B4.out.trans (hu.mono B4.out.size)))
      obtain ⟨b, o, rfl, -, -, c2, c3, c4⟩ := ops_at (hu.out _ hB.out) hx.out
      have ad : (⟨b, o, none⟩ : Addr).add (i * 5) = ⟨b, o + i * 5, none⟩ := by by_cases h : i * 5 = 0 <;> simp [Addr.add, h]
      by_cases hp : x.p < 0
      · have hF2 := hid (show Fst (ops.take (i + 1)) m from by rw [htk.out]; exact .no x hF.out (.inl hp))
        obtain ⟨on, kd, xr, xn, xp⟩ := x
        dsimp only at *
        go_wp2
        go_roundw
        case rel => exact ⟨i + 1, m, hi'.out, hm2.out, rfl, by simp, hF2, hB⟩
        case measure => simp [intOf]; have := hi'.out; omega
      · have hxk := hid (show isK x.r x.n x from ⟨by omega, rfl, rfl⟩)
        obtain ⟨on, kd, xr, xn, xp⟩ := x
        dsimp only at *
        go_wp2_with fail
        go_loopw [7, 8, 9, 10] (fun ff pp hh kk wi => ∃ (k : Nat) (fb : Bool) (P : Int) (h : Nat), k ≤ N ∧ ff = .bool fb ∧ pp = .int .i64 P ∧ hh = .int .i64 (h : Int) ∧ kk = .int .i64 (k : Int) ∧ Hid (kh xr xn (ops.take k) = (P, h)) ∧ Hid (fb = true ↔ fstB xr xn ops i k) ∧ Hid (Below w4.heap.size w4 wi)) (fun _ _ _ kk _ => N - (intOf kk).toNat)
        case atStart => exact ⟨0, true, 0, 0, Nat.zero_le _, rfl, rfl, rfl, rfl, hid rfl, hid ⟨fun _ => fstB_zero _ _ _ _, fun _ => rfl⟩, hB⟩
        case round =>
          clear hB c2 c3 c4
          obtain ⟨k, fb, P, h, hk, rfl, rfl, rfl, rfl, hkh, hfb, hB⟩ := hrel
          by_cases hkN : k < N
          · have hkNi : (k : Int) < (N : Int) := by omega
            have hk' := hid (show k + 1 ≤ N by omega)
            have hh4 : (h : Int) ≤ 4000 := by
              have h1 := kh_le xr xn (M := N) (ops.take k) (by rw [List.length_take]; omega)
              rw [hkh.out] at h1
              have h2 : h ≤ N := h1
              omega
            obtain ⟨y, hy⟩ : ∃ y, Hid (ops[k]? = some y) := ⟨ops[k]'(by rw [hN.out]; exact hkN), List.getElem?_eq_getElem _⟩
            have hyk := hid (take_snocO hy.out)
            have hkh2 := hid (kh_snoc xr xn (ops.take k) y)
            have hsame := hid (fun (hno : ¬ isK xr xn y) => (show kh xr xn (ops.take (k + 1)) = (P, h) ∧ (fb = true ↔ fstB xr xn ops i (k + 1)) from ⟨by rw [hyk.out, kh_no hno]; exact hkh.out, hfb.out.trans (fstB_no hy.out hno).symm⟩))
            obtain ⟨b', o', hbo, -, -, c2, c3, c4⟩ := ops_at (hu.out _ hB.out) hx.out
            cases hbo
            obtain ⟨b', o', hbo, -, -, d2, d3, d4⟩ := ops_at (hu.out _ hB.out) hy.out
            cases hbo
            have adk : (⟨b, o, none⟩ : Addr).add (k * 5) = ⟨b, o + k * 5, none⟩ := by by_cases h : k * 5 = 0 <;> simp [Addr.add, h]
            by_cases hyp : y.p < 0
            · have hs := hid (hsame.out (fun hk => by have := hk.1; omega))
              obtain ⟨yon, ykd, yr, yn, yp⟩ := y
              dsimp only at *
              clear hsame hkh2
              go_wp2_with fail
              go_quiet (fail)
              have hB2 := hid (show Below w4.heap.size w4 (wr.drewN nq) from hB.out.trans ((below_drewN _ _ _).mono hB.out.size))
              clear hB c2 c3 c4 d2 d3 d4
              go_wp2
              go_roundw
              case rel => exact ⟨k + 1, fb, P, h, hk'.out, rfl, rfl, rfl, by simp, hid hs.out.1, hid hs.out.2, hB2⟩
              case measure => simp [intOf]; have := hk'.out; omega
            · have hyd : decide (y.p < 0) = false := by simpa using hyp
              by_cases hr : y.r = xr
              · by_cases hnn : y.n = xn
                · have hyK := hid (show isK xr xn y from ⟨by omega, hr, hnn⟩)
                  have hst := hid (show kh xr xn (ops.take (k + 1)) = (if y.p = P then (P, h + 1) else (y.p, 1)) from by rw [hyk.out, hkh2.out, hkh.out, khS, if_pos hyK.out])
                  have hfl := hid (fun hki : k < i => fstB_lt hy.out hyK.out hki)
                  clear hsame hkh2
                  obtain ⟨yon, ykd, yr, yn, yp⟩ := y
                  dsimp only at *
                  subst hr
                  subst hnn
                  by_cases hyP : yp = P
                  · subst hyP
                    have hst2 := hid (by have := hst.out; rw [if_pos rfl] at this; exact this)
                    by_cases hki : k < i
                    · have hkii : (k : Int) < (i : Int) := by omega
                      have hfl2 := hid (hfl.out hki)
                      clear hst
                      go_wp2_with fail
                      go_quiet (fail)
                      have hB2 := hid (show Below w4.heap.size w4 (wr.drewN nq) from hB.out.trans ((below_drewN _ _ _).mono hB.out.size))
                      go_wp2
                      go_roundw
                      case rel => exact ⟨k + 1, false, yp, h + 1, hk'.out, rfl, rfl, by simp, by simp, hst2, hid ⟨fun e => by simp at e, fun e => absurd e hfl2.out⟩, hB2⟩
                      case measure => simp [intOf]; have := hk'.out; omega
                    · have hkii : ¬ (k : Int) < (i : Int) := by omega
                      have hfl2 := hid (hfb.out.trans (fstB_ge hki).symm)
                      clear hst
                      go_wp2_with fail
                      go_quiet (fail)
                      have hB2 := hid (show Below w4.heap.size w4 (wr.drewN nq) from hB.out.trans ((below_drewN _ _ _).mono hB.out.size))
                      go_wp2
                      go_roundw
                      case rel => exact ⟨k + 1, fb, yp, h + 1, hk'.out, rfl, rfl, by simp, by simp, hst2, hfl2, hB2⟩
                      case measure => simp [intOf]; have := hk'.out; omega
                  · have hst2 := hid (by have := hst.out; rw [if_neg hyP] at this; exact this)
                    by_cases hki : k < i
                    · have hkii : (k : Int) < (i : Int) := by omega
                      have hfl2 := hid (hfl.out hki)
                      clear hst
                      go_wp2_with fail
                      go_quiet (fail)
                      have hB2 := hid (show Below w4.heap.size w4 (wr.drewN nq) from hB.out.trans ((below_drewN _ _ _).mono hB.out.size))
                      go_wp2
                      go_roundw
                      case rel => exact ⟨k + 1, false, yp, 1, hk'.out, rfl, rfl, by simp, by simp, hst2, hid ⟨fun e => by simp at e, fun e => absurd e hfl2.out⟩, hB2⟩
                      case measure => simp [intOf]; have := hk'.out; omega
                    · have hkii : ¬ (k : Int) < (i : Int) := by omega
                      have hfl2 := hid (hfb.out.trans (fstB_ge hki).symm)
                      clear hst
                      go_wp2_with fail
                      go_quiet (fail)
                      have hB2 := hid (show Below w4.heap.size w4 (wr.drewN nq) from hB.out.trans ((below_drewN _ _ _).mono hB.out.size))
                      go_wp2
                      go_roundw
                      case rel => exact ⟨k + 1, fb, yp, 1, hk'.out, rfl, rfl, by simp, by simp, hst2, hfl2, hB2⟩
                      case measure => simp [intOf]; have := hk'.out; omega
                · have hs := hid (hsame.out (fun hk => hnn hk.2.2))
                  have hn2 := toList_ne hnn
                  have hnB : (y.n.toList == xn.toList) = false := by simpa using hn2
                  obtain ⟨yon, ykd, yr, yn, yp⟩ := y
                  dsimp only at *
                  subst hr
                  clear hsame hkh2
                  go_wp2_with fail
                  go_quiet (fail)
                  have hB2 := hid (show Below w4.heap.size w4 (wr.drewN nq) from hB.out.trans ((below_drewN _ _ _).mono hB.out.size))
                  clear hB c2 c3 c4 d2 d3 d4
                  go_wp2
                  go_roundw
                  case rel => exact ⟨k + 1, fb, P, h, hk'.out, rfl, rfl, rfl, by simp, hid hs.out.1, hid hs.out.2, hB2⟩
                  case measure => simp [intOf]; have := hk'.out; omega
              · have hs := hid (hsame.out (fun hk => hr hk.2.1))
                have hr2 := toList_ne hr
                have hrB : (y.r.toList == xr.toList) = false := by simpa using hr2
                obtain ⟨yon, ykd, yr, yn, yp⟩ := y
                dsimp only at *
                clear hsame hkh2
                go_wp2_with fail
                go_quiet (fail)
                have hB2 := hid (show Below w4.heap.size w4 (wr.drewN nq) from hB.out.trans ((below_drewN _ _ _).mono hB.out.size))
                clear hB c2 c3 c4 d2 d3 d4
                go_wp2
                go_roundw
                case rel => exact ⟨k + 1, fb, P, h, hk'.out, rfl, rfl, rfl, by simp, hid hs.out.1, hid hs.out.2, hB2⟩
                case measure => simp [intOf]; have := hk'.out; omega
          · obtain rfl : k = N := by omega
            have hkh3 := hid (show kh xr xn ops = (P, h) from by have := hkh.out; rw [← hN.out, List.take_length] at this; exact this)
            cases fb with
            | false =>
              have hF2 := hid (show Fst (ops.take (i + 1)) m from by
                rw [htk.out]
                refine .no _ hF.out (.inr ?_)
                apply Classical.byContradiction
                intro hq
                have := hfb.out.2 (fun j b h1 h2 h3 hk => hq ⟨b, takeO_mem h3 h2, hk⟩)
                cases this)
              go_wp2
              go_roundw
              case rel => exact ⟨i + 1, m, hi'.out, hm2.out, rfl, by simp, hF2, hB⟩
              case measure => simp [intOf]; have := hi'.out; omega
            | true =>
              have hF2 := hid (show Fst (ops.take (i + 1)) (m + 1) from by
                rw [htk.out]
                refine .yes _ hF.out hxk.out.1 (fun b hb hk => ?_)
                obtain ⟨j, h1, h2⟩ := mem_takeO hb
                exact (hfb.out.1 rfl) j b (by omega) h1 h2 hk)
              obtain ⟨j, e, hj, her, hen, hep, heh⟩ : ∃ (j : Nat) (e : Ent), Hid (M[j]? = some e) ∧ e.r = xr ∧ e.n = xn ∧ (e.p : Int) = P ∧ e.h = h := by
                obtain ⟨e, he, h1, h2⟩ := hcnt.out.2.2.2.1 _ (List.mem_of_getElem? hx.out) hxk.out.1
                have h3 := hcnt.out.2.2.1 e he
                dsimp only at h1 h2
                rw [h1, h2, hkh3.out] at h3
                obtain ⟨j, hj⟩ := List.getElem?_of_mem (hMp.out.mem_iff.2 he)
                exact ⟨j, e, hj, h1, h2, congrArg Prod.fst h3, congrArg Prod.snd h3⟩
              have hjn : j < n := by rw [← hMl.out]; exact (List.getElem?_eq_some_iff.1 hj.out).1
              go_wp2_with fail
              go_loopw [11, 12] (fun ff kk wi => ∃ (q : Nat) (fb : Bool), q ≤ n ∧ ff = .bool fb ∧ kk = .int .i64 (q : Int) ∧ Hid (j < q → fb = true) ∧ Hid (Below w4.heap.size w4 wi)) (fun _ kk _ => n - (intOf kk).toNat)
              case atStart => exact ⟨0, false, Nat.zero_le _, rfl, rfl, hid (fun h => by omega), hB⟩
              case round =>
                clear hB
                obtain ⟨q, fb, hq, rfl, rfl, hfq, hB⟩ := hrel
                by_cases hqn : q < n
                · have hqni : (q : Int) < (n : Int) := by omega
                  have hq' := hid (show q + 1 ≤ n by omega)
                  obtain ⟨z, hz⟩ : ∃ z, Hid (M[q]? = some z) := ⟨M[q]'(by rw [hMl.out]; exact hqn), List.getElem?_eq_getElem _⟩
                  obtain ⟨b', o', hbo, -, -, c2, c3, c4⟩ := ops_at (hu.out _ hB.out) hx.out
                  cases hbo
                  have c2q := fun (wq : World) (h : Below wr.heap.size wr wq) => ((h.cell (block_lt_of_cell c2)).trans c2)
                  have c3q := fun (wq : World) (h : Below wr.heap.size wr wq) => ((h.cell (block_lt_of_cell c3)).trans c3)
                  clear c2 c3 c4
                  have R1 := hid ((hMr.out.kept hB.out).range hz.out)
                  have adq : (⟨g, 0, none⟩ : Addr).add (q * 4) = ⟨g, q * 4, none⟩ := by by_cases h : q * 4 = 0 <;> simp [Addr.add, h]
                  by_cases hzt : z.r = xr ∧ z.n = xn ∧ (z.p : Int) = P ∧ (z.h : Int) = (h : Int)
                  · have eqs : ∀ u, (Op.equalIn 10000 25 (.agg #[.string z.r, .string z.n, .int .i64 (z.p : Int), .int .i64 (z.h : Int)]) (.agg #[.string xr, .string xn, .int .i64 P, .int .i64 (h : Int)])).run Try.prog u = .ok true u := by
                      obtain ⟨h1, h2, h3, h4⟩ := hzt
                      rw [h1, h2, h3, h4]
                      exact eqLr _ _ _ _
                    obtain ⟨zr, zn, zp, zh, za⟩ := z
                    dsimp only [lrC] at *
                    clear hzt
                    go_wp2_with fail
                    refine wp_region_quiet (C := (fun w' => Below wr.heap.size wr w')) (by kernel_rfl) (by kernel_rfl) ((Below.refl _ _).drew) ?_
                    dsimp only
                    repeat (first
                      | go_big_quiet_skip
                      | (refine' wpQuiet_take (by rfl) ?_ ?_
                         rotate_left
                         · (intro wq hq; (try dsimp only at hq); go_simp
                            first
                              | done
                              | with_reducible rfl
                           )
                         simp only [Act.put, List.setIfInBounds_toArray, List.set_cons_zero, List.set_cons_succ])
                      | (refine wpQuiet_load 25 _ (g) (q * 4) [.string zr, .string zn, .int .i64 (zp : Int), .int .i64 (zh : Int)] _ (fun wq hq => range_kept R1.out hq) Try.underlying25 sizeLr rfl rfl rfl (by rfl) ?_; simp only [Act.put, List.setIfInBounds_toArray, List.set_cons_zero, List.set_cons_succ]))
                    refine wpQuiet_nil ?_
                    intro wz hwz
                    have hB2 := hid (hB.out.trans (Below.mono hwz hB.out.size))
                    clear hwz hB
                    go_wp2
                    go_roundw
                    case rel => exact ⟨q + 1, true, hq'.out, rfl, by simp, hid (fun _ => rfl), hB2⟩
                    case measure => simp [intOf]; have := hq'.out; omega
                  · have eqs := neLr hzt
                    have hjq := hid (show j < q + 1 → j < q from fun h1 => by
                      have hjne : j ≠ q := fun h2 => by
                        subst h2
                        have h3 := hj.out.symm.trans hz.out
                        cases h3
                        exact hzt ⟨her, hen, hep, by rw [heh]⟩
                      omega)
                    obtain ⟨zr, zn, zp, zh, za⟩ := z
                    dsimp only [lrC] at *
                    clear hzt
                    go_wp2_with fail
                    refine wp_region_quiet (C := (fun w' => Below wr.heap.size wr w')) (by kernel_rfl) (by kernel_rfl) ((Below.refl _ _).drew) ?_
                    dsimp only
                    repeat (first
                      | go_big_quiet_skip
                      | (refine' wpQuiet_take (by rfl) ?_ ?_
                         rotate_left
                         · (intro wq hq; (try dsimp only at hq); go_simp
                            first
                              | done
                              | with_reducible rfl
                           )
                         simp only [Act.put, List.setIfInBounds_toArray, List.set_cons_zero, List.set_cons_succ])
                      | (refine wpQuiet_load 25 _ (g) (q * 4) [.string zr, .string zn, .int .i64 (zp : Int), .int .i64 (zh : Int)] _ (fun wq hq => range_kept R1.out hq) Try.underlying25 sizeLr rfl rfl rfl (by rfl) ?_; simp only [Act.put, List.setIfInBounds_toArray, List.set_cons_zero, List.set_cons_succ]))
                    refine wpQuiet_nil ?_
                    intro wz hwz
                    have hB2 := hid (hB.out.trans (Below.mono hwz hB.out.size))
                    clear hwz hB
                    go_wp2
                    go_roundw
                    case rel => exact ⟨q + 1, fb, hq'.out, rfl, by simp, hid (fun h => hfq.out (hjq.out h)), hB2⟩
                    case measure => simp [intOf]; have := hq'.out; omega
                · obtain rfl : q = n := by omega
                  obtain rfl : fb = true := hfq.out hjn
                  go_wp2
                  go_roundw
                  case rel => exact ⟨i + 1, m + 1, hi'.out, hm'.out, by simp, by simp, hF2, hB⟩
                  case measure => simp [intOf]; have := hi'.out; omega
    · obtain rfl : i = N := by omega
      have hmn : m = n := by
        have h1 := hF.out
        rw [← hN.out, List.take_length] at h1
        exact (hcnt.out.2.2.2.2.2 m h1).trans hn.out
      subst hmn
      have hfin := hid (show Below w.heap.size w wo from B4.out.trans (hB.out.mono B4.out.size))
      clear hB
      go_wp2
      go_ret
      exact ⟨by simp, hfin.out⟩
end Go.Proofs.Ytiggfigjibggaaa
