/-
  PatternBounds.
-/
import Derived.Test.YtiggfigjibggaaaHpW
namespace Go.Proofs.Ytiggfigjibggaaa
open Go.RowKit Go.Shelf Go.Maps

theorem rmd_mem {room : Nat} {L L1 : List Ent} (h : Rmd room L L1) : ∀ e ∈ L1, e ∈ L := by
  rcases h with ⟨-, rfl⟩ | ⟨-, A, f, B, rfl, -, rfl⟩
  · exact fun e he => he
  · intro e he
    rcases List.mem_append.1 he with he | he
    · exact List.mem_append_left _ he
    · exact List.mem_append_right _ (List.mem_cons_of_mem _ he)
theorem upd_hits {e : Ent} {p : Nat} (h : 1 ≤ e.h) : 1 ≤ (upd e p).h := by
  unfold upd
  split
  · show 1 ≤ min _ _; omega
  · exact Nat.le_refl _
theorem LrnL.hits {room : Nat} {ops : List OpV} {c : Nat} {L : List Ent} (h : LrnL room ops c L) : ∀ e ∈ L, 1 ≤ e.h := by
  induction h with
  | nil => exact fun e he => by simp at he
  | no o h hp ih => exact ih
  | yes o p h hp hl ih =>
    rcases hl with ⟨A, x, B, rfl, -, -, rfl, -⟩ | ⟨-, ⟨-, rfl, -⟩ | ⟨-, L1, h1, rfl, -⟩⟩
    · intro e he
      rcases List.mem_append.1 he with he | he
      · exact ih e (List.mem_append_left _ he)
      · rcases List.mem_cons.1 he with rfl | he
        · exact upd_hits (ih x (by simp))
        · exact ih e (List.mem_append_right _ (List.mem_cons_of_mem _ he))
    · exact ih
    · intro e he
      rcases List.mem_append.1 he with he | he
      · exact ih e (rmd_mem h1 e he)
      · obtain rfl := List.mem_singleton.1 he
        exact Nat.le_refl _
theorem LrnL.zero {ops : List OpV} {c : Nat} {L : List Ent} (h : LrnL 0 ops c L) : L = [] := by
  induction h with
  | nil => rfl
  | no o h hp ih => exact ih
  | yes o p h hp hl ih =>
    subst ih
    rcases hl with ⟨A, x, B, h1, -⟩ | ⟨-, ⟨-, rfl, -⟩ | ⟨h1, -⟩⟩
    · simp at h1
    · rfl
    · omega
theorem lrn_mem {room c c' : Nat} {L L' : List Ent} {r n : ByteArray} {p : Nat} (h : Lrn room c L r n p c' L') (h0 : 0 < room) : ∃ e ∈ L', e.r = r ∧ e.n = n ∧ e.p = p := by
  rcases h with ⟨A, e, B, -, rfl, rfl, rfl, -⟩ | ⟨-, ⟨h1, -⟩ | ⟨-, L1, -, rfl, -⟩⟩
  · exact ⟨upd e p, by simp, upd_r e p, upd_n e p, upd_p e p⟩
  · omega
  · exact ⟨_, List.mem_append_right _ (List.mem_singleton.2 rfl), rfl, rfl, rfl⟩
theorem last_split {α : Type} {X A B : List α} {x o : α} (h : X ++ [x] = A ++ o :: B) : (B = [] ∧ x = o ∧ X = A) ∨ ∃ B', B = B' ++ [x] ∧ X = A ++ o :: B' := by
  rcases List.eq_nil_or_concat B with rfl | ⟨B', y, rfl⟩
  · obtain ⟨h1, h2⟩ := List.append_inj' h rfl
    simp at h2
    exact .inl ⟨rfl, h2, h1⟩
  · rw [List.concat_eq_append] at h ⊢
    rw [show A ++ o :: (B' ++ [y]) = (A ++ o :: B') ++ [y] by simp] at h
    obtain ⟨h1, h2⟩ := List.append_inj' h rfl
    simp at h2
    exact .inr ⟨B', by rw [h2], h1⟩
theorem LrnL.last {room : Nat} {ops : List OpV} {c : Nat} {L : List Ent} (h : LrnL room ops c L) (h0 : 0 < room) : ∀ (A B : List OpV) (o : OpV), ops = A ++ o :: B → 0 ≤ o.p → (∀ b ∈ B, b.p < 0) → ∃ e ∈ L, e.r = o.r ∧ e.n = o.n ∧ (e.p : Int) = o.p := by
  induction h with
  | nil => exact fun A B o h => by simp at h
  | no x h hp ih =>
    intro A B o he ho hB
    rcases last_split he with ⟨-, rfl, -⟩ | ⟨B', rfl, rfl⟩
    · omega
    · exact ih A B' o rfl ho (fun b hb => hB b (List.mem_append_left _ hb))
  | yes x p h hp hl ih =>
    intro A B o he ho hB
    rcases last_split he with ⟨-, rfl, -⟩ | ⟨B', rfl, rfl⟩
    · obtain ⟨e, he, h1, h2, h3⟩ := lrn_mem hl h0
      exact ⟨e, he, h1, h2, by rw [h3, hp]⟩
    · have := hB x (by simp)
      omega
theorem LrnL.none {room : Nat} {ops : List OpV} {c : Nat} {L : List Ent} (h : LrnL room ops c L) (hn : ∀ o ∈ ops, o.p < 0) : L = [] := by
  induction h with
  | nil => rfl
  | no x h hp ih => exact ih (fun o ho => hn o (List.mem_append_left _ ho))
  | yes x p h hp hl ih =>
    have := hn x (by simp)
    omega
theorem toList_ne {a b : ByteArray} (h : a ≠ b) : ¬ a.toList = b.toList := fun e => by
  apply h
  apply ByteArray.ext
  apply Array.toList_inj.1
  rw [← Lib.toList_data, ← Lib.toList_data, e]
theorem lr_cells {w : World} {g n : Nat} {M : List Ent} (h : LrAt w g n M) {j : Nat} {e : Ent} (hj : M[j]? = some e) : w.cell? ⟨g, j * 4, none⟩ = some (.string e.r) ∧ w.cell? ⟨g, j * 4 + 1, none⟩ = some (.string e.n) ∧ w.cell? ⟨g, j * 4 + 2, none⟩ = some (.int .i64 (e.p : Int)) ∧ w.cell? ⟨g, j * 4 + 3, none⟩ = some (.int .i64 (e.h : Int)) := by
  have h3 := h.range hj
  exact ⟨h3 0 _ rfl, h3 1 _ rfl, h3 2 _ rfl, h3 3 _ rfl⟩
theorem drop_last {l : List OpV} {i : Nat} {x : OpV} (h : l[i]? = some x) : l.drop i = x :: l.drop (i + 1) := by
  obtain ⟨hl, e⟩ := List.getElem?_eq_some_iff.1 h
  rw [List.drop_eq_getElem_cons hl, e]
set_option maxRecDepth 10000 in
set_option maxHeartbeats 8000000 in
theorem patternBounds_walk (a0 : Int) (_ : (Lit.int .i64 a0).wf = true) (ao : Option Addr) (cap : Nat) (ops : List OpV) (hz : ops.length ≤ reachBytes) (w : World) (hops : OpsAt w ao ops) :
    Calls Try.prog 5 #[.int .i64 a0, .slice ao ops.length cap] w fun e w' => e = .returned (.bool true) ∧ Below w.heap.size w w' := by
  obtain ⟨N, hN⟩ : ∃ N, Hid (ops.length = N) := ⟨_, rfl⟩
  have hN2 : (N : Int) ≤ 140737488355328 := by have := hN.out; unfold reachBytes at hz; omega
  rw [hN.out]
  have hops := hid hops
  have haw := hid (awake25 w)
  clear hz
  go_enter Try.func5, Try.ntmps5
  go_wp2_with fail
  refine Calls.mono haw.out ?_
  rintro e w1 ⟨rfl, B1⟩
  have B1 := hid B1
  have hpk := hid (pick25_calls a0 40 (by omega) (by omega) w1)
  clear haw
  go_wp2_with fail
  refine Calls.mono hpk.out ?_
  rintro e w2 ⟨⟨R, hR, rfl⟩, rfl⟩
  have hR4 : (R : Int) ≤ 4096 := by omega
  have hle := hid (learns_calls R (by omega) ops N hN hN2 ao cap w2 (hid (hops.out.kept B1.out)))
  clear hpk
  go_wp2_with fail
  refine Calls.mono hle.out ?_
  rintro e w3 ⟨pb, came, L, rfl, hL, hP, b3⟩
  have B3 := hid (show Below w.heap.size w w3 from B1.out.trans (b3.out.mono B1.out.size))
  have hal := hid (all_calls25 pb _ R came L w3 hP.out)
  obtain ⟨n, hn⟩ : ∃ n, Hid (L.length = n) := ⟨_, rfl⟩
  have hnR : n ≤ R := by rw [← hn.out]; exact hP.out.ok.2.1
  have hni : (n : Int) ≤ 40 := by omega
  have hnRi : ¬ R < n := by omega
  clear hle
  go_wp2_with fail
  refine Calls.mono hal.out ?_
  rintro e w4 ⟨g, M, rfl, hMp, hMs, hMr, hg, b4⟩
  rw [hn.out] at hMr ⊢
  have hP4 := hid (hP.out.keptB b4.out)
  have B4 := hid (show Below w.heap.size w w4 from B3.out.trans (b4.out.mono B3.out.size))
  have hsz := hid (size_calls25 pb _ R came L w4 hP4.out)
  rw [hn.out] at hsz
  clear hal hP
  go_wp2_with fail
  refine Calls.mono hsz.out ?_
  rintro e w5 ⟨rfl, rfl⟩
  have hMl : Hid (M.length = n) := by show _ = _; rw [hMp.out.length_eq]; exact hn.out
  clear hsz
  have hLok := hid hP4.out.ok
  have hhits := hid hL.out.hits
  have hkeysM := hid (show M.Pairwise (fun x y => ¬ (x.r = y.r ∧ x.n = y.n)) from (hMp.out.pairwise_iff (R := fun x y : Ent => ¬ (x.r = y.r ∧ x.n = y.n)) (fun {a b} hab hba => hab ⟨hba.1.symm, hba.2.symm⟩)).2 hLok.out.2.2.2.1)
  go_wp2_with fail
  go_loopw [7] (fun ii wr => ∃ i : Nat, i ≤ n ∧ ii = .int .i64 (i : Int) ∧ Hid (Below w5.heap.size w5 wr)) (fun ii _ => n - (intOf ii).toNat)
  case atStart => exact ⟨0, Nat.zero_le _, rfl, hid (Below.refl _ _)⟩
  case round =>
    obtain ⟨i, hi, rfl, hB⟩ := hrel
    by_cases hlt : i < n
    · have hlti : (i : Int) < (n : Int) := by omega
      have hi' := hid (show i + 1 ≤ n by omega)
      obtain ⟨x, hx⟩ : ∃ x, Hid (M[i]? = some x) := ⟨M[i]'(by rw [hMl.out]; exact hlt), List.getElem?_eq_getElem _⟩
      have hxL := hid (hMp.out.mem_iff.1 (List.mem_of_getElem? hx.out))
      obtain ⟨c0, c1, c2, c3⟩ := lr_cells (hMr.out.kept hB.out) hx.out
      have ad : (⟨g, 0, none⟩ : Addr).add (i * 4) = ⟨g, i * 4, none⟩ := by by_cases h : i * 4 = 0 <;> simp [Addr.add, h]
      have hgu := hid (fun (m : Nat) => guess_yes pb _ R came L x hxL.out (wr.drewN m) ((hP4.out.keptB hB.out).keptB (below_drewN _ _ m)))
      have hh1 := hhits.out x hxL.out
      have hh2 : decide ((x.h : Int) < 1) = false := by simp; omega
      have hp1 : decide ((x.p : Int) < 0) = false := by simp
      by_cases h0 : i = 0
      · have hi0n : ¬ 0 < i := by omega
        have h0' := hid h0
        obtain ⟨xr, xn, xp, xh, xa⟩ := x
        dsimp only at *
        clear h0
        go_wp2_with fail
        go_quiet ((go_at_call 19; exact Calls.quiet_of_same (hgu.out _)))
        obtain ⟨n1, rfl⟩ : ∃ n1, n1 = nq := ⟨_, rfl⟩
        go_wp2_with fail
        go_quiet (fail)
        have hB1 := hid (show Below w5.heap.size w5 ((wr.drewN n1).drewN nq) from hB.out.trans (((below_drewN wr.heap.size wr n1).trans (below_drewN _ (wr.drewN n1) nq)).mono hB.out.size))
        clear c0 c1 c2 c3 hgu hB
        generalize (wr.drewN n1).drewN nq = wo at *
        go_wp2_with fail
        go_loopw [10] (fun kk wi => ∃ k : Nat, k ≤ i ∧ kk = .int .i64 (k : Int) ∧ Hid (Below w5.heap.size w5 wi)) (fun kk _ => i - (intOf kk).toNat)
        case atStart => exact ⟨0, Nat.zero_le _, rfl, hB1⟩
        case round =>
          clear hB1
          obtain ⟨k, hk, rfl, hBk⟩ := hrel
          have hki : ¬ k < i := by have := h0'.out; omega
          clear hk
          go_wp2
          go_roundw
          case rel => exact ⟨i + 1, hi'.out, by simp, hBk⟩
          case measure => simp [intOf]; have := hi'.out; omega
      · obtain ⟨j, hj⟩ : ∃ j, j + 1 = i := ⟨i - 1, by omega⟩
        have hji : (i : Int) - 1 = (j : Int) := by omega
        have hjn : (j : Int) < (n : Int) := by omega
        have hi0 : 0 < i := by omega
        obtain ⟨y, hy⟩ : ∃ x, Hid (M[j]? = some x) := ⟨M[j]'(by rw [hMl.out]; omega), List.getElem?_eq_getElem _⟩
        obtain ⟨-, -, -, d3⟩ := lr_cells (hMr.out.kept hB.out) hy.out
        have adj : (⟨g, 0, none⟩ : Addr).add (j * 4) = ⟨g, j * 4, none⟩ := by by_cases h : j * 4 = 0 <;> simp [Addr.add, h]
        have hord : ¬ y.h < x.h := by
          obtain ⟨l1, e1⟩ := List.getElem?_eq_some_iff.1 hx.out
          obtain ⟨l2, e2⟩ := List.getElem?_eq_some_iff.1 hy.out
          have := List.pairwise_iff_getElem.1 hMs.out j i l2 l1 (by omega)
          rw [e1, e2] at this
          unfold ltE at this
          omega
        obtain ⟨xr, xn, xp, xh, xa⟩ := x
        obtain ⟨yr, yn, yp, yh, ya⟩ := y
        dsimp only at *
        go_wp2_with fail
        go_quiet ((go_at_call 19; exact Calls.quiet_of_same (hgu.out _)))
        obtain ⟨n1, rfl⟩ : ∃ n1, n1 = nq := ⟨_, rfl⟩
        go_wp2_with fail
        go_quiet (fail)
        have hB1 := hid (show Below w5.heap.size w5 ((wr.drewN n1).drewN nq) from hB.out.trans (((below_drewN wr.heap.size wr n1).trans (below_drewN _ (wr.drewN n1) nq)).mono hB.out.size))
        clear c0 c1 c2 c3 d3 hgu hB
        generalize (wr.drewN n1).drewN nq = wo at *
        go_wp2_with fail
        go_loopw [10] (fun kk wi => ∃ k : Nat, k ≤ i ∧ kk = .int .i64 (k : Int) ∧ Hid (Below w5.heap.size w5 wi)) (fun kk _ => i - (intOf kk).toNat)
        case atStart => exact ⟨0, Nat.zero_le _, rfl, hB1⟩
        case round =>
          clear hB1
          obtain ⟨k, hk, rfl, hBk⟩ := hrel
          by_cases hki : k < i
          · have hkii : (k : Int) < (i : Int) := by omega
            have hkni : (k : Int) < (n : Int) := by omega
            have hk' := hid (show k + 1 ≤ i by omega)
            obtain ⟨z, hz⟩ : ∃ x, Hid (M[k]? = some x) := ⟨M[k]'(by rw [hMl.out]; omega), List.getElem?_eq_getElem _⟩
            obtain ⟨c0, c1, -, -⟩ := lr_cells (hMr.out.kept hBk.out) hx.out
            obtain ⟨z0, z1, -, -⟩ := lr_cells (hMr.out.kept hBk.out) hz.out
            have adk : (⟨g, 0, none⟩ : Addr).add (k * 4) = ⟨g, k * 4, none⟩ := by by_cases h : k * 4 = 0 <;> simp [Addr.add, h]
            have hne : ¬ (z.r = xr ∧ z.n = xn) := by
              obtain ⟨l1, e1⟩ := List.getElem?_eq_some_iff.1 hx.out
              obtain ⟨l2, e2⟩ := List.getElem?_eq_some_iff.1 hz.out
              have := List.pairwise_iff_getElem.1 hkeysM.out k i l2 l1 hki
              rw [e1, e2] at this
              exact this
            obtain ⟨zr, zn, zp, zh, za⟩ := z
            dsimp only at *
            by_cases hr : zr = xr
            · subst hr
              have hn := toList_ne (fun h : xn = zn => hne ⟨rfl, h.symm⟩)
              have hnB : (xn.toList == zn.toList) = false := by simpa using hn
              go_wp2_with fail
              go_quiet (fail)
              have hB2 := hid (show Below w5.heap.size w5 (wr.drewN nq) from hBk.out.trans ((below_drewN _ _ _).mono hBk.out.size))
              clear hBk c0 c1 z0 z1
              go_wp2
              go_roundw
              case rel => exact ⟨k + 1, hk'.out, by simp, hB2⟩
              case measure => simp [intOf]; have := hk'.out; omega
            · have hr2 := toList_ne (fun h : xr = zr => hr h.symm)
              go_wp2_with fail
              go_quiet (fail)
              have hB2 := hid (show Below w5.heap.size w5 (wr.drewN nq) from hBk.out.trans ((below_drewN _ _ _).mono hBk.out.size))
              clear hBk c0 c1 z0 z1
              go_wp2
              go_roundw
              case rel => exact ⟨k + 1, hk'.out, by simp, hB2⟩
              case measure => simp [intOf]; have := hk'.out; omega
          · obtain rfl : k = i := by omega
            go_wp2
            go_roundw
            case rel => exact ⟨k + 1, hi'.out, by simp, hBk⟩
            case measure => simp [intOf]; have := hi'.out; omega
    · obtain rfl : i = n := by omega
      have hBe := hB
      clear hB
      go_wp2_with fail
      go_loopw [11] (fun ii wr => ∃ m : Nat, m ≤ N ∧ ii = .int .i64 ((m : Int) - 1) ∧ Hid (∀ b ∈ ops.drop m, b.p < 0) ∧ Hid (Below w5.heap.size w5 wr)) (fun ii _ => (intOf ii + 1).toNat)
      case atStart => exact ⟨N, Nat.le_refl _, rfl, hid (by rw [List.drop_eq_nil_of_le (by rw [hN.out]; exact Nat.le_refl _)]; simp), hBe⟩
      case round =>
        clear hBe
        obtain ⟨m, hm, rfl, hneg, hB⟩ := hrel
        by_cases hm0 : m = 0
        · subst hm0
          have hn0 : i = 0 := by
            have := hL.out.none (fun o ho => hneg.out o (by simpa using ho))
            rw [← hn.out, this]
            rfl
          have e1 : ((i : Int) == 0) = true := by simp; omega
          have hfin := hid (show Below w.heap.size w wr from B4.out.trans (hB.out.mono B4.out.size))
          clear hneg hB hn0
          go_wp2
          go_ret
          exact ⟨rfl, hfin.out⟩
        · obtain ⟨j, rfl⟩ : ∃ j, m = j + 1 := ⟨m - 1, by omega⟩
          have hj1 : (((j + 1 : Nat) : Int) - 1) = (j : Int) := by omega
          rw [hj1]
          have hjN : j < N := by omega
          have hjNi : (j : Int) < (N : Int) := by omega
          have hj0 : ¬ (j : Int) < 0 := by omega
          obtain ⟨x, hx⟩ : ∃ x, Hid (ops[j]? = some x) := ⟨ops[j]'(by rw [hN.out]; exact hjN), List.getElem?_eq_getElem _⟩
          have hBw := hid (show Below w.heap.size w wr from B4.out.trans (hB.out.mono B4.out.size))
          obtain ⟨b, o, rfl, -, -, c2, c3, c4⟩ := ops_at (hops.out.kept hBw.out) hx.out
          have hxo := hid (hops.out j x hx.out).1
          have ad : (⟨b, o, none⟩ : Addr).add (j * 5) = ⟨b, o + j * 5, none⟩ := by by_cases h : j * 5 = 0 <;> simp [Addr.add, h]
          have hdr := hid (drop_last hx.out)
          by_cases hp : x.p < 0
          · have hp2 : ¬ 0 ≤ x.p := by omega
            have hneg2 := hid (show ∀ b ∈ ops.drop j, b.p < 0 from fun y hy => by
              rw [hdr.out] at hy
              rcases List.mem_cons.1 hy with rfl | hy
              · exact hp
              · exact hneg.out y hy)
            obtain ⟨on, kd, r, nn, p⟩ := x
            dsimp only at *
            clear hneg
            go_wp2
            go_roundw
            case rel => exact ⟨j, by omega, rfl, hneg2, hB⟩
            case measure => simp [intOf]
          · have hp2 : 0 ≤ x.p := by omega
            have hsplit : ops = ops.take j ++ x :: ops.drop (j + 1) := by rw [← hdr.out, List.take_append_drop]
            by_cases hR0 : 0 < R
            · obtain ⟨e, heL, h1, h2, h3⟩ := hL.out.last hR0 _ _ x hsplit hp2 hneg.out
              have hgu := hid (fun (m : Nat) => guess_yes pb _ R came L e heL (wr.drewN m) ((hP4.out.keptB hB.out).keptB (below_drewN _ _ m)))
              rw [h1, h2, h3] at hgu
              have hR0i : (0 : Int) < (R : Int) := by omega
              obtain ⟨on, kd, r, nn, p⟩ := x
              dsimp only at *
              clear hsplit h1 h2 h3
              go_wp2_with fail
              go_quiet ((go_at_call 19; exact Calls.quiet_of_same (hgu.out _)))
              go_wp2
              go_ret
              exact ⟨rfl, hBw.out.trans ((below_drewN _ _ _).mono hBw.out.size)⟩
            · obtain rfl : R = 0 := by omega
              obtain rfl := hL.out.zero
              have hgu := hid (fun (m : Nat) => guess_no pb _ 0 came [] x.r x.n hxo.out.1 (fun e he => by simp at he) (wr.drewN m) ((hP4.out.keptB hB.out).keptB (below_drewN _ _ m)))
              obtain ⟨on, kd, r, nn, p⟩ := x
              dsimp only at *
              clear hsplit
              go_wp2_with fail
              go_quiet ((go_at_call 19; exact Calls.quiet_of_same (hgu.out _)))
              go_wp2
              go_ret
              exact ⟨rfl, hBw.out.trans ((below_drewN _ _ _).mono hBw.out.size)⟩
end Go.Proofs.Ytiggfigjibggaaa
