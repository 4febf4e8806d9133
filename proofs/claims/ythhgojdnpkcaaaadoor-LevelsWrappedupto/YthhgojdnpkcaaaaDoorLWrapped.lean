/-
  The walk of quarrylaw10.LevelsWrapped.
-/
import Derived.Test.YthhgojdnpkcaaaaDoorWrpB
namespace Go.Proofs.YthhgojdnpkcaaaaDoor
open Go.RowKit Go.Shelf

attribute [local go_sem] Oper.semAt_some

theorem kOf_lt {a b : Act} {W V : World} {m j : Nat} {p q : Addr} (h : j < m) (ha : a.tmps.getD 15 undef = .pointer (some p)) (hca : W.cell? p = some (.int .i64 ((j : Int) + 1))) (hb : b.tmps.getD 15 undef = .pointer (some q)) (hcb : V.cell? q = some (.int .i64 (j : Int))) : m - kOf a W < m - kOf b V := by
  unfold kOf
  rw [ha, hb]
  simp only [hca, hcb, Option.getD_some, intOf]
  omega

set_option maxRecDepth 100000 in
set_option maxHeartbeats 8000000 in
theorem lwrapped_in (s : ByteArray) (hs : s.size ≤ 1048576) (a : Int) (w : World) (hT : Tab w) (hM : TabM w) (h0 : 1 < w.heap.size) :
    CallsIn Fence.wide 4 Tryd.prog 6 #[.string s, .int .i64 a] w fun e w' => e = .returned (.bool true) ∧ Below w.heap.size w w' := by
  have hTb := hid (fun (W : World) (hb : Below w.heap.size w W) => hT.below hb (by omega))
  have hMb := hid (fun (W : World) (hb : Below w.heap.size w W) => hM.below hb h0)
  have hz := hid (fun (W : World) (hb : Below w.heap.size w W) => (show 1 < W.heap.size by have := hb.size; omega))
  have hnf : ∀ (f : Fn) (a b : Array Value) (w : World), Sem.run Tryd.prog (binOp BinOp.eql 26 (.func f a b) .nilFunc) w = .ok (.bool false) w := fun _ _ _ _ => by rfl
  have haw := hid (fun (W : World) (hb : Below w.heap.size w W) => awake10_calls W (hTb.out W hb) (hMb.out W hb) (hz.out W hb))
  clear hT hM
  have hsi : (s.size : Int) ≤ 1048576 := by omega
  refine callsIn_of_wp_marks Tryd.func6 rfl trivial ?_ rfl
  simp only [Tryd.ntmps6, List.size_toArray, List.length_cons, List.length_nil, Nat.reduceAdd, Nat.reduceSub, Array.replicate_succ, Array.replicate_zero, List.push_toArray, List.append_toArray, List.nil_append, List.cons_append]
  refine wpIn_wide.2 ?_
  have a0 : At (w.alloc (.cells #[.bool false] 4)) w.heap.size #[.bool false] 4 := At.new w _ _
  have b0 : Below w.heap.size w (w.alloc (.cells #[.bool false] 4)) := by repeat (first | with_reducible exact Below.refl _ _ | with_reducible refine Below.setCell ?_ (by first | (simp; done) | (simp; omega)) _ | with_reducible refine below_drewN ?_ _ | with_reducible refine Below.alloc ?_ (by first | (simp; done) | (simp; omega)) _ | with_reducible refine Below.drew ?_)
  have a0' := hid a0
  have b0' := hid b0
  clear a0 b0
  go_wp2_with fail
  refine Calls.mono (haw.out _ b0'.out) ?_
  rintro e w1 ⟨rfl, q⟩
  have a1 := hid (a0'.out.keptAll q)
  have b1 := hid (b0'.out.trans (q.mono b0'.out.size))
  clear a0' b0' q haw
  have cP := hid (fun w1 => pickW_calls a 63 (by decide) (by decide) w1)
  go_wp2_with fail
  refine Calls.mono (cP.out _) ?_
  rintro e w2 ⟨⟨k, hk, rfl⟩, hw⟩
  rw [hw]
  clear hw w2 cP
  obtain ⟨m, hm⟩ : ∃ m, 1 + k = m := ⟨_, rfl⟩
  have hmi : 1 + (k : Int) = (m : Int) := by omega
  have m0 : 0 < m := by omega
  have m1 : m ≤ 63 := by omega
  have hB1 := hid (fun (W : World) (hb : Below w.heap.size w W) => build_calls s (by omega) m m0 (by omega) W (hTb.out W hb) (hMb.out W hb) (hz.out W hb))
  have hB2 := hid (fun (W : World) (hb : Below w.heap.size w W) => build_calls (wrpS s) (by rw [wrp_size]; omega) (m + 1) (by omega) (by omega) W (hTb.out W hb) (hMb.out W hb) (hz.out W hb))
  have hB3 := hid (fun (W : World) (hb : Below w.heap.size w W) => build_calls s (by omega) (m + 1) (by omega) (by omega) W (hTb.out W hb) (hMb.out W hb) (hz.out W hb))
  have hm1 : ((m + 1 : Nat) : Int) = (m : Int) + 1 := by omega
  rw [hm1] at hB2 hB3
  have mi : (m : Int) ≤ 63 := by omega
  clear hm hk hm1
  go_wp2_with fail
  refine Calls.mono (hB1.out _ b1.out) ?_
  rintro e w3 ⟨A, B, rfl, hL⟩
  obtain ⟨-, -, hA, hB, q3⟩ := hL
  obtain ⟨V3, hV3⟩ : ∃ V, w3.alloc (.cells #[.slice (some ⟨A, 0, none⟩) m m, .slice (some ⟨B, 0, none⟩) m m] 47) = V := ⟨_, rfl⟩
  have v3 : Below w3.heap.size w3 V3 := by rw [← hV3]; repeat (first | with_reducible exact Below.refl _ _ | with_reducible refine Below.setCell ?_ (by first | (simp; done) | (simp; omega)) _ | with_reducible refine below_drewN ?_ _ | with_reducible refine Below.alloc ?_ (by first | (simp; done) | (simp; omega)) _ | with_reducible refine Below.drew ?_)
  have q3' : Below w1.heap.size w1 V3 := q3.trans (v3.mono q3.size)
  have a3 := hid (a1.out.keptAll q3')
  have b3 := hid (b1.out.trans (q3'.mono b1.out.size))
  have lA3 := hid (hA.kept v3)
  have lB3 := hid (hB.kept v3)
  have aL : At V3 w3.heap.size #[.slice (some ⟨A, 0, none⟩) m m, .slice (some ⟨B, 0, none⟩) m m] 47 := by rw [← hV3]; exact At.new w3 _ _
  obtain ⟨lb, hlb⟩ : ∃ b, w3.heap.size = b := ⟨_, rfl⟩
  rw [hlb] at aL
  have aL3 := hid aL
  have ha1 : ∀ u : World, (Op.stringOp .add ⟨#[91]⟩ s).run Tryd.prog u = .ok (.string (brk1 ++ s)) u := fun u => run_string_add_sum u ⟨#[91]⟩ s (by show 1 + s.size ≤ _; omega)
  have ha2 : ∀ u : World, (Op.stringOp .add (brk1 ++ s) ⟨#[93]⟩).run Tryd.prog u = .ok (.string (wrpS s)) u := fun u => run_string_add_sum u (brk1 ++ s) ⟨#[93]⟩ (by rw [wrp_pre]; show s.size + 1 + 1 ≤ _; omega)
  clear q3 v3 q3' a1 b1 hA hB aL hB1
  go_wp2_with fail
  clear hV3 hlb
  refine Calls.mono (hB2.out _ b3.out) ?_
  rintro e w4 ⟨A', B', rfl, hL⟩
  obtain ⟨-, -, hA, hB, q4⟩ := hL
  rw [wrp_size] at hA hB
  obtain ⟨V4, hV4⟩ : ∃ V, w4.alloc (.cells #[.slice (some ⟨A', 0, none⟩) (m + 1) (m + 1), .slice (some ⟨B', 0, none⟩) (m + 1) (m + 1)] 47) = V := ⟨_, rfl⟩
  have v4 : Below w4.heap.size w4 V4 := by rw [← hV4]; repeat (first | with_reducible exact Below.refl _ _ | with_reducible refine Below.setCell ?_ (by first | (simp; done) | (simp; omega)) _ | with_reducible refine below_drewN ?_ _ | with_reducible refine Below.alloc ?_ (by first | (simp; done) | (simp; omega)) _ | with_reducible refine Below.drew ?_)
  have q4' : Below V3.heap.size V3 V4 := q4.trans (v4.mono q4.size)
  have aW : At V4 w4.heap.size #[.slice (some ⟨A', 0, none⟩) (m + 1) (m + 1), .slice (some ⟨B', 0, none⟩) (m + 1) (m + 1)] 47 := by rw [← hV4]; exact At.new w4 _ _
  obtain ⟨wb, hwb⟩ : ∃ b, w4.heap.size = b := ⟨_, rfl⟩
  rw [hwb] at aW
  have S4 := hid (show WrS w s m A B A' B' lb wb V4 from ⟨a3.out.keptAll q4', aL3.out.keptAll q4', aW, lA3.out.kept q4', lB3.out.kept q4', hA.kept v4, hB.kept v4, b3.out.trans (q4'.mono b3.out.size)⟩)
  clear q4 v4 q4' a3 b3 hA hB aW hB2 lA3 lB3 aL3
  obtain ⟨c0, c1, -, -⟩ := S4.out.lv.factsL
  obtain ⟨d0, d1, -, -⟩ := S4.out.wd.factsL
  have e1 : ((m : Int) != (m : Int)) = false := by simp
  have e2 : ((m : Int) + 1 != (m : Int) + 1) = false := by simp
  go_wp2_with fail
  clear hV4 hwb c0 c1 d0 d1 e1
  refine Calls.mono (hB3.out _ S4.out.bel) ?_
  rintro e w5 ⟨A2, B2, rfl, hL⟩
  obtain ⟨-, -, hA, hB, q5⟩ := hL
  obtain ⟨V5, hV5⟩ : ∃ V, w5.alloc (.cells #[.slice (some ⟨A2, 0, none⟩) (m + 1) (m + 1), .slice (some ⟨B2, 0, none⟩) (m + 1) (m + 1)] 47) = V := ⟨_, rfl⟩
  have v5 : Below w5.heap.size w5 V5 := by rw [← hV5]; repeat (first | with_reducible exact Below.refl _ _ | with_reducible refine Below.setCell ?_ (by first | (simp; done) | (simp; omega)) _ | with_reducible refine below_drewN ?_ _ | with_reducible refine Below.alloc ?_ (by first | (simp; done) | (simp; omega)) _ | with_reducible refine Below.drew ?_)
  have q5' : Below V4.heap.size V4 V5 := q5.trans (v5.mono q5.size)
  have aG : At V5 w5.heap.size #[.slice (some ⟨A2, 0, none⟩) (m + 1) (m + 1), .slice (some ⟨B2, 0, none⟩) (m + 1) (m + 1)] 47 := by rw [← hV5]; exact At.new w5 _ _
  obtain ⟨ab, hab⟩ : ∃ b, w5.heap.size = b := ⟨_, rfl⟩
  rw [hab] at aG
  have S5 := hid (WrQ.mk' (S4.out.kept q5') aG (hA.kept v5) (hB.kept v5))
  clear q5 v5 q5' hA hB aG hB3 S4
  go_upto_region 9 with fail
  clear hV5 hab
  go_cut [112] from 85 to 112 (fun b wx => b = .bool false ∧ Hid (WrS w s m A B A' B' lb wb wx))
  case first => as_aux_lemma =>
    have hS := (S5.out.kept (Below.refl _ _).drew).cl
    have hk2 : m ≤ m + 1 := Nat.le_succ m
    have ew : IntKind.i64.wrap ((m : Int) + 1) = (m : Int) + 1 := by rw [IntKind.wrap_i64]; omega
    have ew2 : ((m + 1 : Nat) : Int) = (m : Int) + 1 := by omega
    have hsA : ∀ u : World, (Instr.sliceAt 45 (.slice (some ⟨A2, 0, none⟩) (m + 1) (m + 1)) none (some (.int .i64 (m : Int))) none).run Tryd.prog u = .ok (.slice (some ⟨A2, 0, none⟩) m (m + 1)) u := fun u => slice_pre A2 m u
    have hsB : ∀ u : World, (Instr.sliceAt 45 (.slice (some ⟨B2, 0, none⟩) (m + 1) (m + 1)) none (some (.int .i64 (m : Int))) none).run Tryd.prog u = .ok (.slice (some ⟨B2, 0, none⟩) m (m + 1)) u := fun u => slice_pre B2 m u
    clear S5 ha1 ha2 hnf
    refine wp_region_quiet (C := (fun w' => w'.cell? ⟨ab, 0, none⟩ = some (.slice (some ⟨A2, 0, none⟩) (m + 1) (m + 1)) ∧ w'.cell? ⟨ab, 1, none⟩ = some (.slice (some ⟨B2, 0, none⟩) (m + 1) (m + 1)) ∧ WrQ w s m A B A' B' lb wb A2 B2 ab w')) (by kernel_rfl) (by kernel_rfl) (hS) ?_
    dsimp only
    repeat (first
      | (refine wpQuiet_skip (by rfl) ?_; simp only [Act.put, List.setIfInBounds_toArray, List.set_cons_zero, List.set_cons_succ])
      | (refine wpQuiet_load 47 _ (lb) (0) [.slice (some ⟨A, 0, none⟩) m m, .slice (some ⟨B, 0, none⟩) m m] _ (fun wq hq => WrQ.rg hq.2.2) Tryd.underlying47 sizeLvs rfl rfl rfl (by rfl) ?_; simp only [Act.put, List.setIfInBounds_toArray, List.set_cons_zero, List.set_cons_succ])
      | (refine' wpQuiet_take (by rfl) ?_ ?_
         rotate_left
         · (intro wq hq; (try dsimp only at hq); go_simp
            first
              | done
              | with_reducible rfl
              | (go_at_call 28; with_reducible refine (WrQ.same hq.2.2 m1 hs).mono ?_; rintro e wz ⟨rfl, hb⟩; exact ⟨rfl, WrQ.cl (WrQ.kept hq.2.2 hb)⟩)
           )
         simp only [Act.put, List.setIfInBounds_toArray, List.set_cons_zero, List.set_cons_succ]))
    refine wpQuiet_nil ?_
    rintro w6 ⟨-, -, S6⟩
    go_wp2
    go_meet
    case rel => exact ⟨rfl, S6.2.1⟩
  case rest =>
    obtain ⟨rfl, S6⟩ := hcut
    clear S5 e2
    obtain ⟨OB, hOB⟩ : ∃ B, Hid (openS s = B) := ⟨_, rfl⟩
    obtain ⟨BB, hBB⟩ : ∃ B, Hid (behindS s false = B) := ⟨_, rfl⟩
    have cO := hid (fun (W : World) (hb : Below w.heap.size w W) => openQ_calls s (by omega) OB hOB W (hTb.out W hb) (Nat.lt_trans (by decide) (hz.out W hb)))
    have cB := hid (fun w1 => behind_calls s false BB (by omega) hBB w1)
    have hIx := hid (fun (W : World) (hb : Below w.heap.size w W) => index8_calls s (by omega) W (hTb.out W hb) (hMb.out W hb) (hz.out W hb))
    go_wp2_with fail
    refine Calls.mono (cO.out _ S6.out.bel) ?_
    rintro e w6 ⟨rfl, q⟩
    have S7 := hid (S6.out.kept q)
    clear q S6 cO
    cases OB with
    | true =>
      obtain ⟨r0, f0⟩ := S7.out.r0
      have hD := hid S7.out.done
      go_wp2
      refine leaves_marks (s := ()) (B := w.heap.size + 1) (J := WrR w) (wrR_own (Nat.le_succ _)) ?_ [] 0 _ trivial hD.out
      rintro W' ⟨k1, k2⟩
      have hc := k1.cell 0
      simp only [List.getElem?_toArray, List.getElem?_cons_zero] at hc
      refine ⟨.bool true, ?_, rfl, k2⟩
      simp [results, Tryd.f6, go_sem, hc]
    | false =>
      go_wp2_with fail
      refine Calls.mono (cB.out _) ?_
      rintro e w7 ⟨rfl, hw⟩
      rw [hw]
      clear hw w7 cB
      cases BB with
      | true =>
        obtain ⟨r0, f0⟩ := S7.out.r0
        have hD := hid S7.out.done
        go_wp2
        refine leaves_marks (s := ()) (B := w.heap.size + 1) (J := WrR w) (wrR_own (Nat.le_succ _)) ?_ [] 0 _ trivial hD.out
        rintro W' ⟨k1, k2⟩
        have hc := k1.cell 0
        simp only [List.getElem?_toArray, List.getElem?_cons_zero] at hc
        refine ⟨.bool true, ?_, rfl, k2⟩
        simp [results, Tryd.f6, go_sem, hc]
      | false =>
        go_wp2_with fail
        refine Calls.mono (hIx.out _ S7.out.bel) ?_
        rintro e w8 ⟨v8, rfl, hown, q8⟩
        obtain ⟨ao, cap, rfl, hi8⟩ := ints_row hown
        have S8 := hid (S7.out.kept q8)
        have hj := hid hi8
        obtain ⟨L, hL⟩ : ∃ L, Hid ((idxS s).length = L) := ⟨_, rfl⟩
        have hLl : L ≤ 1048576 := by
          rw [← hL.out]
          unfold idxS idxTo
          have := List.length_filter_le (begS s) (List.range s.size)
          rw [List.length_range] at this
          omega
        rw [hL.out]
        clear hi8 hown q8 S7 hIx
        go_wp2
        go_loop [11, 13, 14] (fun lv nv _ => ∃ n Lw : Nat, n ≤ L ∧ nv = .int .i64 (n : Int) ∧ lv = .int .i64 (Lw : Int) ∧ Lw ≤ n ∧ Hid (LowR s n Lw)) (fun _ nv _ => L - (intOf nv).toNat)
        case atStart => exact ⟨0, 0, Nat.zero_le _, rfl, rfl, Nat.le_refl _, LowR.zero s⟩
        case round =>
          obtain ⟨n, Lw, hn, rfl, rfl, hLn, hlo⟩ := hrel
          by_cases hlt : n < L
          · have hli : (n : Int) < (L : Int) := by omega
            obtain ⟨q, hq⟩ : ∃ q, (idxS s)[n]? = some q := ⟨_, List.getElem?_eq_getElem (by rw [hL.out]; exact hlt)⟩
            obtain ⟨hqs, hqb⟩ := idxS_mem.1 (List.mem_of_getElem? hq)
            obtain ⟨g6, rfl, hg6, c6⟩ := hj.out n q hq
            have hqsi : (q : Int) < (s.size : Int) := by omega
            have n1 : decide ((q : Int) < 0) = false := by simp
            have n2 : decide ((s.size : Int) ≤ (q : Int)) = false := by simp; omega
            have hxx := byteAt_num s q hqs
            obtain ⟨x, hx⟩ : ∃ x, Hid (byteAt s q = x) := ⟨_, rfl⟩
            rw [hx.out] at hxx
            have hnx := hid (fun (hc : clB (byteAt s q) = true → 1 ≤ Lw) => hlo.out.next hq hc)
            rw [hx.out] at hnx
            clear hq hqb hlo
            by_cases x1 : x = 123
            · subst x1
              have hR := hid (show LowR s (n + 1) (Lw + 1) from hnx.out (fun h => by cases h))
              clear hnx hx
              go_wp2
              go_round
              case rel => exact ⟨n + 1, Lw + 1, by omega, by simp, by simp, by omega, hR⟩
              case measure => simp [intOf]; omega
            by_cases x2 : x = 91
            · subst x2
              have hR := hid (show LowR s (n + 1) (Lw + 1) from hnx.out (fun h => by cases h))
              clear hnx hx
              go_wp2
              go_round
              case rel => exact ⟨n + 1, Lw + 1, by omega, by simp, by simp, by omega, hR⟩
              case measure => simp [intOf]; omega
            by_cases x125 : x = 125
            · subst x125
              by_cases hL0 : Lw = 0
              · subst hL0
                clear hnx hx
                obtain ⟨r0, f0⟩ := S8.out.r0
                have hD := hid S8.out.done
                go_wp2
                refine leaves_marks (s := ()) (B := w.heap.size + 1) (J := WrR w) (wrR_own (Nat.le_succ _)) ?_ [] 0 _ trivial hD.out
                rintro W' ⟨k1, k2⟩
                have hc := k1.cell 0
                simp only [List.getElem?_toArray, List.getElem?_cons_zero] at hc
                refine ⟨.bool true, ?_, rfl, k2⟩
                simp [results, Tryd.f6, go_sem, hc]
              · have hR := hid (show LowR s (n + 1) (Lw - 1) from hnx.out (fun _ => by omega))
                have eL : (Lw : Int) - 1 = ((Lw - 1 : Nat) : Int) := by omega
                have n3 : decide ((Lw : Int) - 1 < 0) = false := by simp; omega
                clear hnx hx
                go_wp2
                go_round
                case rel => exact ⟨n + 1, Lw - 1, by omega, by simp, by first | rfl | (rw [eL]), by omega, hR⟩
                case measure => simp [intOf]; omega
            by_cases x93 : x = 93
            · subst x93
              by_cases hL0 : Lw = 0
              · subst hL0
                clear hnx hx
                obtain ⟨r0, f0⟩ := S8.out.r0
                have hD := hid S8.out.done
                go_wp2
                refine leaves_marks (s := ()) (B := w.heap.size + 1) (J := WrR w) (wrR_own (Nat.le_succ _)) ?_ [] 0 _ trivial hD.out
                rintro W' ⟨k1, k2⟩
                have hc := k1.cell 0
                simp only [List.getElem?_toArray, List.getElem?_cons_zero] at hc
                refine ⟨.bool true, ?_, rfl, k2⟩
                simp [results, Tryd.f6, go_sem, hc]
              · have hR := hid (show LowR s (n + 1) (Lw - 1) from hnx.out (fun _ => by omega))
                have eL : (Lw : Int) - 1 = ((Lw - 1 : Nat) : Int) := by omega
                have n3 : decide ((Lw : Int) - 1 < 0) = false := by simp; omega
                clear hnx hx
                go_wp2
                go_round
                case rel => exact ⟨n + 1, Lw - 1, by omega, by simp, by first | rfl | (rw [eL]), by omega, hR⟩
                case measure => simp [intOf]; omega
            have hR := hid (show LowR s (n + 1) Lw by
              have h := hnx.out (fun h => by unfold clB at h; simp [x125, x93] at h)
              have ho : opB x = false := by unfold opB; simp [x1, x2]
              have hc : clB x = false := by unfold clB; simp [x125, x93]
              rw [ho, hc] at h
              exact h)
            have b1 : ((x : Int) == 123) = false := by simp; omega
            have b2 : ((x : Int) == 91) = false := by simp; omega
            have b3 : ((x : Int) == 125) = false := by simp; omega
            have b4 : ((x : Int) == 93) = false := by simp; omega
            clear hnx hx x1 x2 x125 x93
            go_wp2
            go_round
            case rel => exact ⟨n + 1, Lw, by omega, by simp, rfl, by omega, hR⟩
            case measure => simp [intOf]; omega
          · obtain rfl : n = L := by omega
            obtain ⟨hNL, hLd⟩ := hlo.out.all (by rw [hL.out]; exact Nat.le_refl _)
            have hNL' := hid hNL
            have hLd' := hid hLd
            clear hNL hLd hlo hj
            have kb0 := hid (At.new w8 #[.int .i64 0] 3)
            have S9 := hid (S8.out.kept (W' := w8.alloc (.cells #[.int .i64 0] 3)) ((Below.refl _ _).alloc (Nat.le_refl _) _))
            have hfar := hid S8.out.far
            obtain ⟨U, hU⟩ : ∃ b, w8.heap.size = b := ⟨_, rfl⟩
            rw [hU] at kb0 hfar
            have hsz : Hid ((w8.alloc (.cells #[.int .i64 0] 3)).heap.size = U + 1) := by show _ = _; simp [hU]
            clear S8
            go_upto_region 27 with fail
            go_cut [15] from 22 to 164 (fun p wx => p = .pointer (some ⟨U, 0, none⟩) ∧ Hid (WrL w s m A B A' B' lb wb U U 0 [] wx))
            case first => as_aux_lemma =>
              go_wp2
              go_meet
              case rel => exact ⟨rfl, ⟨S9.out, hfar.out, kb0.out, Nat.le_refl _, trivial, by rw [hsz.out]; exact Nat.le_succ _⟩⟩
            case rest =>
              obtain ⟨rfl, hW9⟩ := hcut
              clear S9 hfar kb0 hU hsz
              go_wp2_with fail
              refine (wpIn_wide (n := 4)).1 ?_
              refine wpIn_loop (fun a Wi => ∃ (j kb' : Nat) (ds : List Deferred) (G : Nat → Value), a = { tmps := #[.string s, .int .i64 (m : Int), undef, undef, .pointer (some ⟨w.heap.size, 0, none⟩), .pointer (some ⟨lb, 0, none⟩), .int .i64 0, .pointer (some ⟨wb, 0, none⟩), .int .i64 0, .pointer (some ⟨ab, 0, none⟩), .int .i64 0, .int .i64 (Lw : Int), .slice ao n cap, .int .i64 (n : Int), u14, .pointer (some ⟨kb', 0, none⟩), G 16, G 17, G 18, G 19, G 20, G 21, u22, u23, u24, u25, u26, u27, u28, u29, u30, u31, u32, u33, u34, u35, u36, u37, u38, u39, u40, u41, u42, u43, u44, u45, u46, u47, u48, u49, u50, u51, u52, u53, u54, u55, u56, u57, u58, u59, u60, u61, u62, u63, u64, u65, u66, u67, u68, u69, u70, u71, u72, u73, u74, u75, u76, u77, u78, u79, u80, u81, u82, u83, u84, u85, u86, u87, u88, u89, u90, u91, u92, u93, u94, u95, u96, u97, u98, u99, u100, u101, u102, u103, u104, u105, u106, u107, u108, u109, u110, u111, u112, u113, u114, u115, u116, u117, u118, u119, u120, u121, u122, u123, u124, u125, u126, u127, u128, u129, u130, u131, u132, u133, u134, u135, u136, u137, u138, u139, u140, u141, u142, u143, u144, u145, u146, u147, u148, u149, u150, u151, u152, u153, u154, u155, u156, u157, u158, u159, u160, u161, u162, u163, u164, G 165, G 166, G 167, G 168, G 169, G 170, G 171, G 172, G 173, G 174, G 175, G 176, G 177, G 178, G 179, G 180, G 181, G 182, G 183, G 184, G 185, G 186, G 187, G 188, G 189, G 190, G 191, G 192, G 193, G 194, G 195, G 196, G 197, G 198, G 199, G 200, G 201, G 202, G 203, G 204, G 205, G 206, G 207, G 208, G 209, G 210, G 211, G 212, G 213, G 214, G 215, G 216, G 217, G 218, G 219, G 220, G 221, G 222, G 223, G 224, G 225, G 226, G 227, G 228, G 229, G 230, G 231, G 232, G 233, G 234, G 235, G 236, G 237, G 238, G 239, G 240, G 241, G 242, undef, undef, undef, undef, undef, undef, undef, undef, undef, undef, undef, undef, undef, undef, undef, undef, undef, undef, undef, undef, undef, undef, undef], defers := ds } ∧ j ≤ m ∧ WrL w s m A B A' B' lb wb U kb' j ds Wi) (fun a W => m - kOf a W) ?_ ?_
              · exact ⟨0, U, [], fun _ => undef, rfl, Nat.zero_le _, hW9.out⟩
              rintro a Wi ⟨j, kb, ds, G, rfl, hj, hL9⟩
              clear hW9
              have ck : Wi.cell? ⟨kb, 0, none⟩ = some (.int .i64 (j : Int)) := hL9.kv.cell 0
              have hL9' := hid hL9
              clear hL9
              by_cases hlt : j < m
              · have hji : (j : Int) < (m : Int) := by omega
                --ROUND
                refine wpIn_wide.2 ?_
                obtain ⟨l0, l1, -, -⟩ := hL9'.out.base.lv.factsL
                obtain ⟨ca0, ca1⟩ := hL9'.out.base.la.cells hlt
                obtain ⟨cb0, cb1⟩ := hL9'.out.base.lc.cells hlt
                have hn := hid (wf_size (n := s.size) (by omega))
                have eA := hid (fun (u : World) (hu : Below Wi.heap.size Wi u) => eachB_calls (s.size : Int) (some ⟨A + 1 + j, 0, none⟩) (need s.size) (need s.size) (rowOf (lvS 58 s (j + 1)) s.size) s.size hn.out (by unfold need; omega) (fun e => by cases e) (hid (.inl ⟨rowOf_formed _ _, by simp⟩)) u (((hL9'.out.base.la.2 j hlt).keptAll hu).wds (fun _ _ => rowOf_lt _ _ _) (Nat.le_refl _)))
                have eB := hid (fun (u : World) (hu : Below Wi.heap.size Wi u) => eachB_calls (s.size : Int) (some ⟨B + 1 + j, 0, none⟩) (need s.size) (need s.size) (rowOf (lvS 44 s (j + 1)) s.size) s.size hn.out (by unfold need; omega) (fun e => by cases e) (hid (.inl ⟨rowOf_formed _ _, by simp⟩)) u (((hL9'.out.base.lc.2 j hlt).keptAll hu).wds (fun _ _ => rowOf_lt _ _ _) (Nat.le_refl _)))
                unfold bv at eA eB
                obtain ⟨L1, hL1⟩ : ∃ L, Hid (placesB (rowOf (lvS 58 s (j + 1)) s.size) s.size = L) := ⟨_, rfl⟩
                obtain ⟨L2, hL2⟩ : ∃ L, Hid (placesB (rowOf (lvS 44 s (j + 1)) s.size) s.size = L) := ⟨_, rfl⟩
                rw [hL1.out] at eA
                rw [hL2.out] at eB
                go_upto_region 30 with fail
                go_cut [16, 17] from 165 to 181 (fun v1 v2 wx => ∃ (Bl1 g1 Bl2 g2 : Nat), v1 = seqB Bl1 ∧ v2 = seqB Bl2 ∧ Hid (SeqB wx Bl1 g1 L1 ∧ Wi.heap.size ≤ g1) ∧ Hid (SeqB wx Bl2 g2 L2 ∧ Wi.heap.size ≤ g2) ∧ Hid (Below Wi.heap.size Wi wx))
                case first => as_aux_lemma =>
                  rename_i Jm Km hJm hKm
                  have hheld : Wi.drew.cell? ⟨lb, 0, none⟩ = some (.slice (some ⟨A, 0, none⟩) m m) ∧ Wi.drew.cell? ⟨lb, 1, none⟩ = some (.slice (some ⟨B, 0, none⟩) m m) ∧ Wi.drew.cell? ⟨kb, 0, none⟩ = some (.int .i64 (j : Int)) ∧ Wi.drew.cell? ⟨A, j * 2, none⟩ = some (.int .i64 (s.size : Int)) ∧ Wi.drew.cell? ⟨A, j * 2 + 1, none⟩ = some (.slice (some ⟨A + 1 + j, 0, none⟩) (need s.size) (need s.size)) ∧ Wi.drew.cell? ⟨B, j * 2, none⟩ = some (.int .i64 (s.size : Int)) ∧ Wi.drew.cell? ⟨B, j * 2 + 1, none⟩ = some (.slice (some ⟨B + 1 + j, 0, none⟩) (need s.size) (need s.size)) := ⟨l0, l1, ck, ca0, ca1, cb0, cb1⟩
                  have hall := hid (fun (v : World) (hv : Below Wi.heap.size Wi v) => (show v.cell? ⟨lb, 0, none⟩ = some (.slice (some ⟨A, 0, none⟩) m m) ∧ v.cell? ⟨lb, 1, none⟩ = some (.slice (some ⟨B, 0, none⟩) m m) ∧ v.cell? ⟨kb, 0, none⟩ = some (.int .i64 (j : Int)) ∧ v.cell? ⟨A, j * 2, none⟩ = some (.int .i64 (s.size : Int)) ∧ v.cell? ⟨A, j * 2 + 1, none⟩ = some (.slice (some ⟨A + 1 + j, 0, none⟩) (need s.size) (need s.size)) ∧ v.cell? ⟨B, j * 2, none⟩ = some (.int .i64 (s.size : Int)) ∧ v.cell? ⟨B, j * 2 + 1, none⟩ = some (.slice (some ⟨B + 1 + j, 0, none⟩) (need s.size) (need s.size)) from
                    ⟨(hL9'.out.base.lv.keptAll hv).factsL.1, (hL9'.out.base.lv.keptAll hv).factsL.2.1, (hL9'.out.kv.keptAll hv).cell 0, ((hL9'.out.base.la.kept hv).cells hlt).1, ((hL9'.out.base.la.kept hv).cells hlt).2, ((hL9'.out.base.lc.kept hv).cells hlt).1, ((hL9'.out.base.lc.kept hv).cells hlt).2⟩))
                  refine wp_region_held_only (S := fun v => v.cell? ⟨lb, 0, none⟩ = some (.slice (some ⟨A, 0, none⟩) m m) ∧ v.cell? ⟨lb, 1, none⟩ = some (.slice (some ⟨B, 0, none⟩) m m) ∧ v.cell? ⟨kb, 0, none⟩ = some (.int .i64 (j : Int)) ∧ v.cell? ⟨A, j * 2, none⟩ = some (.int .i64 (s.size : Int)) ∧ v.cell? ⟨A, j * 2 + 1, none⟩ = some (.slice (some ⟨A + 1 + j, 0, none⟩) (need s.size) (need s.size)) ∧ v.cell? ⟨B, j * 2, none⟩ = some (.int .i64 (s.size : Int)) ∧ v.cell? ⟨B, j * 2 + 1, none⟩ = some (.slice (some ⟨B + 1 + j, 0, none⟩) (need s.size) (need s.size))) (by kernel_rfl) hheld (fun hHeld => ?_)
                  clear hHeld l0 l1 ck ca0 ca1 cb0 cb1
                  have hq0 : Below Wi.heap.size Wi Wi.drew := (Below.refl _ _).drew
                  obtain ⟨v0, hv0⟩ : ∃ v, Wi.drew = v := ⟨_, rfl⟩
                  rw [hv0] at hq0 hheld ⊢
                  clear hv0
                  (refine' wpAnyH_take (i := 0) rfl (by kernel_rfl) (by kernel_rfl) (by kernel_rfl) (fun _ _ _ h => h) (Or.inl ⟨by rfl, ?_⟩) (by assumption) ?_; rotate_left; (· (intro wq hq; (try dsimp only at hq); go_simp; first | done | with_reducible rfl)); simp only [Act.put, List.getElem_toArray, List.getElem_cons_zero, List.setIfInBounds_toArray, List.set_cons_zero, List.set_cons_succ])
                  (refine' wpAnyH_take (i := 1) rfl (by kernel_rfl) (by kernel_rfl) (by kernel_rfl) (fun _ _ _ h => h) (Or.inl ⟨by rfl, ?_⟩) (by assumption) ?_; rotate_left; (· (intro wq hq; (try dsimp only at hq); go_simp; first | done | with_reducible rfl)); simp only [Act.put, List.getElem_toArray, List.getElem_cons_zero, List.getElem_cons_succ, List.setIfInBounds_toArray, List.set_cons_zero, List.set_cons_succ])
                  (refine' wpAnyH_take (i := 2) rfl (by kernel_rfl) (by kernel_rfl) (by kernel_rfl) (fun _ _ _ h => h) (Or.inl ⟨by rfl, ?_⟩) (by assumption) ?_; rotate_left; (· (intro wq hq; (try dsimp only at hq); go_simp; first | done | with_reducible rfl)); simp only [Act.put, List.getElem_toArray, List.getElem_cons_zero, List.getElem_cons_succ, List.setIfInBounds_toArray, List.set_cons_zero, List.set_cons_succ])
                  (refine' wpAnyH_take (i := 3) rfl (by kernel_rfl) (by kernel_rfl) (by kernel_rfl) (fun _ _ _ h => h) (Or.inl ⟨by rfl, ?_⟩) (by assumption) ?_; rotate_left; (· (intro wq hq; (try dsimp only at hq); go_simp; first | done | with_reducible rfl)); simp only [Act.put, List.getElem_toArray, List.getElem_cons_zero, List.getElem_cons_succ, List.setIfInBounds_toArray, List.set_cons_zero, List.set_cons_succ])
                  (refine' wpAnyH_take (i := 4) rfl (by kernel_rfl) (by kernel_rfl) (by kernel_rfl) (fun _ _ _ h => h) (Or.inl ⟨by rfl, ?_⟩) (by assumption) ?_; rotate_left; (· (intro wq hq; (try dsimp only at hq); go_simp; first | done | with_reducible rfl)); simp only [Act.put, List.getElem_toArray, List.getElem_cons_zero, List.getElem_cons_succ, List.setIfInBounds_toArray, List.set_cons_zero, List.set_cons_succ])
                  (refine' wpAnyH_take (i := 6) rfl (by kernel_rfl) (by kernel_rfl) (by kernel_rfl) (fun _ _ _ h => h) (Or.inl ⟨by rfl, ?_⟩) (by assumption) ?_; rotate_left; (· (intro wq hq; (try dsimp only at hq); go_simp; first | done | with_reducible rfl)); simp only [Act.put, List.getElem_toArray, List.getElem_cons_zero, List.getElem_cons_succ, List.setIfInBounds_toArray, List.set_cons_zero, List.set_cons_succ])
                  (refine' wpAnyH_take (i := 7) rfl (by kernel_rfl) (by kernel_rfl) (by kernel_rfl) (fun _ _ _ h => h) (Or.inl ⟨by rfl, ?_⟩) (by assumption) ?_; rotate_left; (· (intro wq hq; (try dsimp only at hq); go_simp; first | done | with_reducible rfl)); simp only [Act.put, List.getElem_toArray, List.getElem_cons_zero, List.getElem_cons_succ, List.setIfInBounds_toArray, List.set_cons_zero, List.set_cons_succ])
                  (refine' wpAnyH_take (i := 8) rfl (by kernel_rfl) (by kernel_rfl) (by kernel_rfl) (fun _ _ _ h => h) (Or.inl ⟨by rfl, ?_⟩) (by assumption) ?_; rotate_left; (· (intro wq hq; (try dsimp only at hq); go_simp; first | done | with_reducible rfl)); simp only [Act.put, List.getElem_toArray, List.getElem_cons_zero, List.getElem_cons_succ, List.setIfInBounds_toArray, List.set_cons_zero, List.set_cons_succ])
                  (refine' wpAnyH_take (i := 9) rfl (by kernel_rfl) (by kernel_rfl) (by kernel_rfl) (fun _ _ _ h => h) (Or.inl ⟨by rfl, ?_⟩) (by assumption) ?_; rotate_left; (· (intro wq hq; (try dsimp only at hq); go_simp; first | done | with_reducible rfl)); simp only [Act.put, List.getElem_toArray, List.getElem_cons_zero, List.getElem_cons_succ, List.setIfInBounds_toArray, List.set_cons_zero, List.set_cons_succ])
                  (refine' wpAnyH_take (i := 10) rfl (by kernel_rfl) (by kernel_rfl) (by kernel_rfl) (fun _ _ _ h => h) (Or.inl ⟨by rfl, ?_⟩) (by assumption) ?_; rotate_left; (· (intro wq hq; (try dsimp only at hq); go_simp; first | done | with_reducible rfl)); simp only [Act.put, List.getElem_toArray, List.getElem_cons_zero, List.getElem_cons_succ, List.setIfInBounds_toArray, List.set_cons_zero, List.set_cons_succ])
                  refine wpAnyH_ready (rs := [5]) (by kernel_rfl) (by simp) ?_
                  refine AllReadyH.cons rfl (fun K hK => ?_) ?_
                  · rw [if_pos (by rfl)]
                    go_simp
                    refine Calls.mono (eA.out _ hq0) ?_
                    rintro e v1 ⟨Bl1, g1, rfl, -, hg1, hS1, q1⟩
                    have hq1 : Below Wi.heap.size Wi v1 := hq0.trans (q1.mono hq0.size)
                    have hg1' := hid (show Wi.heap.size ≤ g1 from Nat.le_trans hq0.size hg1)
                    have hS1' := hid hS1
                    clear hg1 hS1 q1
                    refine hK.out _ _ (hall.out _ hq1) (fun _ => ?_)
                    clear hK K
                    refine wpAnyH_ready (rs := [11]) (by kernel_rfl) (by simp) ?_
                    refine AllReadyH.cons rfl (fun K hK => ?_) ?_
                    · rw [if_pos (by rfl)]
                      go_simp
                      refine Calls.mono (eB.out _ hq1) ?_
                      rintro e v2 ⟨Bl2, g2, rfl, -, hg2, hS2, q2⟩
                      have hq2 : Below Wi.heap.size Wi v2 := hq1.trans (q2.mono hq1.size)
                      have hg2' := hid (show Wi.heap.size ≤ g2 from Nat.le_trans hq1.size hg2)
                      have hS2' := hid hS2
                      have hS12 := hid (hS1'.out.kept q2)
                      clear hg2 hS2 q2 hS1'
                      refine hK.out _ _ (hall.out _ hq2) (fun _ => ?_)
                      clear hK K
                      (refine' wpAnyH_take (i := 12) rfl (by kernel_rfl) (by kernel_rfl) (by kernel_rfl) (fun _ _ _ h => h) (Or.inl ⟨by rfl, ?_⟩) (by assumption) ?_; rotate_left; (· (intro wq hq; (try dsimp only at hq); go_simp; first | done | with_reducible rfl)); simp only [Act.put, List.getElem_toArray, List.getElem_cons_zero, List.getElem_cons_succ, List.setIfInBounds_toArray, List.set_cons_zero, List.set_cons_succ])
                      (refine' wpAnyH_take (i := 13) rfl (by kernel_rfl) (by kernel_rfl) (by kernel_rfl) (fun _ _ _ h => h) (Or.inl ⟨by rfl, ?_⟩) (by assumption) ?_; rotate_left; (· (intro wq hq; (try dsimp only at hq); go_simp; first | done | with_reducible rfl)); simp only [Act.put, List.getElem_toArray, List.getElem_cons_zero, List.getElem_cons_succ, List.setIfInBounds_toArray, List.set_cons_zero, List.set_cons_succ])
                      refine wpAnyH_done (by kernel_rfl) ?_ _
                      refine hKm _ _ ?_
                      go_wp2
                      go_meet
                      case rel => exact ⟨Bl1, g1, Bl2, g2, rfl, rfl, ⟨hS12.out, hg1'.out⟩, ⟨hS2'.out, hg2'.out⟩, hq2⟩
                    exact AllReadyH.nil
                  exact AllReadyH.nil
                case rest =>
                  obtain ⟨Bl1, g1, Bl2, g2, rfl, rfl, hS1, hS2, hb2⟩ := hcut
                  --RANGES
                  have hL2x := hid (show WrL w s m A B A' B' lb wb U kb j ds wc from ⟨hL9'.out.base.kept hb2.out, hL9'.out.far, hL9'.out.kv.keptAll hb2.out, hL9'.out.ku, (hL9'.out.mks.below hb2.out (Nat.le_refl _)).up hb2.out.size, Nat.le_trans hL9'.out.wu hb2.out.size⟩)
                  have ckW := hid (hL9'.out.kv.cell 0)
                  clear hb2 l0 l1 ca0 ca1 cb0 cb1 ck eA eB hL9'
                  have hbN : Below wc.heap.size wc (wc.alloc (.cells #[.int .i64 0] 3)) := by repeat (first | with_reducible exact Below.refl _ _ | with_reducible refine Below.setCell ?_ (by first | (simp; done) | (simp; omega)) _ | with_reducible refine below_drewN ?_ _ | with_reducible refine Below.alloc ?_ (by first | (simp; done) | (simp; omega)) _ | with_reducible refine Below.drew ?_)
                  have hN0 := hid (At.new wc #[.int .i64 0] 3)
                  have hS1n := hid (hS1.out.1.kept hbN)
                  have hS2n := hid (hS2.out.1.kept hbN)
                  have hlt1 := hid hS1.out.1.lt
                  have hlt2 := hid hS2.out.1.lt
                  have hB3 := hid (hL2x.out.base.kept hbN)
                  have hk3 := hid (hL2x.out.kv.keptAll hbN)
                  have hm3 := hid (hL2x.out.mks.below hbN (Nat.le_refl _))
                  have hfar := hid hL2x.out.far
                  have hku := hid hL2x.out.ku
                  have hkl := hid hL2x.out.kv.lt
                  have hwu := hid hL2x.out.wu
                  go_wp2_with fail
                  obtain ⟨nb, hnb⟩ : ∃ b, wc.heap.size = b := ⟨_, rfl⟩
                  have hz3 : (wc.alloc (.cells #[.int .i64 0] 3)).heap.size = nb + 1 := by rw [← hnb]; simp
                  rw [hnb] at hN0 hm3 hlt1 hlt2 hkl hwu ⊢
                  generalize wc.alloc (.cells #[.int .i64 0] 3) = W3 at hN0 hS1n hS2n hB3 hk3 hm3 hz3 ⊢
                  clear hbN hL2x hS1 hS2 hnb
                  refine (wpIn_wide (n := 4)).1 ?_
                  generalize hAA : ({ tmps := _, defers := _ } : Act) = AA
                  have hW0 := hid (show WrN w s m A B A' B' lb wb U kb j nb ds nb W3.heap.size (fun W => SeqB W Bl2 g2 L2) 0 W3 from ⟨hB3.out, hk3.out, hm3.out, hN0.out, hS2n.out, Nat.le_refl _⟩)
                  have hBs := hid hB3.out.bel
                  have z1 := hB3.out.bel.size
                  have z2 := hfar.out
                  have z3 := hku.out
                  have z4 := hkl.out
                  have z5 := hlt1.out
                  have z6 := hwu.out
                  have hBes : Hid (Beside nb (fun W => SeqB W Bl2 g2 L2)) := beside_seq (by have := hlt2.out; omega) (by have := hlt2.out; omega)
                  refine range_tellG (n := 4) (by decide) (gf := 55) (lb := #[.pointer (some ⟨Bl1, 0, none⟩)]) (by rw [← hAA]; rfl) (enters_of Tryd.func55 (by kernel_rfl) rfl)
                    (seqB_tellG SafeW (4 - 1) (by decide) Bl1 g1 w.heap.size L1 W3 hS1n.out (hTb.out _ hBs.out) (by omega) hBs.out.size (fun m => safeW_own m)) (Below.refl _ _) (fun _ => rfl) HeldS.trans
                    (fun W l r r' h1 h2 h3 => heldW_put (by omega) h2 (by omega) h3) (WrN w s m A B A' B' lb wb U kb j nb ds nb W3.heap.size (fun W => SeqB W Bl2 g2 L2)) (fun _ _ _ => False) (WrN.own hBes.out (by omega) (by omega)) (fun _ _ _ _ _ h _ _ => h) hW0.out (fun r W h => ⟨fun _ => trivial, trivial⟩)
                    (fun r a' _ => ∃ q : Nat, Hid (PlcW L1 r q) ∧ a' = { tmps := (AA.tmps.setIfInBounds 189 (.int .i64 (q : Int))).setIfInBounds 19 (.int .i64 (q : Int)), defers := [] })
                    (fun _ _ _ _ _ _ hs _ _ => hs) ?assign ?body ?done ?stop
                  case assign => as_aux_lemma =>
                    intro l2 r Wy KK hr hI hKK
                    obtain ⟨q, hq⟩ : ∃ q : Nat, Hid (PlcW L1 r q) := ⟨_, rfl⟩
                    rw [encN, ← show q = L1.getD r 0 from hq.out]
                    have hK' := fun a' => hKK a' Wy (KeepsFrom.refl _ _) (heldW_refl _ _ _ _) hI
                    clear hKK
                    subst hAA
                    gi_wp2
                    exact ⟨q, hq, rfl⟩
                  case body => as_aux_lemma =>
                    rintro l2 r a' Wy hll - hr hI ⟨q, hq, rfl⟩
                    subst hAA
                    simp only [List.setIfInBounds_toArray, List.set_cons_zero, List.set_cons_succ]
                    obtain ⟨y1, y2⟩ := wrp_get (c := 58) (j := j) hNL'.out (by rw [hL1.out]; exact hr) (q := q) (by rw [hL1.out]; exact hq.out)
                    have y2' := hid y2
                    obtain ⟨d0, d1, -, -⟩ := hI.base.wd.factsL
                    obtain ⟨p0, p1⟩ := hI.base.wa.cells (k := j + 1) (by omega)
                    have ck : Wy.cell? ⟨kb, 0, none⟩ = some (.int .i64 (j : Int)) := hI.kv.cell 0
                    have hg := hid (get_calls ((s.size + 2 : Nat) : Int) ((q : Int) + 1) (some ⟨A' + 1 + (j + 1), 0, none⟩) (need (s.size + 2)) (need (s.size + 2)) (rowOf (lvS 58 (wrpS s) (j + 1 + 1)) (s.size + 2)) (s.size + 2) true (WalkArith.wf_i64 (by omega)) (WalkArith.wf_i64 (by omega)) (by unfold need; omega) (hid (.inl ⟨rowOf_formed _ _, by omega⟩)) y2' Wy ((hI.base.wa.2 (j + 1) (by omega)).wds (fun _ _ => rowOf_lt _ _ _) (Nat.le_refl _)))
                    unfold bv at hg
                    have hI' := hid hI
                    have gi : (q : Int) < 1048576 := by omega
                    have ji : (j : Int) < 63 := by omega
                    clear hI y2 hq
                    gi_wp2_with fail
                    refine ⟨trivial, ?_⟩
                    refine (CallsIn.inRound l2 (callsIn_wide.2 hg.out)).mono ?_
                    rintro e W2 ⟨rfl, q2⟩
                    have vl := hI'.out.vv.lt
                    have cn : W2.cell? ⟨nb, 0, none⟩ = some (.int .i64 (r : Int)) := (hI'.out.vv.keptAll q2).cell 0
                    have fn := (hI'.out.vv.keptAll q2).frozen 0
                    have hrl : (r : Int) < 1125899906842625 := by have := hS1n.out.len; omega
                    have hres := hid (And.intro (hI'.out.next hBes.out q2 z2 (by omega) (by omega) (Nat.le_refl _) (by omega)) (And.intro (hI'.out.held q2 (by omega) (by omega) (b := W3.heap.size) (g := g1) (by omega) (by omega) (.int .i64 ((r : Int) + 1))) (hI'.out.held q2 (by omega) (by omega) (b := W3.heap.size + 1 + 1) (g := g1) (by omega) (by omega) (.int .i64 ((r : Int) + 1)))))
                    clear hg q2 hI' d0 d1 p0 p1 ck
                    gi_wp2
                    exact ⟨hres.out.2.1.from (Nat.le_refl _), hres.out.2.2, hres.out.1⟩
                  case stop =>
                    rintro D c pre W _ _ h _
                    exact h.elim
                  case done =>
                    rintro D Wy hD hI hKD
                    subst hAA
                    have hbM : Below Wy.heap.size Wy (Wy.alloc (.cells #[.int .i64 0] 3)) := by repeat (first | with_reducible exact Below.refl _ _ | with_reducible refine Below.setCell ?_ (by first | (simp; done) | (simp; omega)) _ | with_reducible refine below_drewN ?_ _ | with_reducible refine Below.alloc ?_ (by first | (simp; done) | (simp; omega)) _ | with_reducible refine Below.drew ?_)
                    have hDl := (Array.getElem?_eq_some_iff.1 hKD).1
                    have hmD : Marks U Wy.heap.size ({ target := .collected D, args := #[] } :: ds) Wy := ⟨D, rfl, by omega, hDl, hKD, hI.mks.up (by omega)⟩
                    have hB5 := hid (hI.base.kept hbM)
                    have hk5 := hid (hI.kv.keptAll hbM)
                    have hm5 := hid (hmD.below hbM (Nat.le_refl _))
                    have hN5 := hid (At.new Wy #[.int .i64 0] 3)
                    have hV5 := hid (hI.vv.keptAll hbM)
                    have hS5 := hid (hI.ex.kept hbM)
                    have hlt5 := hid hI.ex.lt
                    have hwy := hI.wu
                    clear hI hKD hmD hW0 hN0 hS1n hS2n hB3 hk3 hm3 hBs hbM hBes
                    go_wp2_with fail
                    obtain ⟨mb, hmb⟩ : ∃ b, Wy.heap.size = b := ⟨_, rfl⟩
                    have hz5 : (Wy.alloc (.cells #[.int .i64 0] 3)).heap.size = mb + 1 := by rw [← hmb]; simp
                    rw [hmb] at hN5 hm5 hlt5 hwy hDl ⊢
                    generalize Wy.alloc (.cells #[.int .i64 0] 3) = W5 at hN5 hV5 hS5 hB5 hk5 hm5 hz5 ⊢
                    clear hmb
                    refine (wpIn_wide (n := 4)).1 ?_
                    generalize hAA : ({ tmps := _, defers := _ } : Act) = AA
                    have hW0 := hid (show WrN w s m A B A' B' lb wb U kb j mb ({ target := .collected D, args := #[] } :: ds) mb W5.heap.size (fun W => At W nb #[.int .i64 (L1.length : Int)] 3) 0 W5 from ⟨hB5.out, hk5.out, hm5.out, hN5.out, hV5.out, Nat.le_refl _⟩)
                    have hBs := hid hB5.out.bel
                    have z1 := hB5.out.bel.size
                    have z2 := hfar.out
                    have z3 := hku.out
                    have z4 := hkl.out
                    have z5 := hlt5.out
                    have z6 := hwu.out
                    have hBes : Hid (Beside mb (fun W => At W nb #[.int .i64 (L1.length : Int)] 3)) := beside_at (by omega)
                    refine range_tellG (n := 4) (by decide) (gf := 55) (lb := #[.pointer (some ⟨Bl2, 0, none⟩)]) (by rw [← hAA]; rfl) (enters_of Tryd.func55 (by kernel_rfl) rfl)
                      (seqB_tellG SafeW (4 - 1) (by decide) Bl2 g2 w.heap.size L2 W5 hS5.out (hTb.out _ hBs.out) (by omega) hBs.out.size (fun m => safeW_own m)) (Below.refl _ _) (fun _ => rfl) HeldS.trans
                      (fun W l r r' h1 h2 h3 => heldW_put (by omega) h2 (by omega) h3) (WrN w s m A B A' B' lb wb U kb j mb ({ target := .collected D, args := #[] } :: ds) mb W5.heap.size (fun W => At W nb #[.int .i64 (L1.length : Int)] 3)) (fun _ _ _ => False) (WrN.own hBes.out (by omega) (by omega)) (fun _ _ _ _ _ h _ _ => h) hW0.out (fun r W h => ⟨fun _ => trivial, trivial⟩)
                      (fun r a' _ => ∃ q : Nat, Hid (PlcW L2 r q) ∧ a' = { tmps := (AA.tmps.setIfInBounds 203 (.int .i64 (q : Int))).setIfInBounds 21 (.int .i64 (q : Int)), defers := [] })
                      (fun _ _ _ _ _ _ hs _ _ => hs) ?assign ?body ?done ?stop
                    case assign => as_aux_lemma =>
                      intro l2 r Wy KK hr hI hKK
                      obtain ⟨q, hq⟩ : ∃ q : Nat, Hid (PlcW L2 r q) := ⟨_, rfl⟩
                      rw [encN, ← show q = L2.getD r 0 from hq.out]
                      have hK' := fun a' => hKK a' Wy (KeepsFrom.refl _ _) (heldW_refl _ _ _ _) hI
                      clear hKK
                      subst hAA
                      gi_wp2
                      exact ⟨q, hq, rfl⟩
                    case body => as_aux_lemma =>
                      rintro l2 r a' Wy hll - hr hI ⟨q, hq, rfl⟩
                      subst hAA
                      simp only [List.setIfInBounds_toArray, List.set_cons_zero, List.set_cons_succ]
                      obtain ⟨y1, y2⟩ := wrp_get (c := 44) (j := j) hNL'.out (by rw [hL2.out]; exact hr) (q := q) (by rw [hL2.out]; exact hq.out)
                      have y2' := hid y2
                      obtain ⟨d0, d1, -, -⟩ := hI.base.wd.factsL
                      obtain ⟨p0, p1⟩ := hI.base.wc.cells (k := j + 1) (by omega)
                      have ck : Wy.cell? ⟨kb, 0, none⟩ = some (.int .i64 (j : Int)) := hI.kv.cell 0
                      have hg := hid (get_calls ((s.size + 2 : Nat) : Int) ((q : Int) + 1) (some ⟨B' + 1 + (j + 1), 0, none⟩) (need (s.size + 2)) (need (s.size + 2)) (rowOf (lvS 44 (wrpS s) (j + 1 + 1)) (s.size + 2)) (s.size + 2) true (WalkArith.wf_i64 (by omega)) (WalkArith.wf_i64 (by omega)) (by unfold need; omega) (hid (.inl ⟨rowOf_formed _ _, by omega⟩)) y2' Wy ((hI.base.wc.2 (j + 1) (by omega)).wds (fun _ _ => rowOf_lt _ _ _) (Nat.le_refl _)))
                      unfold bv at hg
                      have hI' := hid hI
                      have gi : (q : Int) < 1048576 := by omega
                      have ji : (j : Int) < 63 := by omega
                      clear hI y2 hq
                      gi_wp2_with fail
                      refine ⟨trivial, ?_⟩
                      refine (CallsIn.inRound l2 (callsIn_wide.2 hg.out)).mono ?_
                      rintro e W2 ⟨rfl, q2⟩
                      have vl := hI'.out.vv.lt
                      have cn : W2.cell? ⟨mb, 0, none⟩ = some (.int .i64 (r : Int)) := (hI'.out.vv.keptAll q2).cell 0
                      have fn := (hI'.out.vv.keptAll q2).frozen 0
                      have hrl : (r : Int) < 1125899906842625 := by have := hS5.out.len; omega
                      have hres := hid (And.intro (hI'.out.next hBes.out q2 z2 (by omega) (by omega) (Nat.le_refl _) (by omega)) (And.intro (hI'.out.held q2 (by omega) (by omega) (b := W5.heap.size) (g := g2) (by omega) (by omega) (.int .i64 ((r : Int) + 1))) (hI'.out.held q2 (by omega) (by omega) (b := W5.heap.size + 1 + 1) (g := g2) (by omega) (by omega) (.int .i64 ((r : Int) + 1)))))
                      clear hg q2 hI' d0 d1 p0 p1 ck
                      gi_wp2
                      exact ⟨hres.out.2.1.from (Nat.le_refl _), hres.out.2.2, hres.out.1⟩
                    case stop =>
                      rintro D c pre W _ _ h _
                      exact h.elim
                    case done =>
                      rintro D2 Wx hD2 hI hKD
                      subst hAA
                      have hI' := hid hI
                      have hKD' := hid hKD
                      have hDx := (Array.getElem?_eq_some_iff.1 hKD).1
                      clear hI hKD hBes hBs hW0 hm5 hk5 hB5 hS5 hV5 hN5
                      have ji : (j : Int) < 63 := by omega
                      have j0 : (0 : Int) ≤ (j : Int) + 1 := by omega
                      have e1 : ((L1.length : Int) != (L1.length : Int)) = false := by simp
                      have e2 : ((L2.length : Int) != (L2.length : Int)) = false := by simp
                      have ew1 : IntKind.i64.wrap ((j : Int) + 1) = (j : Int) + 1 := by rw [IntKind.wrap_i64]; omega
                      have ew2 : IntKind.i64.wrap ((s.size : Int) + 2) = (s.size : Int) + 2 := by rw [IntKind.wrap_i64]; omega
                      have cA := hid (fun (u : World) (hu : Below Wx.heap.size Wx u) => count_calls ((s.size + 2 : Nat) : Int) 0 ((s.size : Int) + 2) (some ⟨A' + 1 + (j + 1), 0, none⟩) (need (s.size + 2)) (need (s.size + 2)) (rowOf (lvS 58 (wrpS s) (j + 1 + 1)) (s.size + 2)) (s.size + 2) L1.length (WalkArith.wf_i64 (by omega)) (by decide) (WalkArith.wf_i64 (by omega)) (by unfold need; omega) (hid (.inl ⟨rowOf_formed _ _, by omega⟩)) (hid (by rw [wrp_cnt hNL'.out (.inl rfl), hL1.out])) u (((hI'.out.base.wa.2 (j + 1) (by omega)).keptAll hu).wds (fun _ _ => rowOf_lt _ _ _) (Nat.le_refl _)))
                      have cB := hid (fun (u : World) (hu : Below Wx.heap.size Wx u) => count_calls ((s.size + 2 : Nat) : Int) 0 ((s.size : Int) + 2) (some ⟨B' + 1 + (j + 1), 0, none⟩) (need (s.size + 2)) (need (s.size + 2)) (rowOf (lvS 44 (wrpS s) (j + 1 + 1)) (s.size + 2)) (s.size + 2) L2.length (WalkArith.wf_i64 (by omega)) (by decide) (WalkArith.wf_i64 (by omega)) (by unfold need; omega) (hid (.inl ⟨rowOf_formed _ _, by omega⟩)) (hid (by rw [wrp_cnt hNL'.out (.inr rfl), hL2.out])) u (((hI'.out.base.wc.2 (j + 1) (by omega)).keptAll hu).wds (fun _ _ => rowOf_lt _ _ _) (Nat.le_refl _)))
                      unfold bv at cA cB
                      go_upto_region 45 with fail
                      go_cut [241] from 216 to 241 (fun b wx => b = .bool false ∧ Hid (Below Wx.heap.size Wx wx))
                      case first => as_aux_lemma =>
                        rename_i Jm Km hJm hKm
                        have hj1 : j + 1 < m + 1 := by omega
                        have hall := hid (fun (v : World) (hv : Below Wx.heap.size Wx v) => (show (v.cell? ⟨wb, 0, none⟩ = some (.slice (some ⟨A', 0, none⟩) (m + 1) (m + 1)) ∧ v.cell? ⟨wb, 1, none⟩ = some (.slice (some ⟨B', 0, none⟩) (m + 1) (m + 1)) ∧ v.cell? ⟨kb, 0, none⟩ = some (.int .i64 (j : Int)) ∧ v.cell? ⟨A', (j + 1) * 2, none⟩ = some (.int .i64 ((s.size + 2 : Nat) : Int)) ∧ v.cell? ⟨A', (j + 1) * 2 + 1, none⟩ = some (.slice (some ⟨A' + 1 + (j + 1), 0, none⟩) (need (s.size + 2)) (need (s.size + 2))) ∧ v.cell? ⟨B', (j + 1) * 2, none⟩ = some (.int .i64 ((s.size + 2 : Nat) : Int)) ∧ v.cell? ⟨B', (j + 1) * 2 + 1, none⟩ = some (.slice (some ⟨B' + 1 + (j + 1), 0, none⟩) (need (s.size + 2)) (need (s.size + 2))) ∧ v.cell? ⟨nb, 0, none⟩ = some (.int .i64 (L1.length : Int)) ∧ v.cell? ⟨mb, 0, none⟩ = some (.int .i64 (L2.length : Int))) from
                          ⟨(hI'.out.base.wd.keptAll hv).factsL.1, (hI'.out.base.wd.keptAll hv).factsL.2.1, (hI'.out.kv.keptAll hv).cell 0, ((hI'.out.base.wa.kept hv).cells hj1).1, ((hI'.out.base.wa.kept hv).cells hj1).2, ((hI'.out.base.wc.kept hv).cells hj1).1, ((hI'.out.base.wc.kept hv).cells hj1).2, (hI'.out.ex.keptAll hv).cell 0, (hI'.out.vv.keptAll hv).cell 0⟩))
                        have hq0 : Below Wx.heap.size Wx Wx.drew := (Below.refl _ _).drew
                        have hheld := hall.out _ hq0
                        refine wp_region_held_only (S := fun v => (v.cell? ⟨wb, 0, none⟩ = some (.slice (some ⟨A', 0, none⟩) (m + 1) (m + 1)) ∧ v.cell? ⟨wb, 1, none⟩ = some (.slice (some ⟨B', 0, none⟩) (m + 1) (m + 1)) ∧ v.cell? ⟨kb, 0, none⟩ = some (.int .i64 (j : Int)) ∧ v.cell? ⟨A', (j + 1) * 2, none⟩ = some (.int .i64 ((s.size + 2 : Nat) : Int)) ∧ v.cell? ⟨A', (j + 1) * 2 + 1, none⟩ = some (.slice (some ⟨A' + 1 + (j + 1), 0, none⟩) (need (s.size + 2)) (need (s.size + 2))) ∧ v.cell? ⟨B', (j + 1) * 2, none⟩ = some (.int .i64 ((s.size + 2 : Nat) : Int)) ∧ v.cell? ⟨B', (j + 1) * 2 + 1, none⟩ = some (.slice (some ⟨B' + 1 + (j + 1), 0, none⟩) (need (s.size + 2)) (need (s.size + 2))) ∧ v.cell? ⟨nb, 0, none⟩ = some (.int .i64 (L1.length : Int)) ∧ v.cell? ⟨mb, 0, none⟩ = some (.int .i64 (L2.length : Int)))) (by kernel_rfl) hheld (fun hHeld => ?_)
                        clear hHeld
                        obtain ⟨v0, hv0⟩ : ∃ v, Wx.drew = v := ⟨_, rfl⟩
                        rw [hv0] at hq0 hheld ⊢
                        clear hv0
                        (refine' wpAnyH_take (i := 0) rfl (by kernel_rfl) (by kernel_rfl) (by kernel_rfl) (fun _ _ _ h => h) (Or.inl ⟨by rfl, ?_⟩) (by assumption) ?_; rotate_left; (· (intro wq hq; (try dsimp only at hq); go_simp; first | done | with_reducible rfl)); simp only [Act.put, List.getElem_toArray, List.getElem_cons_zero, List.setIfInBounds_toArray, List.set_cons_zero, List.set_cons_succ])
                        (refine' wpAnyH_take (i := 1) rfl (by kernel_rfl) (by kernel_rfl) (by kernel_rfl) (fun _ _ _ h => h) (Or.inl ⟨by rfl, ?_⟩) (by assumption) ?_; rotate_left; (· (intro wq hq; (try dsimp only at hq); go_simp; first | done | with_reducible rfl)); simp only [Act.put, List.getElem_toArray, List.getElem_cons_zero, List.getElem_cons_succ, List.setIfInBounds_toArray, List.set_cons_zero, List.set_cons_succ])
                        (refine' wpAnyH_take (i := 2) rfl (by kernel_rfl) (by kernel_rfl) (by kernel_rfl) (fun _ _ _ h => h) (Or.inl ⟨by rfl, ?_⟩) (by assumption) ?_; rotate_left; (· (intro wq hq; (try dsimp only at hq); go_simp; first | done | with_reducible rfl)); simp only [Act.put, List.getElem_toArray, List.getElem_cons_zero, List.getElem_cons_succ, List.setIfInBounds_toArray, List.set_cons_zero, List.set_cons_succ])
                        (refine' wpAnyH_take (i := 3) rfl (by kernel_rfl) (by kernel_rfl) (by kernel_rfl) (fun _ _ _ h => h) (Or.inl ⟨by rfl, ?_⟩) (by assumption) ?_; rotate_left; (· (intro wq hq; (try dsimp only at hq); go_simp; first | done | with_reducible rfl)); simp only [Act.put, List.getElem_toArray, List.getElem_cons_zero, List.getElem_cons_succ, List.setIfInBounds_toArray, List.set_cons_zero, List.set_cons_succ])
                        (refine' wpAnyH_take (i := 4) rfl (by kernel_rfl) (by kernel_rfl) (by kernel_rfl) (fun _ _ _ h => h) (Or.inl ⟨by rfl, ?_⟩) (by assumption) ?_; rotate_left; (· (intro wq hq; (try dsimp only at hq); go_simp; first | done | with_reducible rfl)); simp only [Act.put, List.getElem_toArray, List.getElem_cons_zero, List.getElem_cons_succ, List.setIfInBounds_toArray, List.set_cons_zero, List.set_cons_succ])
                        (refine' wpAnyH_take (i := 5) rfl (by kernel_rfl) (by kernel_rfl) (by kernel_rfl) (fun _ _ _ h => h) (Or.inl ⟨by rfl, ?_⟩) (by assumption) ?_; rotate_left; (· (intro wq hq; (try dsimp only at hq); go_simp; first | done | with_reducible rfl)); simp only [Act.put, List.getElem_toArray, List.getElem_cons_zero, List.getElem_cons_succ, List.setIfInBounds_toArray, List.set_cons_zero, List.set_cons_succ])
                        (refine' wpAnyH_take (i := 6) rfl (by kernel_rfl) (by kernel_rfl) (by kernel_rfl) (fun _ _ _ h => h) (Or.inl ⟨by rfl, ?_⟩) (by assumption) ?_; rotate_left; (· (intro wq hq; (try dsimp only at hq); go_simp; first | done | with_reducible rfl)); simp only [Act.put, List.getElem_toArray, List.getElem_cons_zero, List.getElem_cons_succ, List.setIfInBounds_toArray, List.set_cons_zero, List.set_cons_succ])
                        (refine' wpAnyH_take (i := 7) rfl (by kernel_rfl) (by kernel_rfl) (by kernel_rfl) (fun _ _ _ h => h) (Or.inl ⟨by rfl, ?_⟩) (by assumption) ?_; rotate_left; (· (intro wq hq; (try dsimp only at hq); go_simp; first | done | with_reducible rfl)); simp only [Act.put, List.getElem_toArray, List.getElem_cons_zero, List.getElem_cons_succ, List.setIfInBounds_toArray, List.set_cons_zero, List.set_cons_succ])
                        (refine' wpAnyH_take (i := 8) rfl (by kernel_rfl) (by kernel_rfl) (by kernel_rfl) (fun _ _ _ h => h) (Or.inl ⟨by rfl, ?_⟩) (by assumption) ?_; rotate_left; (· (intro wq hq; (try dsimp only at hq); go_simp; first | done | with_reducible rfl)); simp only [Act.put, List.getElem_toArray, List.getElem_cons_zero, List.getElem_cons_succ, List.setIfInBounds_toArray, List.set_cons_zero, List.set_cons_succ])
                        (refine' wpAnyH_take (i := 10) rfl (by kernel_rfl) (by kernel_rfl) (by kernel_rfl) (fun _ _ _ h => h) (Or.inl ⟨by rfl, ?_⟩) (by assumption) ?_; rotate_left; (· (intro wq hq; (try dsimp only at hq); go_simp; first | done | with_reducible rfl)); simp only [Act.put, List.getElem_toArray, List.getElem_cons_zero, List.getElem_cons_succ, List.setIfInBounds_toArray, List.set_cons_zero, List.set_cons_succ])
                        refine wpAnyH_ready (rs := [9]) (by kernel_rfl) (by simp) ?_
                        refine AllReadyH.cons rfl (fun K hK => ?_) ?_
                        · rw [if_pos (by rfl)]
                          go_simp
                          refine Calls.mono (cA.out _ hq0) ?_
                          rintro e v1 ⟨rfl, q1⟩
                          have hq1 : Below Wx.heap.size Wx v1 := hq0.trans (q1.mono hq0.size)
                          clear q1
                          refine hK.out _ _ (hall.out _ hq1) (fun _ => ?_)
                          clear hK K
                          (refine' wpAnyH_take (i := 11) rfl (by kernel_rfl) (by kernel_rfl) (by kernel_rfl) (fun _ _ _ h => h) (Or.inl ⟨by rfl, ?_⟩) (by assumption) ?_; rotate_left; (· (intro wq hq; (try dsimp only at hq); go_simp; first | done | with_reducible rfl)); simp only [Act.put, List.getElem_toArray, List.getElem_cons_zero, List.getElem_cons_succ, List.setIfInBounds_toArray, List.set_cons_zero, List.set_cons_succ])
                          (refine' wpAnyH_take (i := 12) rfl (by kernel_rfl) (by kernel_rfl) (by kernel_rfl) (fun _ _ _ h => h) (Or.inl ⟨by rfl, ?_⟩) (by assumption) ?_; rotate_left; (· (intro wq hq; (try dsimp only at hq); go_simp; first | done | with_reducible rfl)); simp only [Act.put, List.getElem_toArray, List.getElem_cons_zero, List.getElem_cons_succ, List.setIfInBounds_toArray, List.set_cons_zero, List.set_cons_succ])
                          (refine' wpAnyH_take (i := 13) rfl (by kernel_rfl) (by kernel_rfl) (by kernel_rfl) (fun _ _ _ h => h) (Or.inl ⟨by rfl, ?_⟩) (by assumption) ?_; rotate_left; (· (intro wq hq; (try dsimp only at hq); go_simp; first | done | with_reducible rfl)); simp only [Act.put, List.getElem_toArray, List.getElem_cons_zero, List.getElem_cons_succ, List.setIfInBounds_toArray, List.set_cons_zero, List.set_cons_succ])
                          (refine' wpAnyH_take (i := 14) rfl (by kernel_rfl) (by kernel_rfl) (by kernel_rfl) (fun _ _ _ h => h) (Or.inl ⟨by rfl, ?_⟩) (by assumption) ?_; rotate_left; (· (intro wq hq; (try dsimp only at hq); go_simp; first | done | with_reducible rfl)); simp only [Act.put, List.getElem_toArray, List.getElem_cons_zero, List.getElem_cons_succ, List.setIfInBounds_toArray, List.set_cons_zero, List.set_cons_succ])
                          (refine' wpAnyH_take (i := 15) rfl (by kernel_rfl) (by kernel_rfl) (by kernel_rfl) (fun _ _ _ h => h) (Or.inl ⟨by rfl, ?_⟩) (by assumption) ?_; rotate_left; (· (intro wq hq; (try dsimp only at hq); go_simp; first | done | with_reducible rfl)); simp only [Act.put, List.getElem_toArray, List.getElem_cons_zero, List.getElem_cons_succ, List.setIfInBounds_toArray, List.set_cons_zero, List.set_cons_succ])
                          (refine' wpAnyH_take (i := 16) rfl (by kernel_rfl) (by kernel_rfl) (by kernel_rfl) (fun _ _ _ h => h) (Or.inl ⟨by rfl, ?_⟩) (by assumption) ?_; rotate_left; (· (intro wq hq; (try dsimp only at hq); go_simp; first | done | with_reducible rfl)); simp only [Act.put, List.getElem_toArray, List.getElem_cons_zero, List.getElem_cons_succ, List.setIfInBounds_toArray, List.set_cons_zero, List.set_cons_succ])
                          (refine' wpAnyH_take (i := 17) rfl (by kernel_rfl) (by kernel_rfl) (by kernel_rfl) (fun _ _ _ h => h) (Or.inl ⟨by rfl, ?_⟩) (by assumption) ?_; rotate_left; (· (intro wq hq; (try dsimp only at hq); go_simp; first | done | with_reducible rfl)); simp only [Act.put, List.getElem_toArray, List.getElem_cons_zero, List.getElem_cons_succ, List.setIfInBounds_toArray, List.set_cons_zero, List.set_cons_succ])
                          (refine' wpAnyH_take (i := 18) rfl (by kernel_rfl) (by kernel_rfl) (by kernel_rfl) (fun _ _ _ h => h) (Or.inl ⟨by rfl, ?_⟩) (by assumption) ?_; rotate_left; (· (intro wq hq; (try dsimp only at hq); go_simp; first | done | with_reducible rfl)); simp only [Act.put, List.getElem_toArray, List.getElem_cons_zero, List.getElem_cons_succ, List.setIfInBounds_toArray, List.set_cons_zero, List.set_cons_succ])
                          (refine' wpAnyH_take (i := 19) rfl (by kernel_rfl) (by kernel_rfl) (by kernel_rfl) (fun _ _ _ h => h) (Or.inl ⟨by rfl, ?_⟩) (by assumption) ?_; rotate_left; (· (intro wq hq; (try dsimp only at hq); go_simp; first | done | with_reducible rfl)); simp only [Act.put, List.getElem_toArray, List.getElem_cons_zero, List.getElem_cons_succ, List.setIfInBounds_toArray, List.set_cons_zero, List.set_cons_succ])
                          (refine' wpAnyH_take (i := 20) rfl (by kernel_rfl) (by kernel_rfl) (by kernel_rfl) (fun _ _ _ h => h) (Or.inl ⟨by rfl, ?_⟩) (by assumption) ?_; rotate_left; (· (intro wq hq; (try dsimp only at hq); go_simp; first | done | with_reducible rfl)); simp only [Act.put, List.getElem_toArray, List.getElem_cons_zero, List.getElem_cons_succ, List.setIfInBounds_toArray, List.set_cons_zero, List.set_cons_succ])
                          (refine' wpAnyH_take (i := 21) rfl (by kernel_rfl) (by kernel_rfl) (by kernel_rfl) (fun _ _ _ h => h) (Or.inl ⟨by rfl, ?_⟩) (by assumption) ?_; rotate_left; (· (intro wq hq; (try dsimp only at hq); go_simp; first | done | with_reducible rfl)); simp only [Act.put, List.getElem_toArray, List.getElem_cons_zero, List.getElem_cons_succ, List.setIfInBounds_toArray, List.set_cons_zero, List.set_cons_succ])
                          (refine' wpAnyH_take (i := 23) rfl (by kernel_rfl) (by kernel_rfl) (by kernel_rfl) (fun _ _ _ h => h) (Or.inl ⟨by rfl, ?_⟩) (by assumption) ?_; rotate_left; (· (intro wq hq; (try dsimp only at hq); go_simp; first | done | with_reducible rfl)); simp only [Act.put, List.getElem_toArray, List.getElem_cons_zero, List.getElem_cons_succ, List.setIfInBounds_toArray, List.set_cons_zero, List.set_cons_succ])
                          refine wpAnyH_ready (rs := [22]) (by kernel_rfl) (by simp) ?_
                          refine AllReadyH.cons rfl (fun K hK => ?_) ?_
                          · rw [if_pos (by rfl)]
                            go_simp
                            refine Calls.mono (cB.out _ hq1) ?_
                            rintro e v2 ⟨rfl, q2⟩
                            have hq2 : Below Wx.heap.size Wx v2 := hq1.trans (q2.mono hq1.size)
                            clear q2
                            refine hK.out _ _ (hall.out _ hq2) (fun _ => ?_)
                            clear hK K
                            (refine' wpAnyH_take (i := 24) rfl (by kernel_rfl) (by kernel_rfl) (by kernel_rfl) (fun _ _ _ h => h) (Or.inl ⟨by rfl, ?_⟩) (by assumption) ?_; rotate_left; (· (intro wq hq; (try dsimp only at hq); go_simp; first | done | with_reducible rfl)); simp only [Act.put, List.getElem_toArray, List.getElem_cons_zero, List.getElem_cons_succ, List.setIfInBounds_toArray, List.set_cons_zero, List.set_cons_succ])
                            (refine' wpAnyH_take (i := 25) rfl (by kernel_rfl) (by kernel_rfl) (by kernel_rfl) (fun _ _ _ h => h) (Or.inl ⟨by rfl, ?_⟩) (by assumption) ?_; rotate_left; (· (intro wq hq; (try dsimp only at hq); go_simp; first | done | with_reducible rfl)); simp only [Act.put, List.getElem_toArray, List.getElem_cons_zero, List.getElem_cons_succ, List.setIfInBounds_toArray, List.set_cons_zero, List.set_cons_succ])
                            refine wpAnyH_done (by kernel_rfl) ?_ _
                            refine hKm _ _ ?_
                            go_wp2
                            go_meet
                            case rel => exact ⟨rfl, hq2⟩
                          exact AllReadyH.nil
                        exact AllReadyH.nil
                      case rest =>
                        obtain ⟨rfl, hbx⟩ := hcut
                        have ck : wc.cell? ⟨kb, 0, none⟩ = some (.int .i64 (j : Int)) := (hI'.out.kv.keptAll hbx.out).cell 0
                        clear cA cB e1 e2 ew2
                        go_wp2
                        have hbA : Below wc.heap.size wc (wc.alloc (.cells #[.int .i64 ((j : Int) + 1)] 3)) := by repeat (first | with_reducible exact Below.refl _ _ | with_reducible refine Below.setCell ?_ (by first | (simp; done) | (simp; omega)) _ | with_reducible refine below_drewN ?_ _ | with_reducible refine Below.alloc ?_ (by first | (simp; done) | (simp; omega)) _ | with_reducible refine Below.drew ?_)
                        have hAl : Below Wx.heap.size Wx (wc.alloc (.cells #[.int .i64 ((j : Int) + 1)] 3)) := hbx.out.trans (hbA.mono hbx.out.size)
                        have hNw := At.new wc #[.int .i64 ((j : Int) + 1)] 3
                        have hws := hI'.out.wu
                        have hxs := hbx.out.size
                        have hmX : Marks U Wx.heap.size ({ target := .collected D2, args := #[] } :: { target := .collected D, args := #[] } :: ds) Wx := ⟨D2, rfl, by omega, hDx, hKD'.out, hI'.out.mks.up (by omega)⟩
                        refine ⟨?_, ?_⟩
                        · generalize hAB : ({ tmps := _, defers := _ } : Act) = AB
                          refine ⟨j + 1, wc.heap.size, { target := .collected D2, args := #[] } :: { target := .collected D, args := #[] } :: ds, fun i => AB.tmps.getD i undef, ?_, by omega, ?_⟩
                          · subst hAB
                            rfl
                          · refine ⟨hI'.out.base.kept hAl, hfar.out, ?_, by omega, (hmX.below hAl (Nat.le_refl _)).up hAl.size, ?_⟩
                            · have ej : ((j + 1 : Nat) : Int) = (j : Int) + 1 := by omega
                              rw [ej]
                              exact hNw
                            · exact Nat.le_trans (by omega) hAl.size
                        · exact kOf_lt (p := ⟨wc.heap.size, 0, none⟩) (q := ⟨kb, 0, none⟩) hlt rfl (hNw.cell 0) rfl ckW.out
              · obtain rfl : j = m := by omega
                refine wpIn_wide.2 ?_
                have hSx := hid hL9'.out.base
                have cC := hid (close_calls (wrpS s) (by rw [wrp_size]; omega) 0 (by decide) Wi (hTb.out Wi hSx.out.bel) (hMb.out Wi hSx.out.bel) (hz.out Wi hSx.out.bel))
                have cD := hid (fun (W : World) (hb : Below w.heap.size w W) => depth_calls (wrpS s) (by rw [wrp_size]; omega) ((s.size : Int) + 1) (depS s s.size + 1) (wrp_depN hNL'.out) W (hTb.out W hb) (hMb.out W hb) (hz.out W hb))
                rw [← hLd'.out] at cD
                go_wp2_with fail
                refine Calls.mono cC.out ?_
                rintro e w9 ⟨c, rfl, hc, q⟩
                have hcv := hSx.out.close hNL'.out hBB.out hOB.out hc
                rw [← hLd'.out] at hcv
                have hS9 := hid (hSx.out.kept q)
                have hfu := hid hL9'.out.far.1
                have hm9 : Hid (Marks U w9.heap.size ds w9) := (hL9'.out.mks.below q (Nat.le_refl _)).up q.size
                clear hc q cC hSx
                by_cases hz0 : Lw = 0
                · rw [if_pos hz0] at hcv
                  subst hcv
                  have e1 : ((s.size : Int) + 1 == (s.size : Int) + 1) = true := by simp
                  have e2 : ((Lw : Int) == 0) = true := by simp [hz0]
                  have e3 : (((Lw + 1 : Nat) : Int) == (Lw : Int) + 1) = true := by simp
                  clear hz0
                  have n9 : Lw ≤ 1048576 := by omega
                  go_wp2_with fail
                  refine Calls.mono (cD.out _ hS9.out.bel) ?_
                  rintro e wd ⟨rfl, qd⟩
                  have hS10 := hid (hS9.out.kept qd)
                  have hm10 := hid (hm9.out.below qd (Nat.le_refl _))
                  clear hS9 hm9 qd cD
                  obtain ⟨r0, f0⟩ := hS10.out.r0
                  have hD := hid hS10.out.done
                  have hmD := hid (show Marks (w.heap.size + 1) w9.heap.size ds (wd.setCell ⟨w.heap.size, 0, none⟩ (.bool true)) from marks_low (hm10.out.of (fun D h1 _ _ => Below.heap_setCell wd ⟨w.heap.size, 0, none⟩ _ D (by show D ≠ w.heap.size; have := hfu.out; omega))) (by have := hfu.out; omega))
                  go_wp2
                  refine leaves_marks (s := ()) (B := w.heap.size + 1) (J := WrR w) (wrR_own (Nat.le_succ _)) ?_ ds _ _ hmD.out hD.out
                  rintro W' ⟨k1, k2⟩
                  have hc := k1.cell 0
                  simp only [List.getElem?_toArray, List.getElem?_cons_zero] at hc
                  refine ⟨.bool true, ?_, rfl, k2⟩
                  simp [results, Tryd.f6, go_sem, hc]
                · rw [if_neg hz0] at hcv
                  subst hcv
                  have e1 : ((-1 : Int) == (s.size : Int) + 1) = false := beq_eq_false_iff_ne.2 (by omega)
                  have e2 : ((Lw : Int) == 0) = false := beq_eq_false_iff_ne.2 (by omega)
                  have e3 : (((Lw + 1 : Nat) : Int) == (Lw : Int) + 1) = true := by simp
                  have n9 : Lw ≤ 1048576 := by omega
                  go_wp2_with fail
                  refine Calls.mono (cD.out _ hS9.out.bel) ?_
                  rintro e wd ⟨rfl, qd⟩
                  have hS10 := hid (hS9.out.kept qd)
                  have hm10 := hid (hm9.out.below qd (Nat.le_refl _))
                  clear hS9 hm9 qd cD
                  obtain ⟨r0, f0⟩ := hS10.out.r0
                  have hD := hid hS10.out.done
                  have hmD := hid (show Marks (w.heap.size + 1) w9.heap.size ds (wd.setCell ⟨w.heap.size, 0, none⟩ (.bool true)) from marks_low (hm10.out.of (fun D h1 _ _ => Below.heap_setCell wd ⟨w.heap.size, 0, none⟩ _ D (by show D ≠ w.heap.size; have := hfu.out; omega))) (by have := hfu.out; omega))
                  go_wp2
                  refine leaves_marks (s := ()) (B := w.heap.size + 1) (J := WrR w) (wrR_own (Nat.le_succ _)) ?_ ds _ _ hmD.out hD.out
                  rintro W' ⟨k1, k2⟩
                  have hc := k1.cell 0
                  simp only [List.getElem?_toArray, List.getElem?_cons_zero] at hc
                  refine ⟨.bool true, ?_, rfl, k2⟩
                  simp [results, Tryd.f6, go_sem, hc]
theorem levelsWrapped_walk (s : ByteArray) (hs : s.size ≤ 1048576) (a : Int) (_ : (Lit.int .i64 a).wf = true) (w : World) (hT : Tab w) (hM : TabM w) (h0 : 1 < w.heap.size) :
    Calls Tryd.prog 6 #[.string s, .int .i64 a] w fun e w' => e = .returned (.bool true) ∧ Below w.heap.size w w' := callsIn_wide.1 (lwrapped_in s hs a w hT hM h0)
end Go.Proofs.YthhgojdnpkcaaaaDoor
