/-
  The walk of quarrylaw08.MarksJoins, the first text not empty.
-/
import Derived.Test.YtmgbgphlkhkldabDoorMJoinA
namespace Go.Proofs.YtmgbgphlkhkldabDoor
open Go.RowKit Go.Shelf

attribute [local go_sem] Oper.semAt_some

set_option maxRecDepth 100000 in
set_option maxHeartbeats 8000000 in
theorem joins1_in (s : ByteArray) (hn : Hid (0 < s.size)) (hs : s.size ≤ 1048576) (t : ByteArray) (ht : t.size ≤ 1048576) (w : World) (hT : Tab w) (hM : TabM w) (h0 : 1 < w.heap.size) :
    CallsIn Fence.wide 4 Tryd.prog 3 #[.string s, .string t] w fun e w' => e = .returned (.bool true) ∧ Below w.heap.size w w' := by
  have hnf : ∀ (f : Fn) (a b : Array Value) (w : World), Sem.run Tryd.prog (binOp BinOp.eql 30 (.func f a b) .nilFunc) w = .ok (.bool false) w := fun _ _ _ _ => by rfl
  have hTb := hid (fun (w1 : World) (hb : Below w.heap.size w w1) => (show Tab w1 from hT.below hb (by omega)))
  have hMb := hid (fun (w1 : World) (hb : Below w.heap.size w w1) => (show TabM w1 from hM.below hb h0))
  have hz := hid (fun (w1 : World) (hb : Below w.heap.size w w1) => (show 1 < w1.heap.size from Nat.lt_of_lt_of_le h0 hb.size))
  clear hT hM
  refine callsIn_of_wp_marks Tryd.func3 rfl trivial ?_ rfl
  simp only [Tryd.ntmps3, List.size_toArray, List.length_cons, List.length_nil, Nat.reduceAdd, Nat.reduceSub, Array.replicate_succ, Array.replicate_zero, List.push_toArray, List.append_toArray, List.nil_append, List.cons_append]
  gi_wp2_with fail
  obtain ⟨X0, hX0⟩ : ∃ X0, X0 = w.alloc (.cells #[.string s] 9) := ⟨_, rfl⟩
  have a0 := hid (show At X0 w.heap.size #[.string s] 9 by rw [hX0]; exact At.new w _ _)
  have b0 : Below w.heap.size w X0 := by rw [hX0]; repeat (first | with_reducible exact Below.refl _ _ | with_reducible refine Below.setCell ?_ (by first | (simp; done) | (simp; omega)) _ | with_reducible refine below_drewN ?_ _ | with_reducible refine Below.alloc ?_ (by first | (simp; done) | (simp; omega)) _ | with_reducible refine Below.drew ?_)
  rw [← hX0]
  clear hX0
  refine ⟨trivial, ?_⟩
  refine (callsIn_wide.2 (awake8_calls X0 (hTb.out _ b0) (hMb.out _ b0) (hz.out _ b0))).mono ?_
  rintro e w1 ⟨rfl, hb1⟩
  have B1 := b0.trans (hb1.mono b0.size)
  have a1 := hid (a0.out.keptAll hb1)
  clear a0 b0 hb1
  gi_wp2_with fail
  refine ⟨trivial, ?_⟩
  refine (callsIn_wide.2 (openQ_calls ⟨#[34]⟩ (by decide) true (by show _ = _; decide +kernel) w1 (hTb.out _ B1) (by have := hz.out _ B1; omega))).mono ?_
  rintro e w2 ⟨rfl, hb2⟩
  have B2 := B1.trans (hb2.mono B1.size)
  have a2 := hid (a1.out.keptAll hb2)
  clear a1 B1 hb2
  gi_wp2_with fail
  refine ⟨trivial, ?_⟩
  refine (callsIn_wide.2 (behind_calls ⟨#[92]⟩ false true (by decide) (by show _ = _; decide +kernel) w2)).mono ?_
  rintro e w2' ⟨rfl, hw2⟩
  obtain rfl := hw2.symm
  have c2 := a2.out.cell 0
  simp only [List.getElem?_toArray, List.getElem?_cons_zero] at c2
  obtain ⟨O, hO⟩ : ∃ O, Hid (openS s = O) := ⟨_, rfl⟩
  obtain ⟨H, hH⟩ : ∃ H, Hid (behindS s false = H) := ⟨_, rfl⟩
  gi_wp2_with fail
  refine ⟨trivial, ?_⟩
  refine (callsIn_wide.2 (openQ_calls s (by omega) O hO w2 (hTb.out _ B2) (by have := hz.out _ B2; omega))).mono ?_
  rintro e w3 ⟨rfl, hb3⟩
  have B3 := B2.trans (hb3.mono B2.size)
  have a3 := hid (a2.out.keptAll hb3)
  have c3 := a3.out.cell 0
  simp only [List.getElem?_toArray, List.getElem?_cons_zero] at c3
  clear a2 B2 hb3 c2
  cases O with
  | true =>
    gi_wp2_with fail
    refine ⟨trivial, ?_⟩
    gi_wp2
    refine ⟨.bool true, ?_, rfl, B3⟩
    simp [results, Tryd.f3, go_sem]
  | false =>
    gi_wp2_with fail
    refine ⟨trivial, ?_⟩
    refine (callsIn_wide.2 (behind_calls s false H (by omega) hH w3)).mono ?_
    rintro e w3' ⟨rfl, hw3⟩
    obtain rfl := hw3.symm
    cases H with
    | true =>
      gi_wp2
      refine ⟨.bool true, ?_, rfl, B3⟩
      simp [results, Tryd.f3, go_sem]
    | false =>
      gi_wp2_with fail
      refine ⟨trivial, ?_⟩
      refine (callsIn_wide.2 (index8_calls s (by omega) w3 (hTb.out _ B3) (hMb.out _ B3) (hz.out _ B3))).mono ?_
      rintro e w4 ⟨v4, rfl, hr4, hb4⟩
      obtain ⟨ao4, cap4, rfl, hi4⟩ := ints_row hr4
      have B4 := B3.trans (hb4.mono B3.size)
      have a4 := hid (a3.out.keptAll hb4)
      have hi4' := hid hi4
      clear a3 B3 hb4 hr4 hi4 c3
      gi_wp2_with fail
      refine ⟨trivial, ?_⟩
      refine (callsIn_wide.2 (copyI_calls (idxS s) _ rfl (by have := idxTo_len s s.size; unfold idxS; omega) ao4 cap4 w4 hi4'.out)).mono ?_
      rintro e w5 ⟨v5, rfl, hr5, hb5⟩
      have B5 := B4.trans (hb5.mono B4.size)
      have a5 := hid (a4.out.keptAll hb5)
      have r5 := hid (row_base hr5 B4.size)
      clear a4 B4 hb5 hr5 hi4'
      gi_wp2_with fail
      refine ⟨trivial, ?_⟩
      refine (callsIn_wide.2 (index8_calls t (by omega) w5 (hTb.out _ B5) (hMb.out _ B5) (hz.out _ B5))).mono ?_
      rintro e w6 ⟨v6, rfl, hr6, hb6⟩
      obtain ⟨ao, capT, rfl, hi6⟩ := ints_row hr6
      have hgT := hid (show ∀ g, ao = some ⟨g, 0, none⟩ → w5.heap.size ≤ g from fun g e => (hr6.lt g (by rw [e]; rfl)).1)
      have hvb := hid (show ∀ r, v5.ownBlock = some r → r < w5.heap.size from fun r e => (r5.out.lt r e).2)
      have B6 := B5.trans (hb6.mono B5.size)
      have a6 := hid (a5.out.keptAll hb6)
      have r6 := hid (row_keptAll r5.out hb6)
      have hi6' := hid hi6
      have z56 := hb6.size
      have c6 := a6.out.cell 0
      simp only [List.getElem?_toArray, List.getElem?_cons_zero] at c6
      obtain ⟨NT, hNT⟩ : ∃ NT, Hid ((idxS t).length = NT) := ⟨_, rfl⟩
      rw [hNT.out]
      clear a5 r5 B5 hb6 hr6 hi6
      by_cases hn0 : 0 < s.size
      · obtain ⟨k, hk⟩ : ∃ k, Hid (kindN s ((s.size : Int) - 1) = k) := ⟨_, rfl⟩
        have hlr0 : Hid (lrS s 0 = decide (k = 119)) := by
          show _ = _
          unfold lrS
          rw [Bool.eq_iff_iff, decide_eq_true_eq, ← hk.out, show (s.size : Int) - 1 = ((s.size - 1 : Nat) : Int) by omega, kind_w]
          rw [decide_eq_true hn0, Bool.true_and, Bool.and_eq_true]
          exact ⟨fun h => ⟨by omega, h.1, h.2⟩, fun h => ⟨h.2.1, h.2.2⟩⟩
        have hkc := hid (fun (W : World) (hb : Below w.heap.size w W) => kind8_calls s (by omega) ((s.size : Int) - 1) (by simp [Lit.wf, IntKind.min, IntKind.max, IntKind.bits, IntKind.signed]; omega) k hk W (hTb.out _ hb) (hMb.out _ hb) (hz.out _ hb))
        have hng : decide ((0 : Int) < (s.size : Int)) = true := by simp; omega
        have hng' : decide (0 < s.size) = true := by simp; omega
        have hsw : IntKind.i64.wrap ((s.size : Int) - 1) = (s.size : Int) - 1 := by rw [IntKind.wrap_i64]; omega
        have hsi : (s.size : Int) ≤ 1048576 := by omega
        have hsp : (1 : Int) ≤ (s.size : Int) := by omega
        gi_wp2_with fail
        refine ⟨trivial, ?_⟩
        refine (callsIn_wide.2 (hkc.out _ B6)).mono ?_
        rintro e w7 ⟨rfl, hb7⟩
        have BL := B6.trans (hb7.mono B6.size)
        have aL := hid (a6.out.keptAll hb7)
        have rL := hid (row_keptAll r6.out hb7)
        have iL := hid (hi6'.out.kept (Nat.le_refl _) hb7)
        have zL : w5.heap.size ≤ w7.heap.size := Nat.le_trans z56 hb7.size
        have hkb : ((k : Int) == 119) = decide (k = 119) := by rw [Bool.eq_iff_iff, beq_iff_eq, decide_eq_true_eq]; omega
        obtain ⟨bb, hbb⟩ : ∃ b, decide (k = 119) = b := ⟨_, rfl⟩
        rw [hbb] at hlr0 hkb
        clear hkc hb7 a6 r6 hi6' B6 z56 c6 hk hng hng' hsw hbb hsp
        have hzL := hid (show w5.heap.size ≤ w7.heap.size from zL)
        have cL := aL.out.cell 0
        have ltL := aL.out.lt
        simp only [List.getElem?_toArray, List.getElem?_cons_zero] at cL
        gi_wp2_with fail
        refine ⟨trivial, ?_⟩
        obtain ⟨Y, hY⟩ : ∃ Y, Y = w7.alloc (.cells #[.bool bb] 4) := ⟨_, rfl⟩
        have bY : Below w7.heap.size w7 Y := by rw [hY]; repeat (first | with_reducible exact Below.refl _ _ | with_reducible refine Below.setCell ?_ (by first | (simp; done) | (simp; omega)) _ | with_reducible refine below_drewN ?_ _ | with_reducible refine Below.alloc ?_ (by first | (simp; done) | (simp; omega)) _ | with_reducible refine Below.drew ?_)
        have lY := hid (show At Y w7.heap.size #[.bool bb] 4 by rw [hY]; exact At.new w7 _ _)
        have BY : Below w.heap.size w Y := BL.trans (bY.mono BL.size)
        have zY : Y.heap.size = w7.heap.size + 1 := by rw [hY]; simp
        rw [← hY]
        clear hY
        refine (callsIn_wide.2 (words8_calls s (by omega) Y (hTb.out _ BY) (hMb.out _ BY) (hz.out _ BY))).mono ?_
        rintro e w8 ⟨Bl, g8, cp, cur, rfl, hg8, hP8, hb8⟩
        rw [zY] at hg8
        have bY8 : Below w7.heap.size w7 w8 := bY.trans (hb8.mono bY.size)
        have l8 := hid (lY.out.keptAll hb8)
        have B8 := BY.trans (hb8.mono BY.size)
        have hP8' := hid hP8
        have gl8 := hP8.2.1.lt
        have ll8 := l8.out.lt
        have hwLw := BL.size
        clear bY lY BY hb8 hP8 cL ltL zY
        gi_wp2_with fail
        have hI0 : JnI w7 s 0 w8 := ⟨by rw [hlr0.out]; exact l8.out, bY8, ll8⟩
        refine range_tellF (n := 4) (by decide) (gf := 30) (lb := #[.pointer (some ⟨Bl, 0, none⟩)]) rfl (enters_of Tryd.func30 (by kernel_rfl) rfl)
          (words_tellF (4 - 1) (by decide) Bl w.heap.size g8 cp s (by omega) cur w8 hP8'.out (hTb.out _ B8) (by omega) B8.size) (Below.refl _ _) (fun _ => rfl) HeldS.trans (fun W l r r' h1 h2 h3 => heldT_put (by omega) h2 (by omega) h3)
          (JnI w7 s) (fun _ _ _ => False) (jnI_free ll8) (fun _ _ _ _ _ h _ _ => h) hI0
          (JnA w7.heap.size s (fun gx A C => { tmps := #[.string s, .string t, .pointer (some ⟨w.heap.size, 0, none⟩), undef, .bool false, v5, .slice ao NT capT, .pointer (some ⟨w7.heap.size, 0, none⟩), .func (.func 30) #[] #[.pointer (some ⟨Bl, 0, none⟩)], .pointer (some ⟨gx, 0, none⟩), undef, .bool true, .bool false, .bool false, .bool true, .bool false, .bool false, .bool false, .bool true, .bool false, .bool false, .string s, .bool false, .bool false, .string s, .bool false, .bool false, .string s, .slice ao4 (idxS s).length cap4, v5, .string t, .slice ao NT capT, .string s, .int .i64 (s.size : Int), .bool true, .bool true, .string s, .string s, .int .i64 (s.size : Int), .int .i64 ((s.size : Int) - 1), .int .u8 (k : Int), .bool bb, .bool bb, .string s, .func (.func 30) #[] #[.pointer (some ⟨Bl, 0, none⟩)], .func (.func 30) #[] #[.pointer (some ⟨Bl, 0, none⟩)], .bool false, .func (.func 30) #[] #[.pointer (some ⟨Bl, 0, none⟩)], .agg #[.int .i64 (A : Int), .int .i64 (C : Int)], undef, undef, undef, undef, undef, undef, undef, undef, undef, undef, undef, undef, undef, undef, undef, undef, undef, undef, undef, undef, undef, undef, undef, undef, undef, undef, undef, undef, undef, undef, undef, undef, undef, undef, undef, undef, undef, undef, undef, undef, undef, undef, undef], defers := [] }))
          (fun x a' _ X Z row ⟨gx, A, C, h1, h4, h5, h6⟩ hg hr => ⟨gx, A, C, h1, h4, h5.own hg (fun r e => (hr r e).2), h6⟩) ?assign ?body ?done ?stop
        case assign =>
          intro l x W KK hx hI hKK
          obtain ⟨⟨A, C⟩, hAC⟩ : ∃ y, Hid (((trT s).getD (2 * x) 0, (trT s).getD (2 * x + 1) 0) = y) := ⟨_, rfl⟩
          have e1 : (trT s).getD (2 * x) 0 = A := congrArg Prod.fst hAC.out
          have e2 : (trT s).getD (2 * x + 1) 0 = C := congrArg Prod.snd hAC.out
          rw [encW, e1, e2]
          have hb : Below W.heap.size W (W.alloc (.cells #[.int .i64 (A : Int), .int .i64 (C : Int)] 33)) := by repeat (first | with_reducible exact Below.refl _ _ | with_reducible refine Below.setCell ?_ (by first | (simp; done) | (simp; omega)) _ | with_reducible refine below_drewN ?_ _ | with_reducible refine Below.alloc ?_ (by first | (simp; done) | (simp; omega)) _ | with_reducible refine Below.drew ?_)
          have hgt : w7.heap.size + 1 ≤ W.heap.size := hI.2.2
          have hK2 := fun a' => hKK a' _ ((keeps_below hb).from _) (HeldT.of_below hb (by omega)) (jnI_kept hI hb)
          clear hKK hI hb e1 e2
          gi_wp2
          exact ⟨W.heap.size, A, C, hAC, hgt, At.new W _ _, rfl⟩
        case body =>
          rintro l r a' W hll ⟨rec, hrec⟩ hlt ⟨hl, hbW, hzW⟩ ⟨gx, A, C, hAC, hgx, hAt, rfl⟩
          have e2 : (trT s).getD (2 * r + 1) 0 = C := congrArg Prod.snd hAC.out
          have cl := hl.cell 0
          have fl := hl.frozen 0
          have x0 := hAt.cell 0
          have x1 := hAt.cell 1
          have cs := (aL.out.keptAll hbW).cell 0
          simp only [List.getElem?_toArray, List.getElem?_cons_zero, List.getElem?_cons_succ] at cl x0 x1 cs
          obtain ⟨Bv, hBv⟩ : ∃ b, Hid (lrS s r = b) := ⟨_, rfl⟩
          have hnx : Hid (lrS s (r + 1) = (Bv || decide (C = s.size))) := by show _ = _; rw [← hBv.out, ← e2]; rfl
          rw [hBv.out] at cl
          have hl' := hid hl
          have eC : ((C : Int) == (s.size : Int)) = decide (C = s.size) := by rw [Bool.eq_iff_iff, beq_iff_eq, decide_eq_true_eq]; omega
          obtain ⟨Dv, hDv⟩ : ∃ d, decide (C = s.size) = d := ⟨_, rfl⟩
          rw [hDv] at eC hnx
          have hfin := hid (fun (v : Bool) (hv : lrS s (r + 1) = v) => (show KeepsFrom w8.heap.size W (W.setCell ⟨w7.heap.size, 0, none⟩ (.bool v)) ∧ HeldT w.heap.size (w8.heap.size + 1 + 1) g8 W (W.setCell ⟨w7.heap.size, 0, none⟩ (.bool v)) ∧ JnI w7 s (r + 1) (W.setCell ⟨w7.heap.size, 0, none⟩ (.bool v)) from
            ⟨(KeepsOthers.setCell _ _ _).from _, heldT_set _ (by omega) (by omega) (by omega), by rw [hv]; have h := hl'.out.set 0 (.bool v); simpa using h, hbW.setCell (p := ⟨w7.heap.size, 0, none⟩) (Nat.le_refl _) _, Nat.le_trans hzW (KeepsOthers.setCell _ _ _).1⟩))
          clear hAC hl hAt hBv e2 hDv hI0
          cases Bv with
          | true =>
            gi_wp2
            exact hfin.out true (by rw [hnx.out]; rfl)
          | false =>
            gi_wp2
            exact hfin.out Dv (by rw [hnx.out]; rfl)
        case stop =>
          rintro D c r W _ _ h _
          exact h.elim
        case done =>
          rintro D W hD ⟨hl, hbW, hzW⟩ hKD
          rw [lrS_all] at hl
          have rW0 := hid (row_keptAll rL.out hbW)
          have iW0 := hid (iL.out.kept (Nat.le_refl _) hbW)
          have sW0 := hid (aL.out.keptAll hbW)
          have BW0 := BL.trans (hbW.mono BL.size)
          have hl' := hid hl
          have hKD' := hid hKD
          have hzz : w7.heap.size < W.heap.size := hl.lt
          clear hl hKD hI0 hnf
          gi_wp2
          refine wpIn_loop (fun a Wi => ∃ (i : Nat) (v u57 u58 u59 u60 u61 u62 u63 u64 u65 u66 u67 u68 u69 u70 u71 u72 u73 u74 u75 u76 u77 u78 u79 u80 u81 u82 u83 u84 u85 : Value), a = { tmps := #[.string s, .string t, .pointer (some ⟨w.heap.size, 0, none⟩), undef, .bool false, v, .slice ao NT capT, .pointer (some ⟨w7.heap.size, 0, none⟩), .func (.func 30) #[] #[.pointer (some ⟨Bl, 0, none⟩)], undef, .int .i64 (i : Int), .bool true, .bool false, .bool false, .bool true, .bool false, .bool false, .bool false, .bool true, .bool false, .bool false, .string s, .bool false, .bool false, .string s, .bool false, .bool false, .string s, .slice ao4 (idxS s).length cap4, v5, .string t, .slice ao NT capT, .string s, .int .i64 (s.size : Int), .bool true, .bool true, .string s, .string s, .int .i64 (s.size : Int), .int .i64 ((s.size : Int) - 1), .int .u8 (k : Int), .bool bb, .bool bb, .string s, .func (.func 30) #[] #[.pointer (some ⟨Bl, 0, none⟩)], .func (.func 30) #[] #[.pointer (some ⟨Bl, 0, none⟩)], .bool false, .func (.func 30) #[] #[.pointer (some ⟨Bl, 0, none⟩)], undef, undef, undef, undef, undef, undef, undef, undef, undef, u57, u58, u59, u60, u61, u62, u63, u64, u65, u66, u67, u68, u69, u70, u71, u72, u73, u74, u75, u76, u77, u78, u79, u80, u81, u82, u83, u84, u85, undef, undef, undef, undef, undef, undef], defers := [{ target := .collected D, args := #[] }] } ∧ i ≤ NT ∧ Wi.ownsRow w.heap.size 3 1 v (wnt s t i).length (ints (wnt s t i)) ∧ IntsAt Wi ao (idxS t) ∧ (∀ g, ao = some ⟨g, 0, none⟩ → v.ownBlock ≠ some g) ∧ At Wi w7.heap.size #[.bool (lastS s)] 4 ∧ At Wi w.heap.size #[.string s] 9 ∧ Below w.heap.size w Wi ∧ Wi.heap[D]? = some (.deferred (some []))) (fun a _ => NT - (intOf (a.tmps.getD 10 undef)).toNat) ?_ ?_
          · refine ⟨0, v5, undef, undef, undef, undef, undef, undef, undef, undef, undef, undef, undef, undef, undef, undef, undef, undef, undef, undef, undef, undef, undef, undef, undef, undef, undef, undef, undef, undef, undef, rfl, Nat.zero_le _, ?_, iW0.out, fun g e h => ?_, hl'.out, sW0.out, BW0, hKD'.out⟩
            · rw [wnt_zero]; exact rW0.out
            · have h1 := hvb.out g h
              have h2 := hgT.out g e
              omega
          rintro a Wi ⟨i, v, u57, u58, u59, u60, u61, u62, u63, u64, u65, u66, u67, u68, u69, u70, u71, u72, u73, u74, u75, u76, u77, u78, u79, u80, u81, u82, u83, u84, u85, rfl, hi, rW, iW, hvg, lW, sW, BW, kW⟩
          by_cases hlt : i < NT
          · obtain ⟨p, hp0⟩ : ∃ p, (idxS t)[i]? = some p := ⟨_, List.getElem?_eq_getElem (by rw [hNT.out]; exact hlt)⟩
            obtain ⟨g, hao, hgl, cg⟩ := iW i p hp0
            subst hao
            have hp := hid hp0
            have wntl := hid (show (wnt s t i).length ≤ 2097152 by
              unfold wnt
              have h1 := idxTo_len s s.size
              have h2 := idxTo_len t t.size
              have h3 := List.length_filter_le (keepJ s t) ((idxS t).take i)
              have h4 : ((idxS t).take i).length ≤ (idxS t).length := by rw [List.length_take]; omega
              rw [List.length_append, List.length_map]
              unfold idxS at *
              omega)
            have hlw : Hid ((wnt s t i).length < 17592186044415) := by show _ < _; have := wntl.out; omega
            have hpm : p < t.size := by have h := List.mem_of_getElem? hp0; unfold idxS idxTo at h; rw [List.mem_filter, List.mem_range] at h; exact h.1
            have hpb : Hid (begS t p = true) := by have h := List.mem_of_getElem? hp0; unfold idxS idxTo at h; rw [List.mem_filter] at h; exact h.2
            have hii : (i : Int) < (NT : Int) := by omega
            have hN1 : NT ≤ 1048576 := by have h := idxTo_len t t.size; rw [← hNT.out]; unfold idxS; omega
            have ewi := hid (wrapJ hlt hN1)
            have cl := lW.cell 0
            have cs := sW.cell 0
            simp only [List.getElem?_toArray, List.getElem?_cons_zero] at cl cs
            have ewp : IntKind.i64.wrap ((p : Int) + (s.size : Int)) = (p : Int) + (s.size : Int) := by rw [IntKind.wrap_i64]; omega
            have rWh := hid rW
            have iWh := hid iW
            have lWh := hid lW
            have sWh := hid sW
            have kWh := hid kW
            have hvg' := hid hvg
            obtain ⟨Lb, hLb⟩ : ∃ b, Hid (lastS s = b) := ⟨_, rfl⟩
            rw [hLb.out] at cl
            clear rW iW lW sW kW hvg hp0
            cases Lb with
            | false =>
              gi_wp2_with fail
              refine ⟨trivial, ?_⟩
              have hnx := hid (wnt_t hp.out (show keepJ s t p = true from by unfold keepJ; rw [hLb.out]; rfl))
              have hbX0 : Below Wi.heap.size Wi (Wi.alloc (.cells #[.int .i64 ((p : Int) + (s.size : Int))] 3)) := by repeat (first | with_reducible exact Below.refl _ _ | with_reducible refine Below.setCell ?_ (by first | (simp; done) | (simp; omega)) _ | with_reducible refine below_drewN ?_ _ | with_reducible refine Below.alloc ?_ (by first | (simp; done) | (simp; omega)) _ | with_reducible refine Below.drew ?_)
              have hbX := hbX0.drew
              obtain ⟨v', W2, hrun, ro, rg, rap⟩ := append_apart (ty := 25) (row_keptAll rWh.out hbX) ⟨Wi.heap.size, 0, none⟩ 1 ((At.new Wi #[.int .i64 ((p : Int) + (s.size : Int))] 3).cell 0) rfl hlw.out (Nat.le_trans BW.size hbX.size)
              obtain ⟨so', c', rfl⟩ := rowI_slice8 ro
              have hblk : Hid (∀ b, b < Wi.heap.size → v.ownBlock ≠ some b → W2.heap[b]? = Wi.heap[b]?) := fun b hb hne => (rg.block b (Nat.lt_of_lt_of_le hb hbX.size) (fun e => hne e.symm)).trans (hbX.block b hb)
              have hrunD := hid hrun
              have rg' := hid rg
              have ro' := hid ro
              have rap' := hid rap
              have hS0 : Wi.drew.cell? ⟨g, i, none⟩ = some (.int .i64 (p : Int)) ∧ Wi.drew.cell? ⟨w.heap.size, 0, none⟩ = some (.string s) := ⟨cg, cs⟩
              have hS1 := hid (show (Wi.alloc (.cells #[.int .i64 ((p : Int) + (s.size : Int))] 3)).drew.cell? ⟨g, i, none⟩ = some (.int .i64 (p : Int)) ∧ (Wi.alloc (.cells #[.int .i64 ((p : Int) + (s.size : Int))] 3)).drew.cell? ⟨w.heap.size, 0, none⟩ = some (.string s) from ⟨cellJ cg hbX, cellJ cs hbX⟩)
              have hgv := hid (hvg'.out g rfl)
              have hsv := hid (Lib.ownBlock_ne rWh.out sWh.out (by decide))
              have hS2 := hid (show W2.cell? ⟨g, i, none⟩ = some (.int .i64 (p : Int)) ∧ W2.cell? ⟨w.heap.size, 0, none⟩ = some (.string s) from ⟨rg.cell hS1.out.1 (fun e => hgv.out e.symm), rg.cell hS1.out.2 (fun e => hsv.out e.symm)⟩)
              clear hrun rg ro rap hbX0
              gi_wp2_with fail
              rename_i K18 hK18
              refine wpIn_wide.2 ?_
              refine wp_region_held_only (S := fun W' => W'.cell? ⟨g, i, none⟩ = some (.int .i64 (p : Int)) ∧ W'.cell? ⟨w.heap.size, 0, none⟩ = some (.string s)) (by kernel_rfl) hS0 (fun hHeld => ?_)
              (refine' wpAnyH_take (i := 0) rfl (by kernel_rfl) (by kernel_rfl) (by kernel_rfl) (fun _ _ _ h => h) (Or.inl ⟨by rfl, ?_⟩) (by assumption) ?_; rotate_left; (· (intro wq hq; (try dsimp only at hq); go_simp; first | done | with_reducible rfl)); simp only [Act.put, List.getElem_toArray, List.getElem_cons_zero, List.setIfInBounds_toArray, List.set_cons_zero, List.set_cons_succ])
              (refine' wpAnyH_take (i := 1) rfl (by kernel_rfl) (by kernel_rfl) (by kernel_rfl) (fun _ _ _ h => h) (Or.inl ⟨by rfl, ?_⟩) (by assumption) ?_; rotate_left; (· (intro wq hq; (try dsimp only at hq); go_simp; first | done | with_reducible rfl)); simp only [Act.put, List.getElem_toArray, List.getElem_cons_zero, List.getElem_cons_succ, List.setIfInBounds_toArray, List.set_cons_zero, List.set_cons_succ])
              (refine' wpAnyH_take (i := 2) rfl (by kernel_rfl) (by kernel_rfl) (by kernel_rfl) (fun _ _ _ h => h) (Or.inl ⟨by rfl, ?_⟩) (by assumption) ?_; rotate_left; (· (intro wq hq; (try dsimp only at hq); go_simp; first | done | with_reducible rfl)); simp only [Act.put, List.getElem_toArray, List.getElem_cons_zero, List.getElem_cons_succ, List.setIfInBounds_toArray, List.set_cons_zero, List.set_cons_succ])
              (refine' wpAnyH_take (i := 3) rfl (by kernel_rfl) (by kernel_rfl) (by kernel_rfl) (fun _ _ _ h => h) (Or.inl ⟨by rfl, ?_⟩) (by assumption) ?_; rotate_left; (· (intro wq hq; (try dsimp only at hq); go_simp; first | done | with_reducible rfl)); simp only [Act.put, List.getElem_toArray, List.getElem_cons_zero, List.getElem_cons_succ, List.setIfInBounds_toArray, List.set_cons_zero, List.set_cons_succ])
              (refine' wpAnyH_take (i := 4) rfl (by kernel_rfl) (by kernel_rfl) (by kernel_rfl) (fun _ _ _ h => h) (Or.inl ⟨by rfl, ?_⟩) (by assumption) ?_; rotate_left; (· (intro wq hq; (try dsimp only at hq); go_simp; first | done | with_reducible rfl)); simp only [Act.put, List.getElem_toArray, List.getElem_cons_zero, List.getElem_cons_succ, List.setIfInBounds_toArray, List.set_cons_zero, List.set_cons_succ])
              (refine' wpAnyH_take (i := 5) rfl (by kernel_rfl) (by kernel_rfl) (by kernel_rfl) (fun _ _ _ h => h) (Or.inl ⟨by rfl, ?_⟩) (by assumption) ?_; rotate_left; (· (intro wq hq; (try dsimp only at hq); go_simp; first | done | with_reducible rfl)); simp only [Act.put, List.getElem_toArray, List.getElem_cons_zero, List.getElem_cons_succ, List.setIfInBounds_toArray, List.set_cons_zero, List.set_cons_succ])
              (refine' wpAnyH_take (i := 6) rfl (by kernel_rfl) (by kernel_rfl) (by kernel_rfl) (fun _ _ _ h => h) (Or.inl ⟨by rfl, ?_⟩) (by assumption) ?_; rotate_left; (· (intro wq hq; (try dsimp only at hq); go_simp; first | done | with_reducible rfl)); simp only [Act.put, List.getElem_toArray, List.getElem_cons_zero, List.getElem_cons_succ, List.setIfInBounds_toArray, List.set_cons_zero, List.set_cons_succ])
              (refine' wpAnyH_take (i := 7) rfl (by kernel_rfl) (by kernel_rfl) (by kernel_rfl) (fun _ _ _ h => h) (Or.inl ⟨by rfl, ?_⟩) (by assumption) ?_; rotate_left; (· (intro wq hq; (try dsimp only at hq); go_simp; first | done | with_reducible rfl)); simp only [Act.put, List.getElem_toArray, List.getElem_cons_zero, List.getElem_cons_succ, List.setIfInBounds_toArray, List.set_cons_zero, List.set_cons_succ])
              refine wpAnyH_ready (rs := [8]) (by kernel_rfl) (by simp) ?_
              refine AllReadyH.cons rfl (fun K hK => ?_) ?_
              rotate_left
              · exact AllReadyH.nil
              go_simp
              refine hK.out _ _ hS1.out (fun hH1 => ?_)
              clear hK hHeld
              refine wpAnyH_ready (rs := [9]) (by kernel_rfl) (by simp) ?_
              refine AllReadyH.cons rfl (fun K hK => ?_) ?_
              rotate_left
              · exact AllReadyH.nil
              rw [if_pos (by rfl)]
              refine wp_append_rowI rfl rfl rfl hrunD.out ?_
              refine hK.out _ _ hS2.out (fun hH2 => ?_)
              clear hK
              (refine' wpAnyH_take (i := 10) rfl (by kernel_rfl) (by kernel_rfl) (by kernel_rfl) (fun _ _ _ h => h) (Or.inl ⟨by rfl, ?_⟩) (by assumption) ?_; rotate_left; (· (intro wq hq; (try dsimp only at hq); go_simp; first | done | with_reducible rfl)); simp only [Act.put, List.getElem_toArray, List.getElem_cons_zero, List.getElem_cons_succ, List.setIfInBounds_toArray, List.set_cons_zero, List.set_cons_succ])
              refine wpAnyH_done (by kernel_rfl) ?_ _
              refine hK18 _ _ ?_
              clear hK18
              gi_wp2
              try simp only [ewi.out]
              have kv : v.ownBlock ≠ some D := fun e => by
                rcases rowI_block rWh.out with h | ⟨g', cur', h1, _, h3⟩
                · rw [h] at e; cases e
                · rw [h1] at e; cases e; rw [kWh.out] at h3; cases h3
              have lv := Lib.ownBlock_ne rWh.out lWh.out (by decide)
              have hB2 : Below w.heap.size w W2 := Below.grown (BW.trans (hbX.mono BW.size)) rg'.out (Nat.le_trans BW.size hbX.size) (fun j hj => (rWh.out.lt j hj).1)
              refine ⟨⟨i + 1, .slice so' ((wnt s t i).length + 1) c', _, _, _, _, _, _, _, _, _, _, _, _, _, _, _, _, _, _, _, _, _, _, _, _, _, _, _, _, _, rfl, hlt, ?_, ?_, ?_, (hblk.out _ lWh.out.lt lv).trans lWh.out, (hblk.out _ sWh.out.lt hsv.out).trans sWh.out, hB2, (hblk.out D (Array.getElem?_eq_some_iff.1 kWh.out).1 kv).trans kWh.out⟩, ?_⟩
              · rw [hnx.out, List.length_append, List.length_singleton, show ints (wnt s t i ++ [p + s.size]) = ints (wnt s t i) ++ [.int .i64 ((p : Int) + (s.size : Int))] from by simp [ints]]
                exact ro'.out
              · intro j q hj
                obtain ⟨g', e, hl, hc⟩ := iWh.out j q hj
                cases e
                exact ⟨g, rfl, Nat.lt_of_lt_of_le hl (Nat.le_trans hbX.size rg'.out.size), rg'.out.cell (cellJ hc hbX) (fun e => hgv.out e.symm)⟩
              · intro g' e h
                cases e
                rcases rap'.out with h1 | ⟨gn, h1, h2⟩
                · exact hgv.out (h1.symm.trans h)
                · rw [h1] at h
                  cases h
                  exact absurd hgl (Nat.not_lt.2 (Nat.le_trans hbX.size h2))
              · clear ewp
                have hq := measJ hlt
                clear rWh iWh lWh sWh kWh hblk ro' rg' rap' hrunD
                first | (simpa [intOf] using hq) | (simp [intOf]; omega)
            | true =>
              by_cases hp0 : p = 0
              · obtain ⟨kq, hkq⟩ : ∃ k, Hid (kindN t 0 = k) := ⟨_, rfl⟩
                have hkk := hid (kind8_calls t (by omega) 0 (by decide) kq hkq Wi (hTb.out _ BW) (hMb.out _ BW) (hz.out _ BW))
                have hwk : Hid (wordS t 0 = decide (kq = 119)) := by
                  show _ = _
                  have h := kind_w t 0
                  rw [show ((0 : Nat) : Int) = 0 from rfl, hkq.out] at h
                  rw [Bool.eq_iff_iff, decide_eq_true_eq, h]
                  have h1 := hpb.out
                  rw [hp0] at h1
                  exact ⟨fun h => ⟨by omega, h1, h⟩, fun h => h.2.2⟩
                have hqb : ((kq : Int) == 119) = decide (kq = 119) := by rw [Bool.eq_iff_iff, beq_iff_eq, decide_eq_true_eq]; omega
                obtain ⟨qb, hq⟩ : ∃ b, decide (kq = 119) = b := ⟨_, rfl⟩
                rw [hq] at hwk hqb
                have hpz : ((p : Int) == 0) = true := by rw [hp0]; rfl
                have hpz' : (p : Int) = 0 := by rw [hp0]; rfl
                clear hq hkq
                gi_wp2_with fail
                refine ⟨trivial, ?_⟩
                refine (callsIn_wide.2 hkk.out).mono ?_
                rintro e Wk ⟨rfl, hbk⟩
                have BWk := BW.trans (hbk.mono BW.size)
                have rWk := hid (row_keptAll rWh.out hbk)
                have iWk := hid (iWh.out.kept (Nat.le_refl _) hbk)
                have lWk := hid (lWh.out.keptAll hbk)
                have sWk := hid (sWh.out.keptAll hbk)
                have kWk := hid ((hbk.block D (Array.getElem?_eq_some_iff.1 kWh.out).1).trans kWh.out)
                have cgk := cellJ cg hbk
                have csk := cellJ cs hbk
                have clk := cellJ cl hbk
                have hglk := Nat.lt_of_lt_of_le hgl hbk.size
                clear hkk rWh iWh lWh sWh kWh cg cs cl hgl hbk BW hpz hpz'
                cases qb with
                | true =>
                  have hnx := hid (wnt_f hp.out (show keepJ s t p = false from by unfold keepJ; rw [hLb.out, hp0, hwk.out]; rfl))
                  gi_wp2
                  try simp only [ewi.out]
                  refine ⟨⟨i + 1, v, _, _, _, _, _, _, _, _, _, _, _, _, _, _, _, _, _, _, _, _, _, _, _, _, _, _, _, _, _, rfl, hlt, ?_, iWk.out, hvg'.out, lWk.out, sWk.out, BWk, kWk.out⟩, ?_⟩
                  · rw [hnx.out]
                    exact rWk.out
                  · clear ewp
                    have hq := measJ hlt
                    clear rWk iWk lWk sWk kWk
                    first | (simpa [intOf] using hq) | (simp [intOf]; omega)
                | false =>
                  clear hp0
                  gi_wp2_with fail
                  have hnx := hid (wnt_t hp.out (show keepJ s t p = true from by unfold keepJ; rw [hwk.out]; simp))
                  have hbX0 : Below Wk.heap.size Wk (Wk.alloc (.cells #[.int .i64 ((p : Int) + (s.size : Int))] 3)) := by repeat (first | with_reducible exact Below.refl _ _ | with_reducible refine Below.setCell ?_ (by first | (simp; done) | (simp; omega)) _ | with_reducible refine below_drewN ?_ _ | with_reducible refine Below.alloc ?_ (by first | (simp; done) | (simp; omega)) _ | with_reducible refine Below.drew ?_)
                  have hbX := hbX0.drew
                  obtain ⟨v', W2, hrun, ro, rg, rap⟩ := append_apart (ty := 25) (row_keptAll rWk.out hbX) ⟨Wk.heap.size, 0, none⟩ 1 ((At.new Wk #[.int .i64 ((p : Int) + (s.size : Int))] 3).cell 0) rfl hlw.out (Nat.le_trans BWk.size hbX.size)
                  obtain ⟨so', c', rfl⟩ := rowI_slice8 ro
                  have hblk : Hid (∀ b, b < Wk.heap.size → v.ownBlock ≠ some b → W2.heap[b]? = Wk.heap[b]?) := fun b hb hne => (rg.block b (Nat.lt_of_lt_of_le hb hbX.size) (fun e => hne e.symm)).trans (hbX.block b hb)
                  have hrunD := hid hrun
                  have rg' := hid rg
                  have ro' := hid ro
                  have rap' := hid rap
                  have hS0 : Wk.drew.cell? ⟨g, i, none⟩ = some (.int .i64 (p : Int)) ∧ Wk.drew.cell? ⟨w.heap.size, 0, none⟩ = some (.string s) := ⟨cgk, csk⟩
                  have hS1 := hid (show (Wk.alloc (.cells #[.int .i64 ((p : Int) + (s.size : Int))] 3)).drew.cell? ⟨g, i, none⟩ = some (.int .i64 (p : Int)) ∧ (Wk.alloc (.cells #[.int .i64 ((p : Int) + (s.size : Int))] 3)).drew.cell? ⟨w.heap.size, 0, none⟩ = some (.string s) from ⟨cellJ cgk hbX, cellJ csk hbX⟩)
                  have hgv := hid (hvg'.out g rfl)
                  have hsv := hid (Lib.ownBlock_ne rWk.out sWk.out (by decide))
                  have hS2 := hid (show W2.cell? ⟨g, i, none⟩ = some (.int .i64 (p : Int)) ∧ W2.cell? ⟨w.heap.size, 0, none⟩ = some (.string s) from ⟨rg.cell hS1.out.1 (fun e => hgv.out e.symm), rg.cell hS1.out.2 (fun e => hsv.out e.symm)⟩)
                  clear hrun rg ro rap hbX0
                  gi_wp2_with fail
                  rename_i K18 hK18
                  refine wpIn_wide.2 ?_
                  refine wp_region_held_only (S := fun W' => W'.cell? ⟨g, i, none⟩ = some (.int .i64 (p : Int)) ∧ W'.cell? ⟨w.heap.size, 0, none⟩ = some (.string s)) (by kernel_rfl) hS0 (fun hHeld => ?_)
                  (refine' wpAnyH_take (i := 0) rfl (by kernel_rfl) (by kernel_rfl) (by kernel_rfl) (fun _ _ _ h => h) (Or.inl ⟨by rfl, ?_⟩) (by assumption) ?_; rotate_left; (· (intro wq hq; (try dsimp only at hq); go_simp; first | done | with_reducible rfl)); simp only [Act.put, List.getElem_toArray, List.getElem_cons_zero, List.setIfInBounds_toArray, List.set_cons_zero, List.set_cons_succ])
                  (refine' wpAnyH_take (i := 1) rfl (by kernel_rfl) (by kernel_rfl) (by kernel_rfl) (fun _ _ _ h => h) (Or.inl ⟨by rfl, ?_⟩) (by assumption) ?_; rotate_left; (· (intro wq hq; (try dsimp only at hq); go_simp; first | done | with_reducible rfl)); simp only [Act.put, List.getElem_toArray, List.getElem_cons_zero, List.getElem_cons_succ, List.setIfInBounds_toArray, List.set_cons_zero, List.set_cons_succ])
                  (refine' wpAnyH_take (i := 2) rfl (by kernel_rfl) (by kernel_rfl) (by kernel_rfl) (fun _ _ _ h => h) (Or.inl ⟨by rfl, ?_⟩) (by assumption) ?_; rotate_left; (· (intro wq hq; (try dsimp only at hq); go_simp; first | done | with_reducible rfl)); simp only [Act.put, List.getElem_toArray, List.getElem_cons_zero, List.getElem_cons_succ, List.setIfInBounds_toArray, List.set_cons_zero, List.set_cons_succ])
                  (refine' wpAnyH_take (i := 3) rfl (by kernel_rfl) (by kernel_rfl) (by kernel_rfl) (fun _ _ _ h => h) (Or.inl ⟨by rfl, ?_⟩) (by assumption) ?_; rotate_left; (· (intro wq hq; (try dsimp only at hq); go_simp; first | done | with_reducible rfl)); simp only [Act.put, List.getElem_toArray, List.getElem_cons_zero, List.getElem_cons_succ, List.setIfInBounds_toArray, List.set_cons_zero, List.set_cons_succ])
                  (refine' wpAnyH_take (i := 4) rfl (by kernel_rfl) (by kernel_rfl) (by kernel_rfl) (fun _ _ _ h => h) (Or.inl ⟨by rfl, ?_⟩) (by assumption) ?_; rotate_left; (· (intro wq hq; (try dsimp only at hq); go_simp; first | done | with_reducible rfl)); simp only [Act.put, List.getElem_toArray, List.getElem_cons_zero, List.getElem_cons_succ, List.setIfInBounds_toArray, List.set_cons_zero, List.set_cons_succ])
                  (refine' wpAnyH_take (i := 5) rfl (by kernel_rfl) (by kernel_rfl) (by kernel_rfl) (fun _ _ _ h => h) (Or.inl ⟨by rfl, ?_⟩) (by assumption) ?_; rotate_left; (· (intro wq hq; (try dsimp only at hq); go_simp; first | done | with_reducible rfl)); simp only [Act.put, List.getElem_toArray, List.getElem_cons_zero, List.getElem_cons_succ, List.setIfInBounds_toArray, List.set_cons_zero, List.set_cons_succ])
                  (refine' wpAnyH_take (i := 6) rfl (by kernel_rfl) (by kernel_rfl) (by kernel_rfl) (fun _ _ _ h => h) (Or.inl ⟨by rfl, ?_⟩) (by assumption) ?_; rotate_left; (· (intro wq hq; (try dsimp only at hq); go_simp; first | done | with_reducible rfl)); simp only [Act.put, List.getElem_toArray, List.getElem_cons_zero, List.getElem_cons_succ, List.setIfInBounds_toArray, List.set_cons_zero, List.set_cons_succ])
                  (refine' wpAnyH_take (i := 7) rfl (by kernel_rfl) (by kernel_rfl) (by kernel_rfl) (fun _ _ _ h => h) (Or.inl ⟨by rfl, ?_⟩) (by assumption) ?_; rotate_left; (· (intro wq hq; (try dsimp only at hq); go_simp; first | done | with_reducible rfl)); simp only [Act.put, List.getElem_toArray, List.getElem_cons_zero, List.getElem_cons_succ, List.setIfInBounds_toArray, List.set_cons_zero, List.set_cons_succ])
                  refine wpAnyH_ready (rs := [8]) (by kernel_rfl) (by simp) ?_
                  refine AllReadyH.cons rfl (fun K hK => ?_) ?_
                  rotate_left
                  · exact AllReadyH.nil
                  go_simp
                  refine hK.out _ _ hS1.out (fun hH1 => ?_)
                  clear hK hHeld
                  refine wpAnyH_ready (rs := [9]) (by kernel_rfl) (by simp) ?_
                  refine AllReadyH.cons rfl (fun K hK => ?_) ?_
                  rotate_left
                  · exact AllReadyH.nil
                  rw [if_pos (by rfl)]
                  refine wp_append_rowI rfl rfl rfl hrunD.out ?_
                  refine hK.out _ _ hS2.out (fun hH2 => ?_)
                  clear hK
                  (refine' wpAnyH_take (i := 10) rfl (by kernel_rfl) (by kernel_rfl) (by kernel_rfl) (fun _ _ _ h => h) (Or.inl ⟨by rfl, ?_⟩) (by assumption) ?_; rotate_left; (· (intro wq hq; (try dsimp only at hq); go_simp; first | done | with_reducible rfl)); simp only [Act.put, List.getElem_toArray, List.getElem_cons_zero, List.getElem_cons_succ, List.setIfInBounds_toArray, List.set_cons_zero, List.set_cons_succ])
                  refine wpAnyH_done (by kernel_rfl) ?_ _
                  refine hK18 _ _ ?_
                  clear hK18
                  gi_wp2
                  try simp only [ewi.out]
                  have kv : v.ownBlock ≠ some D := fun e => by
                    rcases rowI_block rWk.out with h | ⟨g', cur', h1, _, h3⟩
                    · rw [h] at e; cases e
                    · rw [h1] at e; cases e; rw [kWk.out] at h3; cases h3
                  have lv := Lib.ownBlock_ne rWk.out lWk.out (by decide)
                  have hB2 : Below w.heap.size w W2 := Below.grown (BWk.trans (hbX.mono BWk.size)) rg'.out (Nat.le_trans BWk.size hbX.size) (fun j hj => (rWk.out.lt j hj).1)
                  refine ⟨⟨i + 1, .slice so' ((wnt s t i).length + 1) c', _, _, _, _, _, _, _, _, _, _, _, _, _, _, _, _, _, _, _, _, _, _, _, _, _, _, _, _, _, rfl, hlt, ?_, ?_, ?_, (hblk.out _ lWk.out.lt lv).trans lWk.out, (hblk.out _ sWk.out.lt hsv.out).trans sWk.out, hB2, (hblk.out D (Array.getElem?_eq_some_iff.1 kWk.out).1 kv).trans kWk.out⟩, ?_⟩
                  · rw [hnx.out, List.length_append, List.length_singleton, show ints (wnt s t i ++ [p + s.size]) = ints (wnt s t i) ++ [.int .i64 ((p : Int) + (s.size : Int))] from by simp [ints]]
                    exact ro'.out
                  · intro j q hj
                    obtain ⟨g', e, hl, hc⟩ := iWk.out j q hj
                    cases e
                    exact ⟨g, rfl, Nat.lt_of_lt_of_le hl (Nat.le_trans hbX.size rg'.out.size), rg'.out.cell (cellJ hc hbX) (fun e => hgv.out e.symm)⟩
                  · intro g' e h
                    cases e
                    rcases rap'.out with h1 | ⟨gn, h1, h2⟩
                    · exact hgv.out (h1.symm.trans h)
                    · rw [h1] at h
                      cases h
                      exact absurd hglk (Nat.not_lt.2 (Nat.le_trans hbX.size h2))
                  · clear ewp
                    have hq := measJ hlt
                    clear rWk iWk lWk sWk kWk hblk ro' rg' rap' hrunD
                    first | (simpa [intOf] using hq) | (simp [intOf]; omega)
              · have hpz : ((p : Int) == 0) = false := by simpa using hp0
                gi_wp2_with fail
                refine ⟨trivial, ?_⟩
                have hnx := hid (wnt_t hp.out (show keepJ s t p = true from by unfold keepJ; rw [decide_eq_false hp0]; simp))
                have hbX0 : Below Wi.heap.size Wi (Wi.alloc (.cells #[.int .i64 ((p : Int) + (s.size : Int))] 3)) := by repeat (first | with_reducible exact Below.refl _ _ | with_reducible refine Below.setCell ?_ (by first | (simp; done) | (simp; omega)) _ | with_reducible refine below_drewN ?_ _ | with_reducible refine Below.alloc ?_ (by first | (simp; done) | (simp; omega)) _ | with_reducible refine Below.drew ?_)
                have hbX := hbX0.drew
                obtain ⟨v', W2, hrun, ro, rg, rap⟩ := append_apart (ty := 25) (row_keptAll rWh.out hbX) ⟨Wi.heap.size, 0, none⟩ 1 ((At.new Wi #[.int .i64 ((p : Int) + (s.size : Int))] 3).cell 0) rfl hlw.out (Nat.le_trans BW.size hbX.size)
                obtain ⟨so', c', rfl⟩ := rowI_slice8 ro
                have hblk : Hid (∀ b, b < Wi.heap.size → v.ownBlock ≠ some b → W2.heap[b]? = Wi.heap[b]?) := fun b hb hne => (rg.block b (Nat.lt_of_lt_of_le hb hbX.size) (fun e => hne e.symm)).trans (hbX.block b hb)
                have hrunD := hid hrun
                have rg' := hid rg
                have ro' := hid ro
                have rap' := hid rap
                have hS0 : Wi.drew.cell? ⟨g, i, none⟩ = some (.int .i64 (p : Int)) ∧ Wi.drew.cell? ⟨w.heap.size, 0, none⟩ = some (.string s) := ⟨cg, cs⟩
                have hS1 := hid (show (Wi.alloc (.cells #[.int .i64 ((p : Int) + (s.size : Int))] 3)).drew.cell? ⟨g, i, none⟩ = some (.int .i64 (p : Int)) ∧ (Wi.alloc (.cells #[.int .i64 ((p : Int) + (s.size : Int))] 3)).drew.cell? ⟨w.heap.size, 0, none⟩ = some (.string s) from ⟨cellJ cg hbX, cellJ cs hbX⟩)
                have hgv := hid (hvg'.out g rfl)
                have hsv := hid (Lib.ownBlock_ne rWh.out sWh.out (by decide))
                have hS2 := hid (show W2.cell? ⟨g, i, none⟩ = some (.int .i64 (p : Int)) ∧ W2.cell? ⟨w.heap.size, 0, none⟩ = some (.string s) from ⟨rg.cell hS1.out.1 (fun e => hgv.out e.symm), rg.cell hS1.out.2 (fun e => hsv.out e.symm)⟩)
                clear hrun rg ro rap hbX0
                gi_wp2_with fail
                rename_i K18 hK18
                refine wpIn_wide.2 ?_
                refine wp_region_held_only (S := fun W' => W'.cell? ⟨g, i, none⟩ = some (.int .i64 (p : Int)) ∧ W'.cell? ⟨w.heap.size, 0, none⟩ = some (.string s)) (by kernel_rfl) hS0 (fun hHeld => ?_)
                (refine' wpAnyH_take (i := 0) rfl (by kernel_rfl) (by kernel_rfl) (by kernel_rfl) (fun _ _ _ h => h) (Or.inl ⟨by rfl, ?_⟩) (by assumption) ?_; rotate_left; (· (intro wq hq; (try dsimp only at hq); go_simp; first | done | with_reducible rfl)); simp only [Act.put, List.getElem_toArray, List.getElem_cons_zero, List.setIfInBounds_toArray, List.set_cons_zero, List.set_cons_succ])
                (refine' wpAnyH_take (i := 1) rfl (by kernel_rfl) (by kernel_rfl) (by kernel_rfl) (fun _ _ _ h => h) (Or.inl ⟨by rfl, ?_⟩) (by assumption) ?_; rotate_left; (· (intro wq hq; (try dsimp only at hq); go_simp; first | done | with_reducible rfl)); simp only [Act.put, List.getElem_toArray, List.getElem_cons_zero, List.getElem_cons_succ, List.setIfInBounds_toArray, List.set_cons_zero, List.set_cons_succ])
                (refine' wpAnyH_take (i := 2) rfl (by kernel_rfl) (by kernel_rfl) (by kernel_rfl) (fun _ _ _ h => h) (Or.inl ⟨by rfl, ?_⟩) (by assumption) ?_; rotate_left; (· (intro wq hq; (try dsimp only at hq); go_simp; first | done | with_reducible rfl)); simp only [Act.put, List.getElem_toArray, List.getElem_cons_zero, List.getElem_cons_succ, List.setIfInBounds_toArray, List.set_cons_zero, List.set_cons_succ])
                (refine' wpAnyH_take (i := 3) rfl (by kernel_rfl) (by kernel_rfl) (by kernel_rfl) (fun _ _ _ h => h) (Or.inl ⟨by rfl, ?_⟩) (by assumption) ?_; rotate_left; (· (intro wq hq; (try dsimp only at hq); go_simp; first | done | with_reducible rfl)); simp only [Act.put, List.getElem_toArray, List.getElem_cons_zero, List.getElem_cons_succ, List.setIfInBounds_toArray, List.set_cons_zero, List.set_cons_succ])
                (refine' wpAnyH_take (i := 4) rfl (by kernel_rfl) (by kernel_rfl) (by kernel_rfl) (fun _ _ _ h => h) (Or.inl ⟨by rfl, ?_⟩) (by assumption) ?_; rotate_left; (· (intro wq hq; (try dsimp only at hq); go_simp; first | done | with_reducible rfl)); simp only [Act.put, List.getElem_toArray, List.getElem_cons_zero, List.getElem_cons_succ, List.setIfInBounds_toArray, List.set_cons_zero, List.set_cons_succ])
                (refine' wpAnyH_take (i := 5) rfl (by kernel_rfl) (by kernel_rfl) (by kernel_rfl) (fun _ _ _ h => h) (Or.inl ⟨by rfl, ?_⟩) (by assumption) ?_; rotate_left; (· (intro wq hq; (try dsimp only at hq); go_simp; first | done | with_reducible rfl)); simp only [Act.put, List.getElem_toArray, List.getElem_cons_zero, List.getElem_cons_succ, List.setIfInBounds_toArray, List.set_cons_zero, List.set_cons_succ])
                (refine' wpAnyH_take (i := 6) rfl (by kernel_rfl) (by kernel_rfl) (by kernel_rfl) (fun _ _ _ h => h) (Or.inl ⟨by rfl, ?_⟩) (by assumption) ?_; rotate_left; (· (intro wq hq; (try dsimp only at hq); go_simp; first | done | with_reducible rfl)); simp only [Act.put, List.getElem_toArray, List.getElem_cons_zero, List.getElem_cons_succ, List.setIfInBounds_toArray, List.set_cons_zero, List.set_cons_succ])
                (refine' wpAnyH_take (i := 7) rfl (by kernel_rfl) (by kernel_rfl) (by kernel_rfl) (fun _ _ _ h => h) (Or.inl ⟨by rfl, ?_⟩) (by assumption) ?_; rotate_left; (· (intro wq hq; (try dsimp only at hq); go_simp; first | done | with_reducible rfl)); simp only [Act.put, List.getElem_toArray, List.getElem_cons_zero, List.getElem_cons_succ, List.setIfInBounds_toArray, List.set_cons_zero, List.set_cons_succ])
                refine wpAnyH_ready (rs := [8]) (by kernel_rfl) (by simp) ?_
                refine AllReadyH.cons rfl (fun K hK => ?_) ?_
                rotate_left
                · exact AllReadyH.nil
                go_simp
                refine hK.out _ _ hS1.out (fun hH1 => ?_)
                clear hK hHeld
                refine wpAnyH_ready (rs := [9]) (by kernel_rfl) (by simp) ?_
                refine AllReadyH.cons rfl (fun K hK => ?_) ?_
                rotate_left
                · exact AllReadyH.nil
                rw [if_pos (by rfl)]
                refine wp_append_rowI rfl rfl rfl hrunD.out ?_
                refine hK.out _ _ hS2.out (fun hH2 => ?_)
                clear hK
                (refine' wpAnyH_take (i := 10) rfl (by kernel_rfl) (by kernel_rfl) (by kernel_rfl) (fun _ _ _ h => h) (Or.inl ⟨by rfl, ?_⟩) (by assumption) ?_; rotate_left; (· (intro wq hq; (try dsimp only at hq); go_simp; first | done | with_reducible rfl)); simp only [Act.put, List.getElem_toArray, List.getElem_cons_zero, List.getElem_cons_succ, List.setIfInBounds_toArray, List.set_cons_zero, List.set_cons_succ])
                refine wpAnyH_done (by kernel_rfl) ?_ _
                refine hK18 _ _ ?_
                clear hK18
                gi_wp2
                try simp only [ewi.out]
                have kv : v.ownBlock ≠ some D := fun e => by
                  rcases rowI_block rWh.out with h | ⟨g', cur', h1, _, h3⟩
                  · rw [h] at e; cases e
                  · rw [h1] at e; cases e; rw [kWh.out] at h3; cases h3
                have lv := Lib.ownBlock_ne rWh.out lWh.out (by decide)
                have hB2 : Below w.heap.size w W2 := Below.grown (BW.trans (hbX.mono BW.size)) rg'.out (Nat.le_trans BW.size hbX.size) (fun j hj => (rWh.out.lt j hj).1)
                refine ⟨⟨i + 1, .slice so' ((wnt s t i).length + 1) c', _, _, _, _, _, _, _, _, _, _, _, _, _, _, _, _, _, _, _, _, _, _, _, _, _, _, _, _, _, rfl, hlt, ?_, ?_, ?_, (hblk.out _ lWh.out.lt lv).trans lWh.out, (hblk.out _ sWh.out.lt hsv.out).trans sWh.out, hB2, (hblk.out D (Array.getElem?_eq_some_iff.1 kWh.out).1 kv).trans kWh.out⟩, ?_⟩
                · rw [hnx.out, List.length_append, List.length_singleton, show ints (wnt s t i ++ [p + s.size]) = ints (wnt s t i) ++ [.int .i64 ((p : Int) + (s.size : Int))] from by simp [ints]]
                  exact ro'.out
                · intro j q hj
                  obtain ⟨g', e, hl, hc⟩ := iWh.out j q hj
                  cases e
                  exact ⟨g, rfl, Nat.lt_of_lt_of_le hl (Nat.le_trans hbX.size rg'.out.size), rg'.out.cell (cellJ hc hbX) (fun e => hgv.out e.symm)⟩
                · intro g' e h
                  cases e
                  rcases rap'.out with h1 | ⟨gn, h1, h2⟩
                  · exact hgv.out (h1.symm.trans h)
                  · rw [h1] at h
                    cases h
                    exact absurd hgl (Nat.not_lt.2 (Nat.le_trans hbX.size h2))
                · clear ewp
                  have hq := measJ hlt
                  clear rWh iWh lWh sWh kWh hblk ro' rg' rap' hrunD
                  first | (simpa [intOf] using hq) | (simp [intOf]; omega)
          · obtain rfl : i = NT := by omega
            rw [← hNT.out, wnt_all s t hH.out hO.out] at rW
            have rWh := hid rW
            have kWh := hid kW
            have cs := sW.cell 0
            simp only [List.getElem?_toArray, List.getElem?_cons_zero] at cs
            obtain ⟨so, sc, rfl⟩ := rowI_slice8 rW
            have hix := hid (index8_calls (s ++ t) (by rw [size_join8]; omega) Wi (hTb.out _ BW) (hMb.out _ BW) (hz.out _ BW))
            clear rW kW iW lW sW hvg
            gi_wp2_with fail
            refine ⟨trivial, ?_⟩
            refine (callsIn_wide.2 hix.out).mono ?_
            rintro e w9 ⟨v9, rfl, hr9, hb9⟩
            obtain ⟨ao9, cap9, rfl, hi9⟩ := ints_row hr9
            have rW9 := row_keptAll rWh.out hb9
            obtain ⟨so9, sc9, e9, hj9⟩ := ints_row rW9
            cases e9
            have k9 := (hb9.block D (Array.getElem?_eq_some_iff.1 kWh.out).1).trans kWh.out
            have B9 := BW.trans (hb9.mono BW.size)
            have hsm := hid (sameI_calls (idxS (s ++ t)) _ rfl (by have := idxTo_len (s ++ t) (s ++ t).size; rw [size_join8] at this; unfold idxS; rw [size_join8]; omega) ao9 so cap9 sc w9 hi9 hj9)
            clear hr9 hi9 rW9 hj9 hix rWh kWh hb9
            gi_wp2_with fail
            refine ⟨trivial, ?_⟩
            refine (callsIn_wide.2 hsm.out).mono ?_
            rintro e w10 ⟨rfl, hb10⟩
            have k10 := (hb10.block D (Array.getElem?_eq_some_iff.1 k9).1).trans k9
            have B10 := B9.trans (hb10.mono B9.size)
            clear hsm k9 B9 hb10
            gi_wp2
            refine ⟨by simp, .inl ⟨_, _, rfl, run_takeDeferred k10, ?_⟩⟩
            refine ⟨.bool true, ?_, rfl, B10.trans (belowK_b (w := w) (Nat.le_refl _) w10 D _ _ (by have := B8.size; omega) k10 rfl rfl)⟩
            simp [results, Tryd.f3, go_sem]
      · exact absurd hn.out hn0
end Go.Proofs.YtmgbgphlkhkldabDoor
