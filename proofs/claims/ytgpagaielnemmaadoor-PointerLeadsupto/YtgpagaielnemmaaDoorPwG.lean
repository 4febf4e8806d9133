/-
 The law PointerLeads, walked (by gen_pwg.py).
-/
import Derived.Test.YtgpagaielnemmaaDoorPwF
import Derived.Test.YtgpagaielnemmaaDoorTpN
namespace Go.Proofs.YtgpagaielnemmaaDoor
open Go.RowKit Go.Shelf
attribute [local go_sem] Oper.semAt_some
set_option maxRecDepth 100000 in
set_option maxHeartbeats 16000000 in
theorem leads_in (ta : Vt) (hbl : blkV ta ≤ 1048576) (v0 : Value) (l m : List UInt8) (hl : l.length ≤ 1048576) (hm : m.length ≤ 1048576) (w : World) (hP : PowT w) (hT : TabU w) (hM : MxI w) (ha : ValAt w ta v0) :
  CallsIn Fence.wide 4 Tryd.prog 3 #[v0, .string (mkL l), .string (mkL m)] w fun e w' => e = .returned (.bool true) ∧ Below w.heap.size w w' := by
 obtain ⟨k1, b1, r1, t1, ko1, N1, kc1, vo1, M1, vc1, rfl⟩ := ha.lets
 have c0 := hid (fun (u : World) (h : TabU u) => awake20_calls u h)
 obtain ⟨P0, hP0⟩ : ∃ B, Hid (byd ta = B) := ⟨_, rfl⟩
 have q0 := hid (fun u hu => beyond_calls ta P0 hP0 (.agg #[.int .i64 k1, .bool b1, .string r1, .string t1, .slice ko1 N1 kc1, .slice vo1 M1 vc1]) u hu)
 have ha' := hid ha
 have hT' := hid hT
 have hP' := hid hP
 have hM' := hid hM
 have A1 := hid (At.new w #[.int .i64 k1, .bool b1, .string r1, .string t1, .slice ko1 N1 kc1, .slice vo1 M1 vc1] 25)
 have hal2 := hid (show Below w.heap.size w ((w.alloc (.cells #[.int .i64 k1, .bool b1, .string r1, .string t1, .slice ko1 N1 kc1, .slice vo1 M1 vc1] 25)).alloc (.cells #[.bool false] 4)) by repeat (first | with_reducible exact Below.refl _ _ | with_reducible refine Below.setCell ?_ (by first | (simp; done) | (simp; omega)) _ | with_reducible refine below_drewN ?_ _ | with_reducible refine Below.alloc ?_ (by first | (simp; done) | (simp; omega)) _ | with_reducible refine Below.drew ?_))
 have A2 := hid (A1.out.alloc (.cells #[.bool false] 4))
 have D2 : Hid (At ((w.alloc (.cells #[.int .i64 k1, .bool b1, .string r1, .string t1, .slice ko1 N1 kc1, .slice vo1 M1 vc1] 25)).alloc (.cells #[.bool false] 4)) (w.heap.size + 1) #[.bool false] 4) := by
  have h := At.new (w.alloc (.cells #[.int .i64 k1, .bool b1, .string r1, .string t1, .slice ko1 N1 kc1, .slice vo1 M1 vc1] 25)) #[.bool false] 4
  rw [World.size_alloc] at h
  exact h
 generalize hW2 : (w.alloc (.cells #[.int .i64 k1, .bool b1, .string r1, .string t1, .slice ko1 N1 kc1, .slice vo1 M1 vc1] 25)).alloc (.cells #[.bool false] 4) = W2 at hal2 A2 D2
 have B2 := hal2
 clear hal2 A1 ha hT hP hM
 refine callsIn_of_wp_marks Tryd.func3 rfl trivial ?_ rfl
 simp only [Tryd.ntmps3, List.size_toArray, List.length_cons, List.length_nil, Nat.reduceAdd, Nat.reduceSub, Array.replicate_succ, Array.replicate_zero, List.push_toArray, List.append_toArray, List.nil_append, List.cons_append]
 gi_wp2_with fail
 refine ⟨trivial, ?_⟩
 refine (callsIn_wide.2 (c0.out _ (hT'.out.below B2.out))).mono ?_
 rintro e W3 ⟨rfl, bq⟩
 have A3 := hid (A2.out.keptAll bq)
 have D3 := hid (D2.out.keptAll bq)
 have B3 := hid (B2.out.trans (bq.mono B2.out.size))
 clear bq c0 A2 D2 B2 hW2
 gi_wp2_with (first | refine wpListIn_load_want 25 _ w.heap.size 0 [.int .i64 k1, .bool b1, .string r1, .string t1, .slice ko1 N1 kc1, .slice vo1 M1 vc1] _ (A3.out.range rfl) Tryd.underlying25 sizeVl rfl rfl rfl (by rfl) ?_ | fail)
 refine ⟨trivial, ?_⟩
 refine (callsIn_wide.2 (q0.out _ (ha'.out.kept B3.out))).mono ?_
 rintro e W4 ⟨rfl, bq⟩
 have A4 := hid (A3.out.keptAll bq)
 have D4 := hid (D3.out.keptAll bq)
 have B4 := hid (B3.out.trans (bq.mono B3.out.size))
 clear bq q0 A3 D3 B3
 cases P0 with
 | true =>
  have d0 : W4.cell? ⟨w.heap.size + 1, 0, none⟩ = some (.bool false) := D4.out.cell 0
  have f0 : W4.frozen? ⟨w.heap.size + 1, 0, none⟩ = false := D4.out.frozen 0
  gi_wp2
  have hc := World.cell?_setCell_same' W4 ⟨w.heap.size + 1, 0, none⟩ (.bool true) (by rw [d0]; rfl)
  refine ⟨.bool true, ?_, rfl, B4.out.setCell (p := ⟨w.heap.size + 1, 0, none⟩) (by show w.heap.size ≤ w.heap.size + 1; omega) _⟩
  simp [results, Tryd.f3, go_sem, hc]
 | false =>
  have hln := hid (byd_ln hP0.out)
  have fA := hid (fun u h1 h2 => find_calls ta hln.out l (by omega) (.agg #[.int .i64 k1, .bool b1, .string r1, .string t1, .slice ko1 N1 kc1, .slice vo1 M1 vc1]) u h1 h2)
  rcases fd_cases ta l with ⟨x, e1, hwf⟩ | ⟨e1, hwf⟩ | ⟨e1, hwf⟩ | ⟨e1, hwf⟩
  ·rw [e1] at fA
   gi_wp2_with (first | refine wpListIn_load_want 25 _ w.heap.size 0 [.int .i64 k1, .bool b1, .string r1, .string t1, .slice ko1 N1 kc1, .slice vo1 M1 vc1] _ (A4.out.range rfl) Tryd.underlying25 sizeVl rfl rfl rfl (by rfl) ?_ | fail)
   refine ⟨trivial, ?_⟩
   refine (callsIn_wide.2 (fA.out _ (hT'.out.below B4.out) (ha'.out.kept B4.out))).mono ?_
   rintro e W5 ⟨x5, rfl, v5, bq⟩
   obtain ⟨k2, b2, r2, t2, ko2, N2, kc2, vo2, M2, vc2, rfl⟩ := v5.at.lets
   have A5 := hid (A4.out.keptAll bq)
   have D5 := hid (D4.out.keptAll bq)
   have B5 := hid (B4.out.trans (bq.mono B4.out.size))
   have V5 := hid v5.at
   clear bq v5 fA A4 D4 B4
   have al := hid (show Below W5.heap.size W5 (W5.alloc (.cells #[.int .i64 k2, .bool b2, .string r2, .string t2, .slice ko2 N2 kc2, .slice vo2 M2 vc2] 25)) from (Below.refl _ _).alloc (Nat.le_refl _) _)
   have A6 := hid (A5.out.keptAll al.out)
   have D6 := hid (D5.out.keptAll al.out)
   have B6 := hid (B5.out.trans (al.out.mono B5.out.size))
   have V6 := hid (V5.out.kept al.out)
   have X6 := hid (At.new W5 #[.int .i64 k2, .bool b2, .string r2, .string t2, .slice ko2 N2 kc2, .slice vo2 M2 vc2] 25)
   generalize hW6 : W5.alloc (.cells #[.int .i64 k2, .bool b2, .string r2, .string t2, .slice ko2 N2 kc2, .slice vo2 M2 vc2] 25) = W6 at al A6 D6 B6 V6 X6
   clear al A5 D5 B5 V5
   have hlx := hid (fd_ln hln.out e1)
   have fB := hid (fun u h1 h2 => find_calls x hlx.out m (by omega) (.agg #[.int .i64 k2, .bool b2, .string r2, .string t2, .slice ko2 N2 kc2, .slice vo2 M2 vc2]) u h1 h2)
   have fC := hid (fun u h1 h2 => find_calls ta hln.out (l ++ m) (by rw [List.length_append]; omega) (.agg #[.int .i64 k1, .bool b1, .string r1, .string t1, .slice ko1 N1 kc1, .slice vo1 M1 vc1]) u h1 h2)
   have hadd : ∀ u : World, (Op.stringOp .add (mkL l) (mkL m)).run Tryd.prog u = .ok (.string (mkL (l ++ m))) u := add_run (by omega)
   have hbh := hid (fd_behind (m := m) e1)
   gi_wp2_with (first | refine wpListIn_load_want 25 _ W5.heap.size 0 [.int .i64 k2, .bool b2, .string r2, .string t2, .slice ko2 N2 kc2, .slice vo2 M2 vc2] _ (X6.out.range rfl) Tryd.underlying25 sizeVl rfl rfl rfl (by rfl) ?_ | fail)
   refine ⟨trivial, ?_⟩
   refine (callsIn_wide.2 (fB.out _ (hT'.out.below B6.out) V6.out)).mono ?_
   rintro e W7 ⟨x7, rfl, v7, bq⟩
   obtain ⟨k3, b3, r3, t3, ko3, N3, kc3, vo3, M3, vc3, rfl⟩ := v7.at.lets
   have A7 := hid (A6.out.keptAll bq)
   have D7 := hid (D6.out.keptAll bq)
   have B7 := hid (B6.out.trans (bq.mono B6.out.size))
   have V7 := hid v7.at
   clear bq v7 fB A6 D6 B6 V6 X6 hW6
   have al := hid (show Below W7.heap.size W7 (W7.alloc (.cells #[.int .i64 k3, .bool b3, .string r3, .string t3, .slice ko3 N3 kc3, .slice vo3 M3 vc3] 25)) from (Below.refl _ _).alloc (Nat.le_refl _) _)
   have A8 := hid (A7.out.keptAll al.out)
   have D8 := hid (D7.out.keptAll al.out)
   have B8 := hid (B7.out.trans (al.out.mono B7.out.size))
   have V8 := hid (V7.out.kept al.out)
   have X8 := hid (At.new W7 #[.int .i64 k3, .bool b3, .string r3, .string t3, .slice ko3 N3 kc3, .slice vo3 M3 vc3] 25)
   generalize hW8 : W7.alloc (.cells #[.int .i64 k3, .bool b3, .string r3, .string t3, .slice ko3 N3 kc3, .slice vo3 M3 vc3] 25) = W8 at al A8 D8 B8 V8 X8
   clear al A7 D7 B7 V7
   gi_wp2_with (first | refine wpListIn_load_want 25 _ w.heap.size 0 [.int .i64 k1, .bool b1, .string r1, .string t1, .slice ko1 N1 kc1, .slice vo1 M1 vc1] _ (A8.out.range rfl) Tryd.underlying25 sizeVl rfl rfl rfl (by rfl) ?_ | fail)
   refine ⟨trivial, ?_⟩
   refine (callsIn_wide.2 (fC.out _ (hT'.out.below B8.out) (ha'.out.kept B8.out))).mono ?_
   rintro e W9 ⟨x9, rfl, v9, bq⟩
   obtain ⟨k4, b4, r4, t4, ko4, N4, kc4, vo4, M4, vc4, rfl⟩ := v9.at.lets
   have A9 := hid (A8.out.keptAll bq)
   have D9 := hid (D8.out.keptAll bq)
   have B9 := hid (B8.out.trans (bq.mono B8.out.size))
   have V9 := hid (V8.out.kept bq)
   have X9 := hid (X8.out.keptAll bq)
   have U9 := hid v9.at
   clear bq v9 fC A8 D8 B8 V8 X8 hW8
   have al := hid (show Below W9.heap.size W9 (W9.alloc (.cells #[.int .i64 k4, .bool b4, .string r4, .string t4, .slice ko4 N4 kc4, .slice vo4 M4 vc4] 25)) from (Below.refl _ _).alloc (Nat.le_refl _) _)
   have A10 := hid (A9.out.keptAll al.out)
   have D10 := hid (D9.out.keptAll al.out)
   have B10 := hid (B9.out.trans (al.out.mono B9.out.size))
   have V10 := hid (V9.out.kept al.out)
   have U10 := hid (U9.out.kept al.out)
   have X10 := hid (X9.out.keptAll al.out)
   have Y10 := hid (At.new W9 #[.int .i64 k4, .bool b4, .string r4, .string t4, .slice ko4 N4 kc4, .slice vo4 M4 vc4] 25)
   generalize hW10 : W9.alloc (.cells #[.int .i64 k4, .bool b4, .string r4, .string t4, .slice ko4 N4 kc4, .slice vo4 M4 vc4] 25) = W10 at al A10 D10 B10 V10 U10 X10 Y10
   clear al A9 D9 B9 V9 U9 X9
   rcases hbh.out with h200 | ⟨y, By, h1, h2⟩
   ·rw [h200]
    clear hbh V10 U10 X10 Y10
    gi_wp2_with fail
    all_goals (try (exfalso; exact undef_boolW (by assumption)))
    refine ⟨trivial, ?_⟩
    clear hW10
    have tw := hid (fun u h => twice_ex _ ta (Nat.le_refl _) (.agg #[.int .i64 k1, .bool b1, .string r1, .string t1, .slice ko1 N1 kc1, .slice vo1 M1 vc1]) u h)
    gi_wp2_with (first | refine wpListIn_load_want 25 _ w.heap.size 0 [.int .i64 k1, .bool b1, .string r1, .string t1, .slice ko1 N1 kc1, .slice vo1 M1 vc1] _ (A10.out.range rfl) Tryd.underlying25 sizeVl rfl rfl rfl (by rfl) ?_ | fail)
    refine ⟨trivial, ?_⟩
    refine (callsIn_wide.2 (tw.out _ (ha'.out.kept B10.out))).mono ?_
    rintro e W20 ⟨Bq, rfl, hBq, bq⟩
    have A20 := hid (A10.out.keptAll bq)
    have D20 := hid (D10.out.keptAll bq)
    have B20 := hid (B10.out.trans (bq.mono B10.out.size))
    clear bq tw A10 D10 B10
    cases Bq with
    | true =>
     have d0 : W20.cell? ⟨w.heap.size + 1, 0, none⟩ = some (.bool false) := D20.out.cell 0
     have f0 : W20.frozen? ⟨w.heap.size + 1, 0, none⟩ = false := D20.out.frozen 0
     gi_wp2
     have hc := World.cell?_setCell_same' W20 ⟨w.heap.size + 1, 0, none⟩ (.bool true) (by rw [d0]; rfl)
     refine ⟨.bool true, ?_, rfl, B20.out.setCell (p := ⟨w.heap.size + 1, 0, none⟩) (by show w.heap.size ≤ w.heap.size + 1; omega) _⟩
     simp [results, Tryd.f3, go_sem, hc]
    | false =>
     have hno := hid (hBq.out rfl)
     have al := hid (show Below W20.heap.size W20 (W20.alloc (.cells #[.int .i64 0] 3)) from (Below.refl _ _).alloc (Nat.le_refl _) _)
     have A21 := hid (A20.out.keptAll al.out)
     have D21 := hid (D20.out.keptAll al.out)
     have B21 := hid (B20.out.trans (al.out.mono B20.out.size))
     have N21 := hid (At.new W20 #[.int .i64 0] 3)
     have s21 : Hid ((W20.alloc (.cells #[.int .i64 0] 3)).heap.size = W20.heap.size + 1) := World.size_alloc _ _
     have l20 := hid D20.out.lt
     clear al A20 D20 B20 hBq
     have wk := hid (walkF_calls ta (hid hwf) hln.out k1 b1 r1 t1 ko1 N1 kc1 vo1 M1 vc1 (W20.alloc (.cells #[.int .i64 0] 3)) (hid (hT'.out.below B21.out)) (hid (ha'.out.kept B21.out)))
     gi_wp2_with (first | refine wpListIn_load_want 25 _ w.heap.size 0 [.int .i64 k1, .bool b1, .string r1, .string t1, .slice ko1 N1 kc1, .slice vo1 M1 vc1] _ (A21.out.range rfl) Tryd.underlying25 sizeVl rfl rfl rfl (by rfl) ?_ | fail)
     refine ⟨trivial, ?_⟩
     refine (callsIn_wide.2 wk.out).mono ?_
     rintro e W22 ⟨Bk, ck, rfl, hBk, hAK, hVK, bq⟩
     have A22 := hid (A21.out.keptAll bq)
     have D22 := hid (D21.out.keptAll bq)
     have N22 := hid (N21.out.keptAll bq)
     have B22 := hid (B21.out.trans (bq.mono B21.out.size))
     have s22 := hid bq.size
     have hseq := hid (walk2_tell (fun b => W20.heap.size + 1 ≤ b ∧ b < W22.heap.size) (4 - 1) ta hln.out (okP_of ta 1024 hwf hbl hln.out) (fun x hx => by have := prV_bound ta [] x hln.out hx; simp only [List.length_nil] at this; omega) Bk ck W22 hAK (hVK.mono (fun c hl hc => ⟨by have h : (W20.alloc (.cells #[.int .i64 0] 3)).heap.size ≤ c := hc; rw [s21.out] at h; exact h, hl⟩)))
     have hlw : w.heap.size + 1 < W22.heap.size := by have := l20.out; have := s21.out; have := s22.out; omega
     have hlnb : W20.heap.size < W22.heap.size := by have := s21.out; have := s22.out; omega
     have hfd := hid (fun (x : List UInt8 × Vt) (hx : x ∈ prV [] ta) (u : World) (h1 : TabU u) (h2 : ValAt u ta (.agg #[.int .i64 k1, .bool b1, .string r1, .string t1, .slice ko1 N1 kc1, .slice vo1 M1 vc1])) => find_calls ta hln.out x.1 (by have := prV_bound ta [] x hln.out hx; simp only [List.length_nil] at this; omega) (.agg #[.int .i64 k1, .bool b1, .string r1, .string t1, .slice ko1 N1 kc1, .slice vo1 M1 vc1]) u h1 h2)
     have hfp := hid (fun (x : List UInt8 × Vt) (hx : x ∈ prV [] ta) => fd_part hwf hno.out hln.out hx)
     have hcv := hid (fun u h => cntP_ex _ ta (Nat.le_refl _) (by have := cnt_blk ta; omega) (.agg #[.int .i64 k1, .bool b1, .string r1, .string t1, .slice ko1 N1 kc1, .slice vo1 M1 vc1]) u h)
     have hgt : Hid (w.heap.size + 1 < W20.heap.size) := l20
     clear bq hAK hVK wk A21 D21 N21 s21 B21
     have hnf : ∀ (f : Fn) (a b : Array Value) (w : World), Sem.run Tryd.prog (binOp BinOp.eql 33 (.func f a b) .nilFunc) w = .ok (.bool false) w := fun _ _ _ _ => by rfl
     gi_wp2_with fail
     refine range_tellY (n := 4) (by decide) (gf := 31) (lb := #[.pointer (some ⟨Bk, 0, none⟩)]) rfl (enters_of Tryd.func31 (by kernel_rfl) rfl)
      hseq.out (Below.refl _ _) ?ps KpS.trans (fun W l r r' h1 h2 h3 => KpS.putLoop _ (by intro h; have := h.2; omega) h2)
      (LdI w #[.int .i64 k1, .bool b1, .string r1, .string t1, .slice ko1 N1 kc1, .slice vo1 M1 vc1] W20.heap.size W22.heap.size) (LdX w W22.heap.size) (ldI_free hlw hlnb) (fun c => ldX_free hlw c) (fun r W h => h.1.2.2.2.2) (fun c r W h => h.2.2.2)
      ⟨⟨Nat.zero_le _, A22.out, D22.out, N22.out, Nat.le_refl _⟩, B22.out⟩ (fun r W h => ⟨hP'.out.kept h.2, hM'.out.kept h.2⟩) (LdY (prV [] ta) W22.heap.size) LdG (fun r y => ldY_own r y) ?assign ?body ?done ?stop
     case ps =>
      rintro b r x W ⟨p, t, v, -, rfl, -⟩
      rfl
     case assign =>
      intro l r x W K hlt hI hE hK
      obtain ⟨p, t, v, hL, rfl, hv⟩ := hE
      obtain ⟨k5, b5, r5, t5, ko5, N5, kc5, vo5, M5, vc5, rfl⟩ := hv.at.lets
      have hb : Below W.heap.size W (W.alloc (.cells #[.int .i64 k5, .bool b5, .string r5, .string t5, .slice ko5 N5 kc5, .slice vo5 M5 vc5] 25)) := (Below.refl _ _).alloc (Nat.le_refl _) _
      have hK2 := hK (p, W.heap.size, #[.int .i64 k5, .bool b5, .string r5, .string t5, .slice ko5 N5 kc5, .slice vo5 M5 vc5]) (W.alloc (.cells #[.int .i64 k5, .bool b5, .string r5, .string t5, .slice ko5 N5 kc5, .slice vo5 M5 vc5] 25)) ((keeps_below hb).from _) (KpS.below hb) (ldI_free hlw hlnb r _ _ hI (hb.mono hI.1.2.2.2.2)) ⟨t, hL, hI.1.2.2.2.2, At.new W _ _, hv.at.kept hb⟩
      simp only [LdG, List.setIfInBounds_toArray, List.set_cons_zero, List.set_cons_succ] at hK2
      clear hK hI hv hb
      gi_wp2
      exact hK2
     case body =>
      rintro l r ⟨p, q, c5⟩ W hll hloop hlt ⟨⟨h5, hA, hD, hN, hG⟩, hB⟩ ⟨t, hL, hq, hQ, hV⟩
      dsimp only at hL hq hQ hV
      obtain ⟨k5, b5, r5, t5, ko5, N5, kc5, vo5, M5, vc5, he⟩ := hV.lets
      injection he with he
      subst he
      simp only [LdG, List.setIfInBounds_toArray, List.set_cons_zero, List.set_cons_succ]
      have nc : W.cell? ⟨W20.heap.size, 0, none⟩ = some (.int .i64 (r : Int)) := hN.cell 0
      have fc : W.frozen? ⟨W20.heap.size, 0, none⟩ = false := hN.frozen 0
      have hA' := hid hA
      have hD' := hid hD
      have hN' := hid hN
      have hB' := hid hB
      have hQ' := hid hQ
      have hV' := hid hV
      have hG' := hid hG
      have hx := hid (List.mem_of_getElem? hL)
      have fP := hid (hfd.out (p, t) hx.out)
      rw [hfp.out (p, t) hx.out] at fP
      have dc : W.cell? ⟨w.heap.size + 1, 0, none⟩ = some (.bool false) := hD.cell 0
      have df : W.frozen? ⟨w.heap.size + 1, 0, none⟩ = false := hD.frozen 0
      clear hA hD hN hB hQ hV hL
      by_cases h500 : r = 500
      ·subst h500
       have e5 : (((500 : Nat) : Int) == 500) = true := rfl
       gi_wp2
       exact ⟨(KeepsOthers.setCell _ _ _).from _, KpS.set _ (by intro h; have := h.1; have := hgt.out; omega) (by omega), rfl, at_setW hD'.out (.bool true), hB'.out.setCell (p := ⟨w.heap.size + 1, 0, none⟩) (by show w.heap.size ≤ w.heap.size + 1; omega) _, Nat.le_trans hG'.out (KeepsOthers.setCell _ _ _).1⟩
      ·have e5 : ((r : Int) == 500) = false := by rw [beq_eq_false_iff_ne]; omega
       have hr5 := hid (show r + 1 ≤ 500 by omega)
       clear h500 h5
       gi_wp2_with (first | refine wpListIn_load_want 25 _ w.heap.size 0 [.int .i64 k1, .bool b1, .string r1, .string t1, .slice ko1 N1 kc1, .slice vo1 M1 vc1] _ (hA'.out.range rfl) Tryd.underlying25 sizeVl rfl rfl rfl (by rfl) ?_ | fail)
       refine ⟨trivial, ?_⟩
       refine (CallsIn.inRound l (callsIn_wide.2 (fP.out _ (hT'.out.below hB'.out) (ha'.out.kept hB'.out)))).mono ?_
       rintro e W30 ⟨x5, rfl, v5, bq⟩
       obtain ⟨k6, b6, r6, t6, ko6, N6, kc6, vo6, M6, vc6, rfl⟩ := v5.at.lets
       have al := hid (show Below W30.heap.size W30 (W30.alloc (.cells #[.int .i64 k6, .bool b6, .string r6, .string t6, .slice ko6 N6 kc6, .slice vo6 M6 vc6] 25)) from (Below.refl _ _).alloc (Nat.le_refl _) _)
       have bb := hid (bq.trans (al.out.mono bq.size))
       have Q31 := hid (hQ'.out.keptAll bb.out)
       have V31 := hid (hV'.out.kept bb.out)
       have X31 := hid (At.new W30 #[.int .i64 k6, .bool b6, .string r6, .string t6, .slice ko6 N6 kc6, .slice vo6 M6 vc6] 25)
       have U31 := hid (v5.at.kept al.out)
       clear bq v5 fP nc fc dc df
       generalize hW31 : W30.alloc (.cells #[.int .i64 k6, .bool b6, .string r6, .string t6, .slice ko6 N6 kc6, .slice vo6 M6 vc6] 25) = W31 at al bb Q31 V31 X31 U31
       have sm := hid (sameV_calls t t (.agg #[.int .i64 k6, .bool b6, .string r6, .string t6, .slice ko6 N6 kc6, .slice vo6 M6 vc6]) (.agg #[.int .i64 k5, .bool b5, .string r5, .string t5, .slice ko5 N5 kc5, .slice vo5 M5 vc5]) true (hid ⟨fun _ => rfl, fun _ => rfl⟩) W31 U31.out V31.out)
       gi_wp2_with (first | refine wpListIn_load_want 25 _ W30.heap.size 0 [.int .i64 k6, .bool b6, .string r6, .string t6, .slice ko6 N6 kc6, .slice vo6 M6 vc6] _ (X31.out.range rfl) Tryd.underlying25 sizeVl rfl rfl rfl (by rfl) ?_ | refine wpListIn_load_want 25 _ q 0 [.int .i64 k5, .bool b5, .string r5, .string t5, .slice ko5 N5 kc5, .slice vo5 M5 vc5] _ (Q31.out.range rfl) Tryd.underlying25 sizeVl rfl rfl rfl (by rfl) ?_ | fail)
       refine ⟨trivial, ?_⟩
       refine (CallsIn.inRound l (callsIn_wide.2 sm.out)).mono ?_
       rintro e W32 ⟨rfl, b2⟩
       have bb2 := hid (bb.out.trans (b2.mono bb.out.size))
       have A32 := hid (hA'.out.keptAll bb2.out)
       have D32 := hid (hD'.out.keptAll bb2.out)
       have N32 := hid (hN'.out.keptAll bb2.out)
       have B32 := hid (hB'.out.trans (bb2.out.mono hB'.out.size))
       have nc : W32.cell? ⟨W20.heap.size, 0, none⟩ = some (.int .i64 (r : Int)) := N32.out.cell 0
       have fc : W32.frozen? ⟨W20.heap.size, 0, none⟩ = false := N32.out.frozen 0
       have hr6 : (r : Int) ≤ 500 := by have := hr5.out; omega
       clear b2 sm al bb hA' hD' hN' hB' hQ' hV' Q31 V31 X31 U31 hW31
       gi_wp2
       refine ⟨((keeps_below bb2.out).trans (KeepsOthers.setCell _ _ _)).from _, (KpS.below bb2.out).trans (KpS.set _ (by intro h; have := h.1; omega) (by omega)), ⟨hr5.out, A32.out.other (p := ⟨W20.heap.size, 0, none⟩) (by show w.heap.size ≠ W20.heap.size; have := hgt.out; omega) _, D32.out.other (p := ⟨W20.heap.size, 0, none⟩) (by show w.heap.size + 1 ≠ W20.heap.size; have := hgt.out; omega) _, ?_, Nat.le_trans hG'.out (Nat.le_trans bb2.out.size (KeepsOthers.setCell _ _ _).1)⟩, B32.out.setCell (p := ⟨W20.heap.size, 0, none⟩) (by show w.heap.size ≤ W20.heap.size; have := hgt.out; omega) _⟩
       have h := at_setW N32.out (.int .i64 ((r : Int) + 1))
       simpa using h
     case done =>
      rintro D W hD ⟨⟨h5, hA, hDD, hN, hG⟩, hB⟩ hK
      rw [prV_len] at hN
      have hcw := hid (hcv.out W.drew (ha'.out.kept hB.drew))
      have nd : W.drew.cell? ⟨W20.heap.size, 0, none⟩ = some (.int .i64 (cntV ta : Int)) := hN.drew.cell 0
      have d0 : W.drew.cell? ⟨w.heap.size, 0, none⟩ = some (.int .i64 k1) := hA.drew.cell 0
      have d1 : W.drew.cell? ⟨w.heap.size, 1, none⟩ = some (.bool b1) := hA.drew.cell 1
      have d2 : W.drew.cell? ⟨w.heap.size, 2, none⟩ = some (.string r1) := hA.drew.cell 2
      have d3 : W.drew.cell? ⟨w.heap.size, 3, none⟩ = some (.string t1) := hA.drew.cell 3
      have d4 : W.drew.cell? ⟨w.heap.size, 4, none⟩ = some (.slice ko1 N1 kc1) := hA.drew.cell 4
      have d5 : W.drew.cell? ⟨w.heap.size, 5, none⟩ = some (.slice vo1 M1 vc1) := hA.drew.cell 5
      have hN' := hid hN
      have hDD' := hid hDD
      have hB' := hid hB
      have hK' := hid hK
      have eqn : (((cntV ta : Nat) : Int) == ((cntV ta : Nat) : Int)) = true := by simp
      generalize cntV ta = cn at *
      clear hA hDD hN hK hB
      gi_wp2_with fail
      refine wpIn_wide.2 ?_
      refine wp_onlyN ?_
      go_region_with (first | (go_at_call 12; refine hcw.out.mono ?_; rintro e w5 ⟨rfl, b5⟩; have b5' := hid b5; have n5 : w5.cell? ⟨W20.heap.size, 0, none⟩ = some (.int .i64 (cn : Int)) := (hN'.out.drew.keptAll b5).cell 0; have r5 : w5.cell? ⟨w.heap.size + 1, 0, none⟩ = some (.bool false) := (hDD'.out.drew.keptAll b5).cell 0; have g5 : w5.frozen? ⟨w.heap.size + 1, 0, none⟩ = false := (hDD'.out.drew.keptAll b5).frozen 0; clear b5) | fail)
      all_goals
       have D5 := hid (hDD'.out.drew.keptAll b5'.out)
       have B5 := hid (hB'.out.drew.trans (b5'.out.mono hB'.out.drew.size))
       have K5 : (w5.setCell ⟨w.heap.size + 1, 0, none⟩ (.bool true)).heap[D]? = some (.deferred (some [])) := (Below.heap_setCell w5 ⟨w.heap.size + 1, 0, none⟩ _ D (by show D ≠ w.heap.size + 1; omega)).trans ((b5'.out.block D (Array.getElem?_eq_some_iff.1 hK'.out).1).trans hK'.out)
       gi_wp2
       refine ⟨by simp, .inl ⟨_, _, rfl, run_takeDeferred K5, ?_⟩⟩
       have hc5 := cell_kept (World.cell?_setCell_same' w5 ⟨w.heap.size + 1, 0, none⟩ (.bool true) (by rw [r5]; rfl)) (grownBy_putObj' _ D (.deferred none)) (fun r e => by cases e; exact ⟨_, K5, rfl⟩)
       refine ⟨.bool true, ?_, rfl, (B5.out.setCell (p := ⟨w.heap.size + 1, 0, none⟩) (by show w.heap.size ≤ w.heap.size + 1; omega) _).trans (belowK_b (w := w) (Nat.le_refl _) _ D _ _ (by omega) K5 rfl rfl)⟩
       simp [results, Tryd.f3, go_sem, hc5]
     case stop =>
      rintro D c r W hD - ⟨rfl, h4, hB, hG⟩ hK
      have c4 := h4.cell 0
      simp only [List.getElem?_toArray, List.getElem?_cons_zero] at c4
      gi_wp2
      refine ⟨by simp, .inl ⟨_, _, rfl, run_takeDeferred hK, ?_⟩⟩
      have hc5 := cell_kept c4 (grownBy_putObj' _ D (.deferred none)) (fun r e => by cases e; exact ⟨_, hK, rfl⟩)
      refine ⟨.bool true, ?_, rfl, hB.trans (belowK_b (w := w) (Nat.le_refl _) _ D _ _ (by omega) hK rfl rfl)⟩
      simp [results, Tryd.f3, go_sem, hc5]
   ·rw [h1] at V10
    rw [h2] at U10
    rw [h1, h2]
    have sm := hid (fun va vb u h1 h2 => sameV_calls y y va vb true (hid ⟨fun _ => rfl, fun _ => rfl⟩) u h1 h2)
    clear hbh h1 h2
    gi_wp2_with (first | refine wpListIn_load_want 25 _ W7.heap.size 0 [.int .i64 k3, .bool b3, .string r3, .string t3, .slice ko3 N3 kc3, .slice vo3 M3 vc3] _ (X10.out.range rfl) Tryd.underlying25 sizeVl rfl rfl rfl (by rfl) ?_ | refine wpListIn_load_want 25 _ W9.heap.size 0 [.int .i64 k4, .bool b4, .string r4, .string t4, .slice ko4 N4 kc4, .slice vo4 M4 vc4] _ (Y10.out.range rfl) Tryd.underlying25 sizeVl rfl rfl rfl (by rfl) ?_ | fail)
    refine ⟨trivial, ?_⟩
    refine (callsIn_wide.2 (sm.out _ _ _ V10.out U10.out)).mono ?_
    rintro e W11 ⟨rfl, bq⟩
    have A11 := hid (A10.out.keptAll bq)
    have D11 := hid (D10.out.keptAll bq)
    have B11 := hid (B10.out.trans (bq.mono B10.out.size))
    clear bq sm A10 D10 B10 V10 U10 X10 Y10 hW10
    have tw := hid (fun u h => twice_ex _ ta (Nat.le_refl _) (.agg #[.int .i64 k1, .bool b1, .string r1, .string t1, .slice ko1 N1 kc1, .slice vo1 M1 vc1]) u h)
    gi_wp2_with (first | refine wpListIn_load_want 25 _ w.heap.size 0 [.int .i64 k1, .bool b1, .string r1, .string t1, .slice ko1 N1 kc1, .slice vo1 M1 vc1] _ (A11.out.range rfl) Tryd.underlying25 sizeVl rfl rfl rfl (by rfl) ?_ | fail)
    refine ⟨trivial, ?_⟩
    refine (callsIn_wide.2 (tw.out _ (ha'.out.kept B11.out))).mono ?_
    rintro e W20 ⟨Bq, rfl, hBq, bq⟩
    have A20 := hid (A11.out.keptAll bq)
    have D20 := hid (D11.out.keptAll bq)
    have B20 := hid (B11.out.trans (bq.mono B11.out.size))
    clear bq tw A11 D11 B11
    cases Bq with
    | true =>
     have d0 : W20.cell? ⟨w.heap.size + 1, 0, none⟩ = some (.bool false) := D20.out.cell 0
     have f0 : W20.frozen? ⟨w.heap.size + 1, 0, none⟩ = false := D20.out.frozen 0
     gi_wp2
     have hc := World.cell?_setCell_same' W20 ⟨w.heap.size + 1, 0, none⟩ (.bool true) (by rw [d0]; rfl)
     refine ⟨.bool true, ?_, rfl, B20.out.setCell (p := ⟨w.heap.size + 1, 0, none⟩) (by show w.heap.size ≤ w.heap.size + 1; omega) _⟩
     simp [results, Tryd.f3, go_sem, hc]
    | false =>
     have hno := hid (hBq.out rfl)
     have al := hid (show Below W20.heap.size W20 (W20.alloc (.cells #[.int .i64 0] 3)) from (Below.refl _ _).alloc (Nat.le_refl _) _)
     have A21 := hid (A20.out.keptAll al.out)
     have D21 := hid (D20.out.keptAll al.out)
     have B21 := hid (B20.out.trans (al.out.mono B20.out.size))
     have N21 := hid (At.new W20 #[.int .i64 0] 3)
     have s21 : Hid ((W20.alloc (.cells #[.int .i64 0] 3)).heap.size = W20.heap.size + 1) := World.size_alloc _ _
     have l20 := hid D20.out.lt
     clear al A20 D20 B20 hBq
     have wk := hid (walkF_calls ta (hid hwf) hln.out k1 b1 r1 t1 ko1 N1 kc1 vo1 M1 vc1 (W20.alloc (.cells #[.int .i64 0] 3)) (hid (hT'.out.below B21.out)) (hid (ha'.out.kept B21.out)))
     gi_wp2_with (first | refine wpListIn_load_want 25 _ w.heap.size 0 [.int .i64 k1, .bool b1, .string r1, .string t1, .slice ko1 N1 kc1, .slice vo1 M1 vc1] _ (A21.out.range rfl) Tryd.underlying25 sizeVl rfl rfl rfl (by rfl) ?_ | fail)
     refine ⟨trivial, ?_⟩
     refine (callsIn_wide.2 wk.out).mono ?_
     rintro e W22 ⟨Bk, ck, rfl, hBk, hAK, hVK, bq⟩
     have A22 := hid (A21.out.keptAll bq)
     have D22 := hid (D21.out.keptAll bq)
     have N22 := hid (N21.out.keptAll bq)
     have B22 := hid (B21.out.trans (bq.mono B21.out.size))
     have s22 := hid bq.size
     have hseq := hid (walk2_tell (fun b => W20.heap.size + 1 ≤ b ∧ b < W22.heap.size) (4 - 1) ta hln.out (okP_of ta 1024 hwf hbl hln.out) (fun x hx => by have := prV_bound ta [] x hln.out hx; simp only [List.length_nil] at this; omega) Bk ck W22 hAK (hVK.mono (fun c hl hc => ⟨by have h : (W20.alloc (.cells #[.int .i64 0] 3)).heap.size ≤ c := hc; rw [s21.out] at h; exact h, hl⟩)))
     have hlw : w.heap.size + 1 < W22.heap.size := by have := l20.out; have := s21.out; have := s22.out; omega
     have hlnb : W20.heap.size < W22.heap.size := by have := s21.out; have := s22.out; omega
     have hfd := hid (fun (x : List UInt8 × Vt) (hx : x ∈ prV [] ta) (u : World) (h1 : TabU u) (h2 : ValAt u ta (.agg #[.int .i64 k1, .bool b1, .string r1, .string t1, .slice ko1 N1 kc1, .slice vo1 M1 vc1])) => find_calls ta hln.out x.1 (by have := prV_bound ta [] x hln.out hx; simp only [List.length_nil] at this; omega) (.agg #[.int .i64 k1, .bool b1, .string r1, .string t1, .slice ko1 N1 kc1, .slice vo1 M1 vc1]) u h1 h2)
     have hfp := hid (fun (x : List UInt8 × Vt) (hx : x ∈ prV [] ta) => fd_part hwf hno.out hln.out hx)
     have hcv := hid (fun u h => cntP_ex _ ta (Nat.le_refl _) (by have := cnt_blk ta; omega) (.agg #[.int .i64 k1, .bool b1, .string r1, .string t1, .slice ko1 N1 kc1, .slice vo1 M1 vc1]) u h)
     have hgt : Hid (w.heap.size + 1 < W20.heap.size) := l20
     clear bq hAK hVK wk A21 D21 N21 s21 B21
     have hnf : ∀ (f : Fn) (a b : Array Value) (w : World), Sem.run Tryd.prog (binOp BinOp.eql 33 (.func f a b) .nilFunc) w = .ok (.bool false) w := fun _ _ _ _ => by rfl
     gi_wp2_with fail
     refine range_tellY (n := 4) (by decide) (gf := 31) (lb := #[.pointer (some ⟨Bk, 0, none⟩)]) rfl (enters_of Tryd.func31 (by kernel_rfl) rfl)
      hseq.out (Below.refl _ _) ?ps KpS.trans (fun W l r r' h1 h2 h3 => KpS.putLoop _ (by intro h; have := h.2; omega) h2)
      (LdI w #[.int .i64 k1, .bool b1, .string r1, .string t1, .slice ko1 N1 kc1, .slice vo1 M1 vc1] W20.heap.size W22.heap.size) (LdX w W22.heap.size) (ldI_free hlw hlnb) (fun c => ldX_free hlw c) (fun r W h => h.1.2.2.2.2) (fun c r W h => h.2.2.2)
      ⟨⟨Nat.zero_le _, A22.out, D22.out, N22.out, Nat.le_refl _⟩, B22.out⟩ (fun r W h => ⟨hP'.out.kept h.2, hM'.out.kept h.2⟩) (LdY (prV [] ta) W22.heap.size) LdG (fun r y => ldY_own r y) ?assign ?body ?done ?stop
     case ps =>
      rintro b r x W ⟨p, t, v, -, rfl, -⟩
      rfl
     case assign =>
      intro l r x W K hlt hI hE hK
      obtain ⟨p, t, v, hL, rfl, hv⟩ := hE
      obtain ⟨k5, b5, r5, t5, ko5, N5, kc5, vo5, M5, vc5, rfl⟩ := hv.at.lets
      have hb : Below W.heap.size W (W.alloc (.cells #[.int .i64 k5, .bool b5, .string r5, .string t5, .slice ko5 N5 kc5, .slice vo5 M5 vc5] 25)) := (Below.refl _ _).alloc (Nat.le_refl _) _
      have hK2 := hK (p, W.heap.size, #[.int .i64 k5, .bool b5, .string r5, .string t5, .slice ko5 N5 kc5, .slice vo5 M5 vc5]) (W.alloc (.cells #[.int .i64 k5, .bool b5, .string r5, .string t5, .slice ko5 N5 kc5, .slice vo5 M5 vc5] 25)) ((keeps_below hb).from _) (KpS.below hb) (ldI_free hlw hlnb r _ _ hI (hb.mono hI.1.2.2.2.2)) ⟨t, hL, hI.1.2.2.2.2, At.new W _ _, hv.at.kept hb⟩
      simp only [LdG, List.setIfInBounds_toArray, List.set_cons_zero, List.set_cons_succ] at hK2
      clear hK hI hv hb
      gi_wp2
      exact hK2
     case body =>
      rintro l r ⟨p, q, c5⟩ W hll hloop hlt ⟨⟨h5, hA, hD, hN, hG⟩, hB⟩ ⟨t, hL, hq, hQ, hV⟩
      dsimp only at hL hq hQ hV
      obtain ⟨k5, b5, r5, t5, ko5, N5, kc5, vo5, M5, vc5, he⟩ := hV.lets
      injection he with he
      subst he
      simp only [LdG, List.setIfInBounds_toArray, List.set_cons_zero, List.set_cons_succ]
      have nc : W.cell? ⟨W20.heap.size, 0, none⟩ = some (.int .i64 (r : Int)) := hN.cell 0
      have fc : W.frozen? ⟨W20.heap.size, 0, none⟩ = false := hN.frozen 0
      have hA' := hid hA
      have hD' := hid hD
      have hN' := hid hN
      have hB' := hid hB
      have hQ' := hid hQ
      have hV' := hid hV
      have hG' := hid hG
      have hx := hid (List.mem_of_getElem? hL)
      have fP := hid (hfd.out (p, t) hx.out)
      rw [hfp.out (p, t) hx.out] at fP
      have dc : W.cell? ⟨w.heap.size + 1, 0, none⟩ = some (.bool false) := hD.cell 0
      have df : W.frozen? ⟨w.heap.size + 1, 0, none⟩ = false := hD.frozen 0
      clear hA hD hN hB hQ hV hL
      by_cases h500 : r = 500
      ·subst h500
       have e5 : (((500 : Nat) : Int) == 500) = true := rfl
       gi_wp2
       exact ⟨(KeepsOthers.setCell _ _ _).from _, KpS.set _ (by intro h; have := h.1; have := hgt.out; omega) (by omega), rfl, at_setW hD'.out (.bool true), hB'.out.setCell (p := ⟨w.heap.size + 1, 0, none⟩) (by show w.heap.size ≤ w.heap.size + 1; omega) _, Nat.le_trans hG'.out (KeepsOthers.setCell _ _ _).1⟩
      ·have e5 : ((r : Int) == 500) = false := by rw [beq_eq_false_iff_ne]; omega
       have hr5 := hid (show r + 1 ≤ 500 by omega)
       clear h500 h5
       gi_wp2_with (first | refine wpListIn_load_want 25 _ w.heap.size 0 [.int .i64 k1, .bool b1, .string r1, .string t1, .slice ko1 N1 kc1, .slice vo1 M1 vc1] _ (hA'.out.range rfl) Tryd.underlying25 sizeVl rfl rfl rfl (by rfl) ?_ | fail)
       refine ⟨trivial, ?_⟩
       refine (CallsIn.inRound l (callsIn_wide.2 (fP.out _ (hT'.out.below hB'.out) (ha'.out.kept hB'.out)))).mono ?_
       rintro e W30 ⟨x5, rfl, v5, bq⟩
       obtain ⟨k6, b6, r6, t6, ko6, N6, kc6, vo6, M6, vc6, rfl⟩ := v5.at.lets
       have al := hid (show Below W30.heap.size W30 (W30.alloc (.cells #[.int .i64 k6, .bool b6, .string r6, .string t6, .slice ko6 N6 kc6, .slice vo6 M6 vc6] 25)) from (Below.refl _ _).alloc (Nat.le_refl _) _)
       have bb := hid (bq.trans (al.out.mono bq.size))
       have Q31 := hid (hQ'.out.keptAll bb.out)
       have V31 := hid (hV'.out.kept bb.out)
       have X31 := hid (At.new W30 #[.int .i64 k6, .bool b6, .string r6, .string t6, .slice ko6 N6 kc6, .slice vo6 M6 vc6] 25)
       have U31 := hid (v5.at.kept al.out)
       clear bq v5 fP nc fc dc df
       generalize hW31 : W30.alloc (.cells #[.int .i64 k6, .bool b6, .string r6, .string t6, .slice ko6 N6 kc6, .slice vo6 M6 vc6] 25) = W31 at al bb Q31 V31 X31 U31
       have sm := hid (sameV_calls t t (.agg #[.int .i64 k6, .bool b6, .string r6, .string t6, .slice ko6 N6 kc6, .slice vo6 M6 vc6]) (.agg #[.int .i64 k5, .bool b5, .string r5, .string t5, .slice ko5 N5 kc5, .slice vo5 M5 vc5]) true (hid ⟨fun _ => rfl, fun _ => rfl⟩) W31 U31.out V31.out)
       gi_wp2_with (first | refine wpListIn_load_want 25 _ W30.heap.size 0 [.int .i64 k6, .bool b6, .string r6, .string t6, .slice ko6 N6 kc6, .slice vo6 M6 vc6] _ (X31.out.range rfl) Tryd.underlying25 sizeVl rfl rfl rfl (by rfl) ?_ | refine wpListIn_load_want 25 _ q 0 [.int .i64 k5, .bool b5, .string r5, .string t5, .slice ko5 N5 kc5, .slice vo5 M5 vc5] _ (Q31.out.range rfl) Tryd.underlying25 sizeVl rfl rfl rfl (by rfl) ?_ | fail)
       refine ⟨trivial, ?_⟩
       refine (CallsIn.inRound l (callsIn_wide.2 sm.out)).mono ?_
       rintro e W32 ⟨rfl, b2⟩
       have bb2 := hid (bb.out.trans (b2.mono bb.out.size))
       have A32 := hid (hA'.out.keptAll bb2.out)
       have D32 := hid (hD'.out.keptAll bb2.out)
       have N32 := hid (hN'.out.keptAll bb2.out)
       have B32 := hid (hB'.out.trans (bb2.out.mono hB'.out.size))
       have nc : W32.cell? ⟨W20.heap.size, 0, none⟩ = some (.int .i64 (r : Int)) := N32.out.cell 0
       have fc : W32.frozen? ⟨W20.heap.size, 0, none⟩ = false := N32.out.frozen 0
       have hr6 : (r : Int) ≤ 500 := by have := hr5.out; omega
       clear b2 sm al bb hA' hD' hN' hB' hQ' hV' Q31 V31 X31 U31 hW31
       gi_wp2
       refine ⟨((keeps_below bb2.out).trans (KeepsOthers.setCell _ _ _)).from _, (KpS.below bb2.out).trans (KpS.set _ (by intro h; have := h.1; omega) (by omega)), ⟨hr5.out, A32.out.other (p := ⟨W20.heap.size, 0, none⟩) (by show w.heap.size ≠ W20.heap.size; have := hgt.out; omega) _, D32.out.other (p := ⟨W20.heap.size, 0, none⟩) (by show w.heap.size + 1 ≠ W20.heap.size; have := hgt.out; omega) _, ?_, Nat.le_trans hG'.out (Nat.le_trans bb2.out.size (KeepsOthers.setCell _ _ _).1)⟩, B32.out.setCell (p := ⟨W20.heap.size, 0, none⟩) (by show w.heap.size ≤ W20.heap.size; have := hgt.out; omega) _⟩
       have h := at_setW N32.out (.int .i64 ((r : Int) + 1))
       simpa using h
     case done =>
      rintro D W hD ⟨⟨h5, hA, hDD, hN, hG⟩, hB⟩ hK
      rw [prV_len] at hN
      have hcw := hid (hcv.out W.drew (ha'.out.kept hB.drew))
      have nd : W.drew.cell? ⟨W20.heap.size, 0, none⟩ = some (.int .i64 (cntV ta : Int)) := hN.drew.cell 0
      have d0 : W.drew.cell? ⟨w.heap.size, 0, none⟩ = some (.int .i64 k1) := hA.drew.cell 0
      have d1 : W.drew.cell? ⟨w.heap.size, 1, none⟩ = some (.bool b1) := hA.drew.cell 1
      have d2 : W.drew.cell? ⟨w.heap.size, 2, none⟩ = some (.string r1) := hA.drew.cell 2
      have d3 : W.drew.cell? ⟨w.heap.size, 3, none⟩ = some (.string t1) := hA.drew.cell 3
      have d4 : W.drew.cell? ⟨w.heap.size, 4, none⟩ = some (.slice ko1 N1 kc1) := hA.drew.cell 4
      have d5 : W.drew.cell? ⟨w.heap.size, 5, none⟩ = some (.slice vo1 M1 vc1) := hA.drew.cell 5
      have hN' := hid hN
      have hDD' := hid hDD
      have hB' := hid hB
      have hK' := hid hK
      have eqn : (((cntV ta : Nat) : Int) == ((cntV ta : Nat) : Int)) = true := by simp
      generalize cntV ta = cn at *
      clear hA hDD hN hK hB
      gi_wp2_with fail
      refine wpIn_wide.2 ?_
      refine wp_onlyN ?_
      go_region_with (first | (go_at_call 12; refine hcw.out.mono ?_; rintro e w5 ⟨rfl, b5⟩; have b5' := hid b5; have n5 : w5.cell? ⟨W20.heap.size, 0, none⟩ = some (.int .i64 (cn : Int)) := (hN'.out.drew.keptAll b5).cell 0; have r5 : w5.cell? ⟨w.heap.size + 1, 0, none⟩ = some (.bool false) := (hDD'.out.drew.keptAll b5).cell 0; have g5 : w5.frozen? ⟨w.heap.size + 1, 0, none⟩ = false := (hDD'.out.drew.keptAll b5).frozen 0; clear b5) | fail)
      all_goals
       have D5 := hid (hDD'.out.drew.keptAll b5'.out)
       have B5 := hid (hB'.out.drew.trans (b5'.out.mono hB'.out.drew.size))
       have K5 : (w5.setCell ⟨w.heap.size + 1, 0, none⟩ (.bool true)).heap[D]? = some (.deferred (some [])) := (Below.heap_setCell w5 ⟨w.heap.size + 1, 0, none⟩ _ D (by show D ≠ w.heap.size + 1; omega)).trans ((b5'.out.block D (Array.getElem?_eq_some_iff.1 hK'.out).1).trans hK'.out)
       gi_wp2
       refine ⟨by simp, .inl ⟨_, _, rfl, run_takeDeferred K5, ?_⟩⟩
       have hc5 := cell_kept (World.cell?_setCell_same' w5 ⟨w.heap.size + 1, 0, none⟩ (.bool true) (by rw [r5]; rfl)) (grownBy_putObj' _ D (.deferred none)) (fun r e => by cases e; exact ⟨_, K5, rfl⟩)
       refine ⟨.bool true, ?_, rfl, (B5.out.setCell (p := ⟨w.heap.size + 1, 0, none⟩) (by show w.heap.size ≤ w.heap.size + 1; omega) _).trans (belowK_b (w := w) (Nat.le_refl _) _ D _ _ (by omega) K5 rfl rfl)⟩
       simp [results, Tryd.f3, go_sem, hc5]
     case stop =>
      rintro D c r W hD - ⟨rfl, h4, hB, hG⟩ hK
      have c4 := h4.cell 0
      simp only [List.getElem?_toArray, List.getElem?_cons_zero] at c4
      gi_wp2
      refine ⟨by simp, .inl ⟨_, _, rfl, run_takeDeferred hK, ?_⟩⟩
      have hc5 := cell_kept c4 (grownBy_putObj' _ D (.deferred none)) (fun r e => by cases e; exact ⟨_, hK, rfl⟩)
      refine ⟨.bool true, ?_, rfl, hB.trans (belowK_b (w := w) (Nat.le_refl _) _ D _ _ (by omega) hK rfl rfl)⟩
      simp [results, Tryd.f3, go_sem, hc5]
  ·rw [e1] at fA
   gi_wp2_with (first | refine wpListIn_load_want 25 _ w.heap.size 0 [.int .i64 k1, .bool b1, .string r1, .string t1, .slice ko1 N1 kc1, .slice vo1 M1 vc1] _ (A4.out.range rfl) Tryd.underlying25 sizeVl rfl rfl rfl (by rfl) ?_ | fail)
   refine ⟨trivial, ?_⟩
   refine (callsIn_wide.2 (fA.out _ (hT'.out.below B4.out) (ha'.out.kept B4.out))).mono ?_
   rintro e W5 ⟨x5, rfl, v5, bq⟩
   obtain ⟨k2, b2, r2, t2, ko2, N2, kc2, vo2, M2, vc2, rfl⟩ := v5.at.lets
   have A5 := hid (A4.out.keptAll bq)
   have D5 := hid (D4.out.keptAll bq)
   have B5 := hid (B4.out.trans (bq.mono B4.out.size))
   have V5 := hid v5.at
   clear bq v5 fA A4 D4 B4
   have al := hid (show Below W5.heap.size W5 (W5.alloc (.cells #[.int .i64 k2, .bool b2, .string r2, .string t2, .slice ko2 N2 kc2, .slice vo2 M2 vc2] 25)) from (Below.refl _ _).alloc (Nat.le_refl _) _)
   have A6 := hid (A5.out.keptAll al.out)
   have D6 := hid (D5.out.keptAll al.out)
   have B6 := hid (B5.out.trans (al.out.mono B5.out.size))
   have V6 := hid (V5.out.kept al.out)
   have X6 := hid (At.new W5 #[.int .i64 k2, .bool b2, .string r2, .string t2, .slice ko2 N2 kc2, .slice vo2 M2 vc2] 25)
   generalize hW6 : W5.alloc (.cells #[.int .i64 k2, .bool b2, .string r2, .string t2, .slice ko2 N2 kc2, .slice vo2 M2 vc2] 25) = W6 at al A6 D6 B6 V6 X6
   clear al A5 D5 B5 V5
   have tw := hid (fun u h => twice_ex _ ta (Nat.le_refl _) (.agg #[.int .i64 k1, .bool b1, .string r1, .string t1, .slice ko1 N1 kc1, .slice vo1 M1 vc1]) u h)
   gi_wp2_with (first | refine wpListIn_load_want 25 _ w.heap.size 0 [.int .i64 k1, .bool b1, .string r1, .string t1, .slice ko1 N1 kc1, .slice vo1 M1 vc1] _ (A6.out.range rfl) Tryd.underlying25 sizeVl rfl rfl rfl (by rfl) ?_ | fail)
   refine ⟨trivial, ?_⟩
   refine (callsIn_wide.2 (tw.out _ (ha'.out.kept B6.out))).mono ?_
   rintro e W20 ⟨Bq, rfl, hBq, bq⟩
   have A20 := hid (A6.out.keptAll bq)
   have D20 := hid (D6.out.keptAll bq)
   have B20 := hid (B6.out.trans (bq.mono B6.out.size))
   clear bq tw A6 D6 B6
   cases Bq with
   | true =>
    have d0 : W20.cell? ⟨w.heap.size + 1, 0, none⟩ = some (.bool false) := D20.out.cell 0
    have f0 : W20.frozen? ⟨w.heap.size + 1, 0, none⟩ = false := D20.out.frozen 0
    gi_wp2
    have hc := World.cell?_setCell_same' W20 ⟨w.heap.size + 1, 0, none⟩ (.bool true) (by rw [d0]; rfl)
    refine ⟨.bool true, ?_, rfl, B20.out.setCell (p := ⟨w.heap.size + 1, 0, none⟩) (by show w.heap.size ≤ w.heap.size + 1; omega) _⟩
    simp [results, Tryd.f3, go_sem, hc]
   | false =>
    have hno := hid (hBq.out rfl)
    have al := hid (show Below W20.heap.size W20 (W20.alloc (.cells #[.int .i64 0] 3)) from (Below.refl _ _).alloc (Nat.le_refl _) _)
    have A21 := hid (A20.out.keptAll al.out)
    have D21 := hid (D20.out.keptAll al.out)
    have B21 := hid (B20.out.trans (al.out.mono B20.out.size))
    have N21 := hid (At.new W20 #[.int .i64 0] 3)
    have s21 : Hid ((W20.alloc (.cells #[.int .i64 0] 3)).heap.size = W20.heap.size + 1) := World.size_alloc _ _
    have l20 := hid D20.out.lt
    clear al A20 D20 B20 hBq
    have wk := hid (walkF_calls ta (hid hwf) hln.out k1 b1 r1 t1 ko1 N1 kc1 vo1 M1 vc1 (W20.alloc (.cells #[.int .i64 0] 3)) (hid (hT'.out.below B21.out)) (hid (ha'.out.kept B21.out)))
    gi_wp2_with (first | refine wpListIn_load_want 25 _ w.heap.size 0 [.int .i64 k1, .bool b1, .string r1, .string t1, .slice ko1 N1 kc1, .slice vo1 M1 vc1] _ (A21.out.range rfl) Tryd.underlying25 sizeVl rfl rfl rfl (by rfl) ?_ | fail)
    refine ⟨trivial, ?_⟩
    refine (callsIn_wide.2 wk.out).mono ?_
    rintro e W22 ⟨Bk, ck, rfl, hBk, hAK, hVK, bq⟩
    have A22 := hid (A21.out.keptAll bq)
    have D22 := hid (D21.out.keptAll bq)
    have N22 := hid (N21.out.keptAll bq)
    have B22 := hid (B21.out.trans (bq.mono B21.out.size))
    have s22 := hid bq.size
    have hseq := hid (walk2_tell (fun b => W20.heap.size + 1 ≤ b ∧ b < W22.heap.size) (4 - 1) ta hln.out (okP_of ta 1024 hwf hbl hln.out) (fun x hx => by have := prV_bound ta [] x hln.out hx; simp only [List.length_nil] at this; omega) Bk ck W22 hAK (hVK.mono (fun c hl hc => ⟨by have h : (W20.alloc (.cells #[.int .i64 0] 3)).heap.size ≤ c := hc; rw [s21.out] at h; exact h, hl⟩)))
    have hlw : w.heap.size + 1 < W22.heap.size := by have := l20.out; have := s21.out; have := s22.out; omega
    have hlnb : W20.heap.size < W22.heap.size := by have := s21.out; have := s22.out; omega
    have hfd := hid (fun (x : List UInt8 × Vt) (hx : x ∈ prV [] ta) (u : World) (h1 : TabU u) (h2 : ValAt u ta (.agg #[.int .i64 k1, .bool b1, .string r1, .string t1, .slice ko1 N1 kc1, .slice vo1 M1 vc1])) => find_calls ta hln.out x.1 (by have := prV_bound ta [] x hln.out hx; simp only [List.length_nil] at this; omega) (.agg #[.int .i64 k1, .bool b1, .string r1, .string t1, .slice ko1 N1 kc1, .slice vo1 M1 vc1]) u h1 h2)
    have hfp := hid (fun (x : List UInt8 × Vt) (hx : x ∈ prV [] ta) => fd_part hwf hno.out hln.out hx)
    have hcv := hid (fun u h => cntP_ex _ ta (Nat.le_refl _) (by have := cnt_blk ta; omega) (.agg #[.int .i64 k1, .bool b1, .string r1, .string t1, .slice ko1 N1 kc1, .slice vo1 M1 vc1]) u h)
    have hgt : Hid (w.heap.size + 1 < W20.heap.size) := l20
    clear bq hAK hVK wk A21 D21 N21 s21 B21
    have hnf : ∀ (f : Fn) (a b : Array Value) (w : World), Sem.run Tryd.prog (binOp BinOp.eql 33 (.func f a b) .nilFunc) w = .ok (.bool false) w := fun _ _ _ _ => by rfl
    gi_wp2_with fail
    refine range_tellY (n := 4) (by decide) (gf := 31) (lb := #[.pointer (some ⟨Bk, 0, none⟩)]) rfl (enters_of Tryd.func31 (by kernel_rfl) rfl)
     hseq.out (Below.refl _ _) ?ps KpS.trans (fun W l r r' h1 h2 h3 => KpS.putLoop _ (by intro h; have := h.2; omega) h2)
     (LdI w #[.int .i64 k1, .bool b1, .string r1, .string t1, .slice ko1 N1 kc1, .slice vo1 M1 vc1] W20.heap.size W22.heap.size) (LdX w W22.heap.size) (ldI_free hlw hlnb) (fun c => ldX_free hlw c) (fun r W h => h.1.2.2.2.2) (fun c r W h => h.2.2.2)
     ⟨⟨Nat.zero_le _, A22.out, D22.out, N22.out, Nat.le_refl _⟩, B22.out⟩ (fun r W h => ⟨hP'.out.kept h.2, hM'.out.kept h.2⟩) (LdY (prV [] ta) W22.heap.size) LdG (fun r y => ldY_own r y) ?assign ?body ?done ?stop
    case ps =>
     rintro b r x W ⟨p, t, v, -, rfl, -⟩
     rfl
    case assign =>
     intro l r x W K hlt hI hE hK
     obtain ⟨p, t, v, hL, rfl, hv⟩ := hE
     obtain ⟨k5, b5, r5, t5, ko5, N5, kc5, vo5, M5, vc5, rfl⟩ := hv.at.lets
     have hb : Below W.heap.size W (W.alloc (.cells #[.int .i64 k5, .bool b5, .string r5, .string t5, .slice ko5 N5 kc5, .slice vo5 M5 vc5] 25)) := (Below.refl _ _).alloc (Nat.le_refl _) _
     have hK2 := hK (p, W.heap.size, #[.int .i64 k5, .bool b5, .string r5, .string t5, .slice ko5 N5 kc5, .slice vo5 M5 vc5]) (W.alloc (.cells #[.int .i64 k5, .bool b5, .string r5, .string t5, .slice ko5 N5 kc5, .slice vo5 M5 vc5] 25)) ((keeps_below hb).from _) (KpS.below hb) (ldI_free hlw hlnb r _ _ hI (hb.mono hI.1.2.2.2.2)) ⟨t, hL, hI.1.2.2.2.2, At.new W _ _, hv.at.kept hb⟩
     simp only [LdG, List.setIfInBounds_toArray, List.set_cons_zero, List.set_cons_succ] at hK2
     clear hK hI hv hb
     gi_wp2
     exact hK2
    case body =>
     rintro l r ⟨p, q, c5⟩ W hll hloop hlt ⟨⟨h5, hA, hD, hN, hG⟩, hB⟩ ⟨t, hL, hq, hQ, hV⟩
     dsimp only at hL hq hQ hV
     obtain ⟨k5, b5, r5, t5, ko5, N5, kc5, vo5, M5, vc5, he⟩ := hV.lets
     injection he with he
     subst he
     simp only [LdG, List.setIfInBounds_toArray, List.set_cons_zero, List.set_cons_succ]
     have nc : W.cell? ⟨W20.heap.size, 0, none⟩ = some (.int .i64 (r : Int)) := hN.cell 0
     have fc : W.frozen? ⟨W20.heap.size, 0, none⟩ = false := hN.frozen 0
     have hA' := hid hA
     have hD' := hid hD
     have hN' := hid hN
     have hB' := hid hB
     have hQ' := hid hQ
     have hV' := hid hV
     have hG' := hid hG
     have hx := hid (List.mem_of_getElem? hL)
     have fP := hid (hfd.out (p, t) hx.out)
     rw [hfp.out (p, t) hx.out] at fP
     have dc : W.cell? ⟨w.heap.size + 1, 0, none⟩ = some (.bool false) := hD.cell 0
     have df : W.frozen? ⟨w.heap.size + 1, 0, none⟩ = false := hD.frozen 0
     clear hA hD hN hB hQ hV hL
     by_cases h500 : r = 500
     ·subst h500
      have e5 : (((500 : Nat) : Int) == 500) = true := rfl
      gi_wp2
      exact ⟨(KeepsOthers.setCell _ _ _).from _, KpS.set _ (by intro h; have := h.1; have := hgt.out; omega) (by omega), rfl, at_setW hD'.out (.bool true), hB'.out.setCell (p := ⟨w.heap.size + 1, 0, none⟩) (by show w.heap.size ≤ w.heap.size + 1; omega) _, Nat.le_trans hG'.out (KeepsOthers.setCell _ _ _).1⟩
     ·have e5 : ((r : Int) == 500) = false := by rw [beq_eq_false_iff_ne]; omega
      have hr5 := hid (show r + 1 ≤ 500 by omega)
      clear h500 h5
      gi_wp2_with (first | refine wpListIn_load_want 25 _ w.heap.size 0 [.int .i64 k1, .bool b1, .string r1, .string t1, .slice ko1 N1 kc1, .slice vo1 M1 vc1] _ (hA'.out.range rfl) Tryd.underlying25 sizeVl rfl rfl rfl (by rfl) ?_ | fail)
      refine ⟨trivial, ?_⟩
      refine (CallsIn.inRound l (callsIn_wide.2 (fP.out _ (hT'.out.below hB'.out) (ha'.out.kept hB'.out)))).mono ?_
      rintro e W30 ⟨x5, rfl, v5, bq⟩
      obtain ⟨k6, b6, r6, t6, ko6, N6, kc6, vo6, M6, vc6, rfl⟩ := v5.at.lets
      have al := hid (show Below W30.heap.size W30 (W30.alloc (.cells #[.int .i64 k6, .bool b6, .string r6, .string t6, .slice ko6 N6 kc6, .slice vo6 M6 vc6] 25)) from (Below.refl _ _).alloc (Nat.le_refl _) _)
      have bb := hid (bq.trans (al.out.mono bq.size))
      have Q31 := hid (hQ'.out.keptAll bb.out)
      have V31 := hid (hV'.out.kept bb.out)
      have X31 := hid (At.new W30 #[.int .i64 k6, .bool b6, .string r6, .string t6, .slice ko6 N6 kc6, .slice vo6 M6 vc6] 25)
      have U31 := hid (v5.at.kept al.out)
      clear bq v5 fP nc fc dc df
      generalize hW31 : W30.alloc (.cells #[.int .i64 k6, .bool b6, .string r6, .string t6, .slice ko6 N6 kc6, .slice vo6 M6 vc6] 25) = W31 at al bb Q31 V31 X31 U31
      have sm := hid (sameV_calls t t (.agg #[.int .i64 k6, .bool b6, .string r6, .string t6, .slice ko6 N6 kc6, .slice vo6 M6 vc6]) (.agg #[.int .i64 k5, .bool b5, .string r5, .string t5, .slice ko5 N5 kc5, .slice vo5 M5 vc5]) true (hid ⟨fun _ => rfl, fun _ => rfl⟩) W31 U31.out V31.out)
      gi_wp2_with (first | refine wpListIn_load_want 25 _ W30.heap.size 0 [.int .i64 k6, .bool b6, .string r6, .string t6, .slice ko6 N6 kc6, .slice vo6 M6 vc6] _ (X31.out.range rfl) Tryd.underlying25 sizeVl rfl rfl rfl (by rfl) ?_ | refine wpListIn_load_want 25 _ q 0 [.int .i64 k5, .bool b5, .string r5, .string t5, .slice ko5 N5 kc5, .slice vo5 M5 vc5] _ (Q31.out.range rfl) Tryd.underlying25 sizeVl rfl rfl rfl (by rfl) ?_ | fail)
      refine ⟨trivial, ?_⟩
      refine (CallsIn.inRound l (callsIn_wide.2 sm.out)).mono ?_
      rintro e W32 ⟨rfl, b2⟩
      have bb2 := hid (bb.out.trans (b2.mono bb.out.size))
      have A32 := hid (hA'.out.keptAll bb2.out)
      have D32 := hid (hD'.out.keptAll bb2.out)
      have N32 := hid (hN'.out.keptAll bb2.out)
      have B32 := hid (hB'.out.trans (bb2.out.mono hB'.out.size))
      have nc : W32.cell? ⟨W20.heap.size, 0, none⟩ = some (.int .i64 (r : Int)) := N32.out.cell 0
      have fc : W32.frozen? ⟨W20.heap.size, 0, none⟩ = false := N32.out.frozen 0
      have hr6 : (r : Int) ≤ 500 := by have := hr5.out; omega
      clear b2 sm al bb hA' hD' hN' hB' hQ' hV' Q31 V31 X31 U31 hW31
      gi_wp2
      refine ⟨((keeps_below bb2.out).trans (KeepsOthers.setCell _ _ _)).from _, (KpS.below bb2.out).trans (KpS.set _ (by intro h; have := h.1; omega) (by omega)), ⟨hr5.out, A32.out.other (p := ⟨W20.heap.size, 0, none⟩) (by show w.heap.size ≠ W20.heap.size; have := hgt.out; omega) _, D32.out.other (p := ⟨W20.heap.size, 0, none⟩) (by show w.heap.size + 1 ≠ W20.heap.size; have := hgt.out; omega) _, ?_, Nat.le_trans hG'.out (Nat.le_trans bb2.out.size (KeepsOthers.setCell _ _ _).1)⟩, B32.out.setCell (p := ⟨W20.heap.size, 0, none⟩) (by show w.heap.size ≤ W20.heap.size; have := hgt.out; omega) _⟩
      have h := at_setW N32.out (.int .i64 ((r : Int) + 1))
      simpa using h
    case done =>
     rintro D W hD ⟨⟨h5, hA, hDD, hN, hG⟩, hB⟩ hK
     rw [prV_len] at hN
     have hcw := hid (hcv.out W.drew (ha'.out.kept hB.drew))
     have nd : W.drew.cell? ⟨W20.heap.size, 0, none⟩ = some (.int .i64 (cntV ta : Int)) := hN.drew.cell 0
     have d0 : W.drew.cell? ⟨w.heap.size, 0, none⟩ = some (.int .i64 k1) := hA.drew.cell 0
     have d1 : W.drew.cell? ⟨w.heap.size, 1, none⟩ = some (.bool b1) := hA.drew.cell 1
     have d2 : W.drew.cell? ⟨w.heap.size, 2, none⟩ = some (.string r1) := hA.drew.cell 2
     have d3 : W.drew.cell? ⟨w.heap.size, 3, none⟩ = some (.string t1) := hA.drew.cell 3
     have d4 : W.drew.cell? ⟨w.heap.size, 4, none⟩ = some (.slice ko1 N1 kc1) := hA.drew.cell 4
     have d5 : W.drew.cell? ⟨w.heap.size, 5, none⟩ = some (.slice vo1 M1 vc1) := hA.drew.cell 5
     have hN' := hid hN
     have hDD' := hid hDD
     have hB' := hid hB
     have hK' := hid hK
     have eqn : (((cntV ta : Nat) : Int) == ((cntV ta : Nat) : Int)) = true := by simp
     generalize cntV ta = cn at *
     clear hA hDD hN hK hB
     gi_wp2_with fail
     refine wpIn_wide.2 ?_
     refine wp_onlyN ?_
     go_region_with (first | (go_at_call 12; refine hcw.out.mono ?_; rintro e w5 ⟨rfl, b5⟩; have b5' := hid b5; have n5 : w5.cell? ⟨W20.heap.size, 0, none⟩ = some (.int .i64 (cn : Int)) := (hN'.out.drew.keptAll b5).cell 0; have r5 : w5.cell? ⟨w.heap.size + 1, 0, none⟩ = some (.bool false) := (hDD'.out.drew.keptAll b5).cell 0; have g5 : w5.frozen? ⟨w.heap.size + 1, 0, none⟩ = false := (hDD'.out.drew.keptAll b5).frozen 0; clear b5) | fail)
     all_goals
      have D5 := hid (hDD'.out.drew.keptAll b5'.out)
      have B5 := hid (hB'.out.drew.trans (b5'.out.mono hB'.out.drew.size))
      have K5 : (w5.setCell ⟨w.heap.size + 1, 0, none⟩ (.bool true)).heap[D]? = some (.deferred (some [])) := (Below.heap_setCell w5 ⟨w.heap.size + 1, 0, none⟩ _ D (by show D ≠ w.heap.size + 1; omega)).trans ((b5'.out.block D (Array.getElem?_eq_some_iff.1 hK'.out).1).trans hK'.out)
      gi_wp2
      refine ⟨by simp, .inl ⟨_, _, rfl, run_takeDeferred K5, ?_⟩⟩
      have hc5 := cell_kept (World.cell?_setCell_same' w5 ⟨w.heap.size + 1, 0, none⟩ (.bool true) (by rw [r5]; rfl)) (grownBy_putObj' _ D (.deferred none)) (fun r e => by cases e; exact ⟨_, K5, rfl⟩)
      refine ⟨.bool true, ?_, rfl, (B5.out.setCell (p := ⟨w.heap.size + 1, 0, none⟩) (by show w.heap.size ≤ w.heap.size + 1; omega) _).trans (belowK_b (w := w) (Nat.le_refl _) _ D _ _ (by omega) K5 rfl rfl)⟩
      simp [results, Tryd.f3, go_sem, hc5]
    case stop =>
     rintro D c r W hD - ⟨rfl, h4, hB, hG⟩ hK
     have c4 := h4.cell 0
     simp only [List.getElem?_toArray, List.getElem?_cons_zero] at c4
     gi_wp2
     refine ⟨by simp, .inl ⟨_, _, rfl, run_takeDeferred hK, ?_⟩⟩
     have hc5 := cell_kept c4 (grownBy_putObj' _ D (.deferred none)) (fun r e => by cases e; exact ⟨_, hK, rfl⟩)
     refine ⟨.bool true, ?_, rfl, hB.trans (belowK_b (w := w) (Nat.le_refl _) _ D _ _ (by omega) hK rfl rfl)⟩
     simp [results, Tryd.f3, go_sem, hc5]
  ·rw [e1] at fA
   gi_wp2_with (first | refine wpListIn_load_want 25 _ w.heap.size 0 [.int .i64 k1, .bool b1, .string r1, .string t1, .slice ko1 N1 kc1, .slice vo1 M1 vc1] _ (A4.out.range rfl) Tryd.underlying25 sizeVl rfl rfl rfl (by rfl) ?_ | fail)
   refine ⟨trivial, ?_⟩
   refine (callsIn_wide.2 (fA.out _ (hT'.out.below B4.out) (ha'.out.kept B4.out))).mono ?_
   rintro e W5 ⟨x5, rfl, v5, bq⟩
   obtain ⟨k2, b2, r2, t2, ko2, N2, kc2, vo2, M2, vc2, rfl⟩ := v5.at.lets
   have A5 := hid (A4.out.keptAll bq)
   have D5 := hid (D4.out.keptAll bq)
   have B5 := hid (B4.out.trans (bq.mono B4.out.size))
   have V5 := hid v5.at
   clear bq v5 fA A4 D4 B4
   have al := hid (show Below W5.heap.size W5 (W5.alloc (.cells #[.int .i64 k2, .bool b2, .string r2, .string t2, .slice ko2 N2 kc2, .slice vo2 M2 vc2] 25)) from (Below.refl _ _).alloc (Nat.le_refl _) _)
   have A6 := hid (A5.out.keptAll al.out)
   have D6 := hid (D5.out.keptAll al.out)
   have B6 := hid (B5.out.trans (al.out.mono B5.out.size))
   have V6 := hid (V5.out.kept al.out)
   have X6 := hid (At.new W5 #[.int .i64 k2, .bool b2, .string r2, .string t2, .slice ko2 N2 kc2, .slice vo2 M2 vc2] 25)
   generalize hW6 : W5.alloc (.cells #[.int .i64 k2, .bool b2, .string r2, .string t2, .slice ko2 N2 kc2, .slice vo2 M2 vc2] 25) = W6 at al A6 D6 B6 V6 X6
   clear al A5 D5 B5 V5
   have fo := hid (fun u h1 h2 => formedP_calls ta (.agg #[.int .i64 k1, .bool b1, .string r1, .string t1, .slice ko1 N1 kc1, .slice vo1 M1 vc1]) u h1 h2)
   rw [hwf] at fo
   gi_wp2_with (first | refine wpListIn_load_want 25 _ w.heap.size 0 [.int .i64 k1, .bool b1, .string r1, .string t1, .slice ko1 N1 kc1, .slice vo1 M1 vc1] _ (A6.out.range rfl) Tryd.underlying25 sizeVl rfl rfl rfl (by rfl) ?_ | fail)
   refine ⟨trivial, ?_⟩
   refine (callsIn_wide.2 (fo.out _ (hT'.out.below B6.out) (ha'.out.kept B6.out))).mono ?_
   rintro e W7 ⟨rfl, bq⟩
   have D7 := hid (D6.out.keptAll bq)
   have B7 := hid (B6.out.trans (bq.mono B6.out.size))
   have d0 : W7.cell? ⟨w.heap.size + 1, 0, none⟩ = some (.bool false) := D7.out.cell 0
   have f0 : W7.frozen? ⟨w.heap.size + 1, 0, none⟩ = false := D7.out.frozen 0
   clear bq fo A6 D6 B6 V6 X6 hW6
   gi_wp2
   have hc := World.cell?_setCell_same' W7 ⟨w.heap.size + 1, 0, none⟩ (.bool true) (by rw [d0]; rfl)
   refine ⟨.bool true, ?_, rfl, B7.out.setCell (p := ⟨w.heap.size + 1, 0, none⟩) (by show w.heap.size ≤ w.heap.size + 1; omega) _⟩
   simp [results, Tryd.f3, go_sem, hc]
  ·rw [e1] at fA
   gi_wp2_with (first | refine wpListIn_load_want 25 _ w.heap.size 0 [.int .i64 k1, .bool b1, .string r1, .string t1, .slice ko1 N1 kc1, .slice vo1 M1 vc1] _ (A4.out.range rfl) Tryd.underlying25 sizeVl rfl rfl rfl (by rfl) ?_ | fail)
   refine ⟨trivial, ?_⟩
   refine (callsIn_wide.2 (fA.out _ (hT'.out.below B4.out) (ha'.out.kept B4.out))).mono ?_
   rintro e W5 ⟨x5, rfl, v5, bq⟩
   obtain ⟨k2, b2, r2, t2, ko2, N2, kc2, vo2, M2, vc2, rfl⟩ := v5.at.lets
   have A5 := hid (A4.out.keptAll bq)
   have D5 := hid (D4.out.keptAll bq)
   have B5 := hid (B4.out.trans (bq.mono B4.out.size))
   have V5 := hid v5.at
   clear bq v5 fA A4 D4 B4
   have al := hid (show Below W5.heap.size W5 (W5.alloc (.cells #[.int .i64 k2, .bool b2, .string r2, .string t2, .slice ko2 N2 kc2, .slice vo2 M2 vc2] 25)) from (Below.refl _ _).alloc (Nat.le_refl _) _)
   have A6 := hid (A5.out.keptAll al.out)
   have D6 := hid (D5.out.keptAll al.out)
   have B6 := hid (B5.out.trans (al.out.mono B5.out.size))
   have V6 := hid (V5.out.kept al.out)
   have X6 := hid (At.new W5 #[.int .i64 k2, .bool b2, .string r2, .string t2, .slice ko2 N2 kc2, .slice vo2 M2 vc2] 25)
   generalize hW6 : W5.alloc (.cells #[.int .i64 k2, .bool b2, .string r2, .string t2, .slice ko2 N2 kc2, .slice vo2 M2 vc2] 25) = W6 at al A6 D6 B6 V6 X6
   clear al A5 D5 B5 V5
   have fo := hid (fun u h1 h2 => formedP_calls ta (.agg #[.int .i64 k1, .bool b1, .string r1, .string t1, .slice ko1 N1 kc1, .slice vo1 M1 vc1]) u h1 h2)
   rw [hwf] at fo
   gi_wp2_with (first | refine wpListIn_load_want 25 _ w.heap.size 0 [.int .i64 k1, .bool b1, .string r1, .string t1, .slice ko1 N1 kc1, .slice vo1 M1 vc1] _ (A6.out.range rfl) Tryd.underlying25 sizeVl rfl rfl rfl (by rfl) ?_ | fail)
   refine ⟨trivial, ?_⟩
   refine (callsIn_wide.2 (fo.out _ (hT'.out.below B6.out) (ha'.out.kept B6.out))).mono ?_
   rintro e W7 ⟨rfl, bq⟩
   have D7 := hid (D6.out.keptAll bq)
   have B7 := hid (B6.out.trans (bq.mono B6.out.size))
   have d0 : W7.cell? ⟨w.heap.size + 1, 0, none⟩ = some (.bool false) := D7.out.cell 0
   have f0 : W7.frozen? ⟨w.heap.size + 1, 0, none⟩ = false := D7.out.frozen 0
   clear bq fo A6 D6 B6 V6 X6 hW6
   gi_wp2
   have hc := World.cell?_setCell_same' W7 ⟨w.heap.size + 1, 0, none⟩ (.bool true) (by rw [d0]; rfl)
   refine ⟨.bool true, ?_, rfl, B7.out.setCell (p := ⟨w.heap.size + 1, 0, none⟩) (by show w.heap.size ≤ w.heap.size + 1; omega) _⟩
   simp [results, Tryd.f3, go_sem, hc]
theorem pointerLeads_walk (ta : Vt) (hbl : blkV ta ≤ 1048576) (v0 : Value) (s : ByteArray) (hs : s.size ≤ 1048576) (t : ByteArray) (ht : t.size ≤ 1048576) (w : World) (hP : PowT w) (hT : TabU w) (hM : MxI w) (ha : ValAt w ta v0) :
  Calls Tryd.prog 3 #[v0, .string s, .string t] w fun e w' => e = .returned (.bool true) ∧ Below w.heap.size w w' := by
 obtain ⟨l, rfl⟩ : ∃ l, s = mkL l := ⟨_, (mkL_data s).symm⟩
 obtain ⟨m, rfl⟩ : ∃ m, t = mkL m := ⟨_, (mkL_data t).symm⟩
 rw [mkL_size] at hs ht
 exact callsIn_wide.1 (leads_in ta hbl v0 l m hs ht w hP hT hM ha)
end Go.Proofs.YtgpagaielnemmaaDoor
