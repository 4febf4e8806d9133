/-
 The law PointerLikes, walked (by gen_pts.py out of PuA.src).
-/
import Derived.Test.YtjlcliicdclooaaDoorPtN
import Derived.Test.YtjlcliicdclooaaDoorPtT
import Derived.Test.YtjlcliicdclooaaDoorTpE3
import Derived.Test.YtjlcliicdclooaaDoorTrMb
import Derived.Test.YtjlcliicdclooaaDoorTrN0
namespace Go.Proofs.YtjlcliicdclooaaDoor
open Go.RowKit Go.Shelf
theorem alkB_any (t u : Vt) : ∃ K : Bool, AlkB t u K := by
 by_cases h : wfV t 1024 = true ∧ wfV u 1024 = true ∧ Alk t u
 ·refine ⟨true, ?_⟩
  unfold AlkB
  exact ⟨fun _ => h, fun _ => rfl⟩
 ·refine ⟨false, ?_⟩
  unfold AlkB
  exact ⟨fun e => absurd e Bool.false_ne_true, fun e => absurd e h⟩
set_option maxRecDepth 10000 in
set_option maxHeartbeats 16000000 in
theorem pointerLikes_walk (ta : Vt) (_ : blkV ta ≤ 1048576) (v0 : Value) (tb : Vt) (_ : blkV tb ≤ 1048576) (v1 : Value) (s : ByteArray) (hs : s.size ≤ 1048576) (w : World) (hT : TabU w) (ha : ValAt w ta v0) (hb : ValAt w tb v1) :
  Calls Tryd.prog 6 #[v0, v1, .string s] w fun e w' => e = .returned (.bool true) ∧ Below w.heap.size w w' := by
 obtain ⟨l, rfl⟩ : ∃ l, s = mkL l := ⟨_, (mkL_data s).symm⟩
 rw [mkL_size] at hs
 obtain ⟨k1, b1, r1, t1, ko1, N1, kc1, vo1, M1, vc1, rfl⟩ := ha.lets
 obtain ⟨k2, b2, r2, t2, ko2, N2, kc2, vo2, M2, vc2, rfl⟩ := hb.lets
 have c0 := hid (fun (u : World) (h : TabU u) => awake20_calls u h)
 obtain ⟨P0, hP0⟩ : ∃ B, Hid (byd ta = B) := ⟨_, rfl⟩
 obtain ⟨P1, hP1⟩ : ∃ B, Hid (byd tb = B) := ⟨_, rfl⟩
 obtain ⟨K, hK⟩ := alkB_any ta tb
 have q0 := hid (fun u hu => beyond_calls ta P0 hP0 (.agg #[.int .i64 k1, .bool b1, .string r1, .string t1, .slice ko1 N1 kc1, .slice vo1 M1 vc1]) u hu)
 have q1 := hid (fun u hu => beyond_calls tb P1 hP1 (.agg #[.int .i64 k2, .bool b2, .string r2, .string t2, .slice ko2 N2 kc2, .slice vo2 M2 vc2]) u hu)
 have q2 := hid (fun u h1 h2 h3 => alikeP_calls ta tb K (hid hK) (.agg #[.int .i64 k1, .bool b1, .string r1, .string t1, .slice ko1 N1 kc1, .slice vo1 M1 vc1]) (.agg #[.int .i64 k2, .bool b2, .string r2, .string t2, .slice ko2 N2 kc2, .slice vo2 M2 vc2]) u h1 h2 h3)
 have hK' := hid hK
 have ha' := hid ha
 have hb' := hid hb
 have hT' := hid hT
 have A1 : Hid (At (w.alloc (.cells #[.int .i64 k1, .bool b1, .string r1, .string t1, .slice ko1 N1 kc1, .slice vo1 M1 vc1] 35)) w.heap.size #[.int .i64 k1, .bool b1, .string r1, .string t1, .slice ko1 N1 kc1, .slice vo1 M1 vc1] 35) := At.new w _ _
 have B1 : Hid (Below w.heap.size w (w.alloc (.cells #[.int .i64 k1, .bool b1, .string r1, .string t1, .slice ko1 N1 kc1, .slice vo1 M1 vc1] 35))) := (Below.refl _ w).alloc (Nat.le_refl _) _
 obtain ⟨W1, hW1⟩ : ∃ W, w.alloc (.cells #[.int .i64 k1, .bool b1, .string r1, .string t1, .slice ko1 N1 kc1, .slice vo1 M1 vc1] 35) = W := ⟨_, rfl⟩
 obtain ⟨W2, hW2⟩ : ∃ W, W1.alloc (.cells #[.int .i64 k2, .bool b2, .string r2, .string t2, .slice ko2 N2 kc2, .slice vo2 M2 vc2] 35) = W := ⟨_, rfl⟩
 rw [hW1] at A1 B1
 have hsz1 : W1.heap.size = w.heap.size + 1 := by rw [← hW1, World.size_alloc]
 have A2 : Hid (At W2 w.heap.size #[.int .i64 k1, .bool b1, .string r1, .string t1, .slice ko1 N1 kc1, .slice vo1 M1 vc1] 35) := by rw [← hW2]; exact A1.out.alloc _
 have D2 : Hid (At W2 (w.heap.size + 1) #[.int .i64 k2, .bool b2, .string r2, .string t2, .slice ko2 N2 kc2, .slice vo2 M2 vc2] 35) := by
  have h := At.new W1 #[.int .i64 k2, .bool b2, .string r2, .string t2, .slice ko2 N2 kc2, .slice vo2 M2 vc2] 35
  rw [hW2, hsz1] at h
  exact h
 have B2 : Hid (Below w.heap.size w W2) := by
  rw [← hW2]
  exact B1.out.alloc (by rw [hsz1]; omega) _
 clear A1 B1 ha hb hT hK
 cases P0 with
 | true =>
  generalize mkL l = sl
  go_enter Tryd.func6, Tryd.ntmps6
  go_wp2_with fail
  refine Calls.mono (c0.out _ (hT'.out.below B2.out)) ?_
  rintro e w3 ⟨rfl, bq⟩
  have A3 := hid (A2.out.keptAll bq)
  have D3 := hid (D2.out.keptAll bq)
  have B3 := hid (B2.out.trans (bq.mono B2.out.size))
  clear bq c0 A2 D2 B2 hW1 hW2 hsz1
  go_wp2_with (first | refine wpList_load_want 35 _ w.heap.size 0 [.int .i64 k1, .bool b1, .string r1, .string t1, .slice ko1 N1 kc1, .slice vo1 M1 vc1] _ (A3.out.range rfl) Tryd.underlying35 sizeVl rfl rfl rfl (by rfl) ?_ | fail)
  refine Calls.mono (q0.out _ (ha'.out.kept B3.out)) ?_
  rintro e w4 ⟨rfl, bq⟩
  have A4 := hid (A3.out.keptAll bq)
  have D4 := hid (D3.out.keptAll bq)
  have B4 := hid (B3.out.trans (bq.mono B3.out.size))
  clear bq q0 A3 D3 B3
  go_wp2
  go_ret
  exact ⟨rfl, B4.out⟩
 | false =>
  cases P1 with
  | true =>
   generalize mkL l = sl
   go_enter Tryd.func6, Tryd.ntmps6
   go_wp2_with fail
   refine Calls.mono (c0.out _ (hT'.out.below B2.out)) ?_
   rintro e w3 ⟨rfl, bq⟩
   have A3 := hid (A2.out.keptAll bq)
   have D3 := hid (D2.out.keptAll bq)
   have B3 := hid (B2.out.trans (bq.mono B2.out.size))
   clear bq c0 A2 D2 B2 hW1 hW2 hsz1
   go_wp2_with (first | refine wpList_load_want 35 _ w.heap.size 0 [.int .i64 k1, .bool b1, .string r1, .string t1, .slice ko1 N1 kc1, .slice vo1 M1 vc1] _ (A3.out.range rfl) Tryd.underlying35 sizeVl rfl rfl rfl (by rfl) ?_ | fail)
   refine Calls.mono (q0.out _ (ha'.out.kept B3.out)) ?_
   rintro e w4 ⟨rfl, bq⟩
   have A4 := hid (A3.out.keptAll bq)
   have D4 := hid (D3.out.keptAll bq)
   have B4 := hid (B3.out.trans (bq.mono B3.out.size))
   clear bq q0 A3 D3 B3
   go_wp2_with (first | refine wpList_load_want 35 _ (w.heap.size + 1) 0 [.int .i64 k2, .bool b2, .string r2, .string t2, .slice ko2 N2 kc2, .slice vo2 M2 vc2] _ (D4.out.range rfl) Tryd.underlying35 sizeVl rfl rfl rfl (by rfl) ?_ | fail)
   refine Calls.mono (q1.out _ (hb'.out.kept B4.out)) ?_
   rintro e w5 ⟨rfl, bq⟩
   have A5 := hid (A4.out.keptAll bq)
   have D5 := hid (D4.out.keptAll bq)
   have B5 := hid (B4.out.trans (bq.mono B4.out.size))
   clear bq q1 A4 D4 B4
   go_wp2
   go_ret
   exact ⟨rfl, B5.out⟩
  | false =>
   cases K with
   | false =>
    generalize mkL l = sl
    go_enter Tryd.func6, Tryd.ntmps6
    go_wp2_with fail
    refine Calls.mono (c0.out _ (hT'.out.below B2.out)) ?_
    rintro e w3 ⟨rfl, bq⟩
    have A3 := hid (A2.out.keptAll bq)
    have D3 := hid (D2.out.keptAll bq)
    have B3 := hid (B2.out.trans (bq.mono B2.out.size))
    clear bq c0 A2 D2 B2 hW1 hW2 hsz1
    go_wp2_with (first | refine wpList_load_want 35 _ w.heap.size 0 [.int .i64 k1, .bool b1, .string r1, .string t1, .slice ko1 N1 kc1, .slice vo1 M1 vc1] _ (A3.out.range rfl) Tryd.underlying35 sizeVl rfl rfl rfl (by rfl) ?_ | fail)
    refine Calls.mono (q0.out _ (ha'.out.kept B3.out)) ?_
    rintro e w4 ⟨rfl, bq⟩
    have A4 := hid (A3.out.keptAll bq)
    have D4 := hid (D3.out.keptAll bq)
    have B4 := hid (B3.out.trans (bq.mono B3.out.size))
    clear bq q0 A3 D3 B3
    go_wp2_with (first | refine wpList_load_want 35 _ (w.heap.size + 1) 0 [.int .i64 k2, .bool b2, .string r2, .string t2, .slice ko2 N2 kc2, .slice vo2 M2 vc2] _ (D4.out.range rfl) Tryd.underlying35 sizeVl rfl rfl rfl (by rfl) ?_ | fail)
    refine Calls.mono (q1.out _ (hb'.out.kept B4.out)) ?_
    rintro e w5 ⟨rfl, bq⟩
    have A5 := hid (A4.out.keptAll bq)
    have D5 := hid (D4.out.keptAll bq)
    have B5 := hid (B4.out.trans (bq.mono B4.out.size))
    clear bq q1 A4 D4 B4
    go_wp2_with (first | refine wpList_load_want 35 _ w.heap.size 0 [.int .i64 k1, .bool b1, .string r1, .string t1, .slice ko1 N1 kc1, .slice vo1 M1 vc1] _ (A5.out.range rfl) Tryd.underlying35 sizeVl rfl rfl rfl (by rfl) ?_ | refine wpList_load_want 35 _ (w.heap.size + 1) 0 [.int .i64 k2, .bool b2, .string r2, .string t2, .slice ko2 N2 kc2, .slice vo2 M2 vc2] _ (D5.out.range rfl) Tryd.underlying35 sizeVl rfl rfl rfl (by rfl) ?_ | fail)
    refine Calls.mono (q2.out _ (hT'.out.below B5.out) (ha'.out.kept B5.out) (hb'.out.kept B5.out)) ?_
    rintro e w6 ⟨rfl, bq⟩
    have A6 := hid (A5.out.keptAll bq)
    have D6 := hid (D5.out.keptAll bq)
    have B6 := hid (B5.out.trans (bq.mono B5.out.size))
    clear bq q2 A5 D5 B5
    go_wp2
    go_ret
    exact ⟨rfl, B6.out⟩
   | true =>
    have fdA := hid (fun u h1 h2 => find_calls ta (byd_ln hP0.out) l (by omega) (.agg #[.int .i64 k1, .bool b1, .string r1, .string t1, .slice ko1 N1 kc1, .slice vo1 M1 vc1]) u h1 h2)
    have fdB := hid (fun u h1 h2 => find_calls tb (byd_ln hP1.out) l (by omega) (.agg #[.int .i64 k2, .bool b2, .string r2, .string t2, .slice ko2 N2 kc2, .slice vo2 M2 vc2]) u h1 h2)
    obtain ⟨x, y, Bf, Ef, e1, e2, e3⟩ := fd_alk hK'.out l
    rw [e1] at fdA
    rw [e2] at fdB
    have e3' := hid e3
    generalize mkL l = sl at fdA fdB ⊢
    clear e1 e2 e3 hP0 hP1 hK' hs
    cases Bf with
    | false =>
     go_enter Tryd.func6, Tryd.ntmps6
     go_wp2_with fail
     refine Calls.mono (c0.out _ (hT'.out.below B2.out)) ?_
     rintro e w3 ⟨rfl, bq⟩
     have A3 := hid (A2.out.keptAll bq)
     have D3 := hid (D2.out.keptAll bq)
     have B3 := hid (B2.out.trans (bq.mono B2.out.size))
     clear bq c0 A2 D2 B2 hW1 hW2 hsz1
     go_wp2_with (first | refine wpList_load_want 35 _ w.heap.size 0 [.int .i64 k1, .bool b1, .string r1, .string t1, .slice ko1 N1 kc1, .slice vo1 M1 vc1] _ (A3.out.range rfl) Tryd.underlying35 sizeVl rfl rfl rfl (by rfl) ?_ | fail)
     refine Calls.mono (q0.out _ (ha'.out.kept B3.out)) ?_
     rintro e w4 ⟨rfl, bq⟩
     have A4 := hid (A3.out.keptAll bq)
     have D4 := hid (D3.out.keptAll bq)
     have B4 := hid (B3.out.trans (bq.mono B3.out.size))
     clear bq q0 A3 D3 B3
     go_wp2_with (first | refine wpList_load_want 35 _ (w.heap.size + 1) 0 [.int .i64 k2, .bool b2, .string r2, .string t2, .slice ko2 N2 kc2, .slice vo2 M2 vc2] _ (D4.out.range rfl) Tryd.underlying35 sizeVl rfl rfl rfl (by rfl) ?_ | fail)
     refine Calls.mono (q1.out _ (hb'.out.kept B4.out)) ?_
     rintro e w5 ⟨rfl, bq⟩
     have A5 := hid (A4.out.keptAll bq)
     have D5 := hid (D4.out.keptAll bq)
     have B5 := hid (B4.out.trans (bq.mono B4.out.size))
     clear bq q1 A4 D4 B4
     go_wp2_with (first | refine wpList_load_want 35 _ w.heap.size 0 [.int .i64 k1, .bool b1, .string r1, .string t1, .slice ko1 N1 kc1, .slice vo1 M1 vc1] _ (A5.out.range rfl) Tryd.underlying35 sizeVl rfl rfl rfl (by rfl) ?_ | refine wpList_load_want 35 _ (w.heap.size + 1) 0 [.int .i64 k2, .bool b2, .string r2, .string t2, .slice ko2 N2 kc2, .slice vo2 M2 vc2] _ (D5.out.range rfl) Tryd.underlying35 sizeVl rfl rfl rfl (by rfl) ?_ | fail)
     refine Calls.mono (q2.out _ (hT'.out.below B5.out) (ha'.out.kept B5.out) (hb'.out.kept B5.out)) ?_
     rintro e w6 ⟨rfl, bq⟩
     have A6 := hid (A5.out.keptAll bq)
     have D6 := hid (D5.out.keptAll bq)
     have B6 := hid (B5.out.trans (bq.mono B5.out.size))
     clear bq q2 A5 D5 B5
     go_wp2_with (first | refine wpList_load_want 35 _ w.heap.size 0 [.int .i64 k1, .bool b1, .string r1, .string t1, .slice ko1 N1 kc1, .slice vo1 M1 vc1] _ (A6.out.range rfl) Tryd.underlying35 sizeVl rfl rfl rfl (by rfl) ?_ | fail)
     refine Calls.mono (fdA.out _ (hT'.out.below B6.out) (ha'.out.kept B6.out)) ?_
     rintro e w7 ⟨x, rfl, v7, bq⟩
     obtain ⟨k3, b3, r3, t3, ko3, N3, kc3, vo3, M3, vc3, rfl⟩ := v7.at.lets
     have D7 := hid (D6.out.keptAll bq)
     have B7 := hid (B6.out.trans (bq.mono B6.out.size))
     have V7 := hid v7.at
     clear bq v7 fdA A6 D6 B6
     have al := hid (show Below w7.heap.size w7 (w7.alloc (.cells #[.int .i64 k3, .bool b3, .string r3, .string t3, .slice ko3 N3 kc3, .slice vo3 M3 vc3] 35)) from (Below.refl _ _).alloc (Nat.le_refl _) _)
     have D8 := hid (D7.out.alloc (.cells #[.int .i64 k3, .bool b3, .string r3, .string t3, .slice ko3 N3 kc3, .slice vo3 M3 vc3] 35))
     have N8 := hid (At.new w7 #[.int .i64 k3, .bool b3, .string r3, .string t3, .slice ko3 N3 kc3, .slice vo3 M3 vc3] 35)
     have B8 := hid (B7.out.trans (al.out.mono B7.out.size))
     have V8 := hid (V7.out.kept al.out)
     generalize hW8 : w7.alloc (.cells #[.int .i64 k3, .bool b3, .string r3, .string t3, .slice ko3 N3 kc3, .slice vo3 M3 vc3] 35) = W8 at D8 N8 B8 V8 al
     clear al D7 B7 V7
     go_wp2_with (first | refine wpList_load_want 35 _ (w.heap.size + 1) 0 [.int .i64 k2, .bool b2, .string r2, .string t2, .slice ko2 N2 kc2, .slice vo2 M2 vc2] _ (D8.out.range rfl) Tryd.underlying35 sizeVl rfl rfl rfl (by rfl) ?_ | fail)
     refine Calls.mono (fdB.out _ (hT'.out.below B8.out) (hb'.out.kept B8.out)) ?_
     rintro e w9 ⟨x, rfl, v9, bq⟩
     obtain ⟨k4, b4, r4, t4, ko4, N4, kc4, vo4, M4, vc4, rfl⟩ := v9.at.lets
     have N9 := hid (N8.out.keptAll bq)
     have B9 := hid (B8.out.trans (bq.mono B8.out.size))
     have V9 := hid (V8.out.kept bq)
     have X9 := hid v9.at
     clear bq v9 fdB D8 N8 B8 V8 hW8
     have al := hid (show Below w9.heap.size w9 (w9.alloc (.cells #[.int .i64 k4, .bool b4, .string r4, .string t4, .slice ko4 N4 kc4, .slice vo4 M4 vc4] 35)) from (Below.refl _ _).alloc (Nat.le_refl _) _)
     have N10 := hid (N9.out.alloc (.cells #[.int .i64 k4, .bool b4, .string r4, .string t4, .slice ko4 N4 kc4, .slice vo4 M4 vc4] 35))
     have M10 := hid (At.new w9 #[.int .i64 k4, .bool b4, .string r4, .string t4, .slice ko4 N4 kc4, .slice vo4 M4 vc4] 35)
     have B10 := hid (B9.out.trans (al.out.mono B9.out.size))
     have V10 := hid (V9.out.kept al.out)
     have X10 := hid (X9.out.kept al.out)
     generalize hW10 : w9.alloc (.cells #[.int .i64 k4, .bool b4, .string r4, .string t4, .slice ko4 N4 kc4, .slice vo4 M4 vc4] 35) = W10 at N10 M10 B10 V10 X10 al
     clear al N9 B9 V9 X9
     go_wp2
     go_ret
     exact ⟨rfl, B10.out⟩
    | true =>
     have sm := hid (fun va vb u h1 h2 h3 => alikeP_calls x y true (hid (e3'.out rfl)) va vb u h1 h2 h3)
     go_enter Tryd.func6, Tryd.ntmps6
     go_wp2_with fail
     refine Calls.mono (c0.out _ (hT'.out.below B2.out)) ?_
     rintro e w3 ⟨rfl, bq⟩
     have A3 := hid (A2.out.keptAll bq)
     have D3 := hid (D2.out.keptAll bq)
     have B3 := hid (B2.out.trans (bq.mono B2.out.size))
     clear bq c0 A2 D2 B2 hW1 hW2 hsz1
     go_wp2_with (first | refine wpList_load_want 35 _ w.heap.size 0 [.int .i64 k1, .bool b1, .string r1, .string t1, .slice ko1 N1 kc1, .slice vo1 M1 vc1] _ (A3.out.range rfl) Tryd.underlying35 sizeVl rfl rfl rfl (by rfl) ?_ | fail)
     refine Calls.mono (q0.out _ (ha'.out.kept B3.out)) ?_
     rintro e w4 ⟨rfl, bq⟩
     have A4 := hid (A3.out.keptAll bq)
     have D4 := hid (D3.out.keptAll bq)
     have B4 := hid (B3.out.trans (bq.mono B3.out.size))
     clear bq q0 A3 D3 B3
     go_wp2_with (first | refine wpList_load_want 35 _ (w.heap.size + 1) 0 [.int .i64 k2, .bool b2, .string r2, .string t2, .slice ko2 N2 kc2, .slice vo2 M2 vc2] _ (D4.out.range rfl) Tryd.underlying35 sizeVl rfl rfl rfl (by rfl) ?_ | fail)
     refine Calls.mono (q1.out _ (hb'.out.kept B4.out)) ?_
     rintro e w5 ⟨rfl, bq⟩
     have A5 := hid (A4.out.keptAll bq)
     have D5 := hid (D4.out.keptAll bq)
     have B5 := hid (B4.out.trans (bq.mono B4.out.size))
     clear bq q1 A4 D4 B4
     go_wp2_with (first | refine wpList_load_want 35 _ w.heap.size 0 [.int .i64 k1, .bool b1, .string r1, .string t1, .slice ko1 N1 kc1, .slice vo1 M1 vc1] _ (A5.out.range rfl) Tryd.underlying35 sizeVl rfl rfl rfl (by rfl) ?_ | refine wpList_load_want 35 _ (w.heap.size + 1) 0 [.int .i64 k2, .bool b2, .string r2, .string t2, .slice ko2 N2 kc2, .slice vo2 M2 vc2] _ (D5.out.range rfl) Tryd.underlying35 sizeVl rfl rfl rfl (by rfl) ?_ | fail)
     refine Calls.mono (q2.out _ (hT'.out.below B5.out) (ha'.out.kept B5.out) (hb'.out.kept B5.out)) ?_
     rintro e w6 ⟨rfl, bq⟩
     have A6 := hid (A5.out.keptAll bq)
     have D6 := hid (D5.out.keptAll bq)
     have B6 := hid (B5.out.trans (bq.mono B5.out.size))
     clear bq q2 A5 D5 B5
     go_wp2_with (first | refine wpList_load_want 35 _ w.heap.size 0 [.int .i64 k1, .bool b1, .string r1, .string t1, .slice ko1 N1 kc1, .slice vo1 M1 vc1] _ (A6.out.range rfl) Tryd.underlying35 sizeVl rfl rfl rfl (by rfl) ?_ | fail)
     refine Calls.mono (fdA.out _ (hT'.out.below B6.out) (ha'.out.kept B6.out)) ?_
     rintro e w7 ⟨x, rfl, v7, bq⟩
     obtain ⟨k3, b3, r3, t3, ko3, N3, kc3, vo3, M3, vc3, rfl⟩ := v7.at.lets
     have D7 := hid (D6.out.keptAll bq)
     have B7 := hid (B6.out.trans (bq.mono B6.out.size))
     have V7 := hid v7.at
     clear bq v7 fdA A6 D6 B6
     have al := hid (show Below w7.heap.size w7 (w7.alloc (.cells #[.int .i64 k3, .bool b3, .string r3, .string t3, .slice ko3 N3 kc3, .slice vo3 M3 vc3] 35)) from (Below.refl _ _).alloc (Nat.le_refl _) _)
     have D8 := hid (D7.out.alloc (.cells #[.int .i64 k3, .bool b3, .string r3, .string t3, .slice ko3 N3 kc3, .slice vo3 M3 vc3] 35))
     have N8 := hid (At.new w7 #[.int .i64 k3, .bool b3, .string r3, .string t3, .slice ko3 N3 kc3, .slice vo3 M3 vc3] 35)
     have B8 := hid (B7.out.trans (al.out.mono B7.out.size))
     have V8 := hid (V7.out.kept al.out)
     generalize hW8 : w7.alloc (.cells #[.int .i64 k3, .bool b3, .string r3, .string t3, .slice ko3 N3 kc3, .slice vo3 M3 vc3] 35) = W8 at D8 N8 B8 V8 al
     clear al D7 B7 V7
     go_wp2_with (first | refine wpList_load_want 35 _ (w.heap.size + 1) 0 [.int .i64 k2, .bool b2, .string r2, .string t2, .slice ko2 N2 kc2, .slice vo2 M2 vc2] _ (D8.out.range rfl) Tryd.underlying35 sizeVl rfl rfl rfl (by rfl) ?_ | fail)
     refine Calls.mono (fdB.out _ (hT'.out.below B8.out) (hb'.out.kept B8.out)) ?_
     rintro e w9 ⟨x, rfl, v9, bq⟩
     obtain ⟨k4, b4, r4, t4, ko4, N4, kc4, vo4, M4, vc4, rfl⟩ := v9.at.lets
     have N9 := hid (N8.out.keptAll bq)
     have B9 := hid (B8.out.trans (bq.mono B8.out.size))
     have V9 := hid (V8.out.kept bq)
     have X9 := hid v9.at
     clear bq v9 fdB D8 N8 B8 V8 hW8
     have al := hid (show Below w9.heap.size w9 (w9.alloc (.cells #[.int .i64 k4, .bool b4, .string r4, .string t4, .slice ko4 N4 kc4, .slice vo4 M4 vc4] 35)) from (Below.refl _ _).alloc (Nat.le_refl _) _)
     have N10 := hid (N9.out.alloc (.cells #[.int .i64 k4, .bool b4, .string r4, .string t4, .slice ko4 N4 kc4, .slice vo4 M4 vc4] 35))
     have M10 := hid (At.new w9 #[.int .i64 k4, .bool b4, .string r4, .string t4, .slice ko4 N4 kc4, .slice vo4 M4 vc4] 35)
     have B10 := hid (B9.out.trans (al.out.mono B9.out.size))
     have V10 := hid (V9.out.kept al.out)
     have X10 := hid (X9.out.kept al.out)
     generalize hW10 : w9.alloc (.cells #[.int .i64 k4, .bool b4, .string r4, .string t4, .slice ko4 N4 kc4, .slice vo4 M4 vc4] 35) = W10 at N10 M10 B10 V10 X10 al
     clear al N9 B9 V9 X9
     go_wp2_with (first | refine wpList_load_want 35 _ w7.heap.size 0 [.int .i64 k3, .bool b3, .string r3, .string t3, .slice ko3 N3 kc3, .slice vo3 M3 vc3] _ (N10.out.range rfl) Tryd.underlying35 sizeVl rfl rfl rfl (by rfl) ?_ | refine wpList_load_want 35 _ w9.heap.size 0 [.int .i64 k4, .bool b4, .string r4, .string t4, .slice ko4 N4 kc4, .slice vo4 M4 vc4] _ (M10.out.range rfl) Tryd.underlying35 sizeVl rfl rfl rfl (by rfl) ?_ | fail)
     refine Calls.mono (sm.out _ _ _ (hT'.out.below B10.out) V10.out X10.out) ?_
     rintro e w11 ⟨rfl, bq⟩
     have B11 := hid (B10.out.trans (bq.mono B10.out.size))
     clear bq
     go_wp2
     go_ret
     exact ⟨rfl, B11.out⟩
end Go.Proofs.YtjlcliicdclooaaDoor
