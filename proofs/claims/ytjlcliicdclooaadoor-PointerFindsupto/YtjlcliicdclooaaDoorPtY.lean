/-
 The value that a pointer leads to, by the reference: Find (by gen_pts.py out of PtY.src).
-/
import Derived.Test.YtjlcliicdclooaaDoorPtX
import Derived.Test.YtjlcliicdclooaaDoorPtH
import Derived.Test.YtjlcliicdclooaaDoorTrHA
import Derived.Deep.RegionWith
namespace Go.Proofs.YtjlcliicdclooaaDoor
open Go.RowKit Go.Shelf
/-- What the reference's Find answers of a value that lies in w. -/
def FdR (F : Vt × Bool × Int) (w : World) (e : Ending) (w' : World) : Prop := ∃ x : Value, e = .returned (.tuple #[x, .bool F.2.1, .int .i64 F.2.2]) ∧ ValAt w F.1 x ∧ Below w.heap.size w w'
set_option maxRecDepth 10000 in
set_option maxHeartbeats 16000000 in
theorem findR_calls (t0 : Vt) (hz0 : szV t0) (l : List UInt8) (hl : l.length ≤ 4294967296) (va : Value) (w : World) (ha : ValAt w t0 va) :
  Calls Tryd.prog 15 #[va, .string (mkL l)] w fun e w' => FdR (fdF t0 l) w e w' := by
 obtain ⟨k1, b1, r1, t1, ko1, N1, kc1, vo1, M1, vc1, rfl⟩ := ha.lets
 have hform := hid (fun u (hb : Below w.heap.size w u) => formed17_calls t0 hz0 _ u (ha.kept hb))
 have hpar := hid (fun u => parseR20_calls l hl u)
 have hlen := ptN_len l
 have hF : Hid (fdF t0 l = if wfV t0 1024 = true then (if (ptrL l).isSome = true then (match ldV t0 ((ptN l).map mkL) with | some u => (u, true, (0 : Int)) | none => (vt0, false, (0 : Int))) else (vt0, false, (200 : Int))) else (vt0, false, (1 : Int))) := rfl
 have hE : Hid (ptE l = if (ptrL l).isSome = true then 0 else 200) := hid (by unfold ptE; rfl)
 have V0 := hid ha
 have hLn : ((ptN l).map mkL).length ≤ 4294967296 := by rw [List.length_map]; omega
 generalize (ptN l).map mkL = L at hpar hF hLn
 generalize ptE l = E at hpar hE
 generalize (ptrL l).isSome = P at hF hE
 generalize fdF t0 l = Fd at hF ⊢
 generalize mkL l = s at hpar ⊢
 generalize hWf : wfV t0 1024 = Wf at hform hF
 have hWf' := hid hWf
 have A1 : Hid (At (w.alloc (.cells #[.int .i64 k1, .bool b1, .string r1, .string t1, .slice ko1 N1 kc1, .slice vo1 M1 vc1] 35)) w.heap.size #[.int .i64 k1, .bool b1, .string r1, .string t1, .slice ko1 N1 kc1, .slice vo1 M1 vc1] 35) := At.new w _ _
 have B1 : Hid (Below w.heap.size w (w.alloc (.cells #[.int .i64 k1, .bool b1, .string r1, .string t1, .slice ko1 N1 kc1, .slice vo1 M1 vc1] 35))) := (Below.refl _ w).alloc (Nat.le_refl _) _
 obtain ⟨W1, hW1⟩ : ∃ W, w.alloc (.cells #[.int .i64 k1, .bool b1, .string r1, .string t1, .slice ko1 N1 kc1, .slice vo1 M1 vc1] 35) = W := ⟨_, rfl⟩
 obtain ⟨W2, hW2⟩ : ∃ W, W1.alloc (.cells #[.int .i64 0, .bool false, .string ⟨#[]⟩, .string ⟨#[]⟩, .slice none 0 0, .slice none 0 0] 35) = W := ⟨_, rfl⟩
 rw [hW1] at A1 B1
 have hsz1 : W1.heap.size = w.heap.size + 1 := by rw [← hW1, World.size_alloc]
 have A2 : Hid (At W2 w.heap.size #[.int .i64 k1, .bool b1, .string r1, .string t1, .slice ko1 N1 kc1, .slice vo1 M1 vc1] 35) := by rw [← hW2]; exact A1.out.alloc _
 have Z2 : Hid (At W2 (w.heap.size + 1) #[.int .i64 0, .bool false, .string ⟨#[]⟩, .string ⟨#[]⟩, .slice none 0 0, .slice none 0 0] 35) := by
  have h := At.new W1 #[.int .i64 0, .bool false, .string ⟨#[]⟩, .string ⟨#[]⟩, .slice none 0 0, .slice none 0 0] 35
  rw [hW2, hsz1] at h
  exact h
 have B2 : Hid (Below w.heap.size w W2) := by
  rw [← hW2]
  exact B1.out.alloc (by rw [hsz1]; omega) _
 have z2 : Hid (w.heap.size + 2 ≤ W2.heap.size) := by rw [← hW2]; show _ ≤ _; rw [World.size_alloc, hsz1]; omega
 clear A1 B1 ha hl hlen hWf hz0
 go_enter Tryd.func15, Tryd.ntmps15
 go_wp2_with (first | refine wpList_load_want 35 _ w.heap.size 0 [.int .i64 k1, .bool b1, .string r1, .string t1, .slice ko1 N1 kc1, .slice vo1 M1 vc1] _ (A2.out.range rfl) Tryd.underlying35 sizeVl rfl rfl rfl (by rfl) ?_ | fail)
 refine Calls.mono (hform.out _ B2.out) ?_
 rintro e w3 ⟨rfl, b3⟩
 have A3 := hid (A2.out.keptAll b3)
 have Z3 := hid (Z2.out.keptAll b3)
 have B3 := hid (B2.out.trans (b3.mono B2.out.size))
 have z3 := hid (Nat.le_trans z2.out b3.size)
 clear b3 hW1 hW2 hsz1 A2 Z2 B2 z2 hform
 cases Wf with
 | false =>
  rw [if_neg (by decide)] at hF
  have d0 := Z3.out.cell 0
  have d1 := Z3.out.cell 1
  have d2 := Z3.out.cell 2
  have d3 := Z3.out.cell 3
  have d4 := Z3.out.cell 4
  have d5 := Z3.out.cell 5
  have f0 := Z3.out.frozen 0
  have f1 := Z3.out.frozen 1
  have f2 := Z3.out.frozen 2
  have f3 := Z3.out.frozen 3
  have f4 := Z3.out.frozen 4
  have f5 := Z3.out.frozen 5
  simp only [List.getElem?_toArray, List.getElem?_cons_zero, List.getElem?_cons_succ] at d0 d1 d2 d3 d4 d5
  go_wp2
  refine ret_val3 (p := 4) (u := 5) (v := 6) rfl ?_ Z3.out.six rfl ?_ ?_
  ·rfl
  ·rfl
  refine ⟨_, by rw [hF.out]; rfl, ?_, below_six B3.out (by omega) _ _ _ _ _ _⟩
  rw [hF.out]
  exact vt0_at _
 | true =>
  rw [if_pos rfl] at hF
  go_wp2_with fail
  refine Calls.mono (hpar.out _) ?_
  rintro e w4 ⟨v, rfl, k4, b4⟩
  obtain ⟨so, cap, rfl⟩ := k4.shape
  have A4 := hid (A3.out.keptAll b4)
  have Z4 := hid (Z3.out.keptAll b4)
  have B4 := hid (B3.out.trans (b4.mono B3.out.size))
  have K4 := hid ((k4.row.2).kept (S' := fun c => w.heap.size + 2 ≤ c) (fun c _ hc => Nat.le_trans z3.out hc) (SameOn.below (Below.refl _ _)))
  clear b4 A3 Z3 B3 k4 hpar
  cases P with
  | false =>
   rw [if_neg (by decide)] at hF hE
   obtain rfl := hE.out
   have d0 := Z4.out.cell 0
   have d1 := Z4.out.cell 1
   have d2 := Z4.out.cell 2
   have d3 := Z4.out.cell 3
   have d4 := Z4.out.cell 4
   have d5 := Z4.out.cell 5
   have f0 := Z4.out.frozen 0
   have f1 := Z4.out.frozen 1
   have f2 := Z4.out.frozen 2
   have f3 := Z4.out.frozen 3
   have f4 := Z4.out.frozen 4
   have f5 := Z4.out.frozen 5
   simp only [List.getElem?_toArray, List.getElem?_cons_zero, List.getElem?_cons_succ] at d0 d1 d2 d3 d4 d5
   go_wp2
   refine ret_val3 (p := 4) (u := 5) (v := 6) rfl ?_ Z4.out.six rfl ?_ ?_
   ·rfl
   ·rfl
   refine ⟨_, by rw [hF.out]; rfl, ?_, below_six B4.out (by omega) _ _ _ _ _ _⟩
   rw [hF.out]
   exact vt0_at _
  | true =>
   rw [if_pos rfl] at hF hE
   obtain rfl := hE.out
   obtain ⟨n, hn⟩ : ∃ n, Hid (L.length = n) := ⟨_, rfl⟩
   rw [hn.out] at hLn ⊢
   have hni : (n : Int) ≤ 4294967296 := by omega
   clear hE
   go_wp2
   go_loopw [9] (fun ii wr => ∃ (i : Nat) (tt : Vt) (k2 : Int) (b2 : Bool) (r2 t2 : ByteArray) (ko2 : Option Addr) (N2 kc2 : Nat) (vo2 : Option Addr) (M2 vc2 : Nat), i ≤ n ∧ ii = .int .i64 (i : Int) ∧ Hid (At wr w.heap.size #[.int .i64 k2, .bool b2, .string r2, .string t2, .slice ko2 N2 kc2, .slice vo2 M2 vc2] 35) ∧ Hid (At wr (w.heap.size + 1) #[.int .i64 0, .bool false, .string ⟨#[]⟩, .string ⟨#[]⟩, .slice none 0 0, .slice none 0 0] 35) ∧ Hid (ValAt w tt (.agg #[.int .i64 k2, .bool b2, .string r2, .string t2, .slice ko2 N2 kc2, .slice vo2 M2 vc2])) ∧ Hid (ldV t0 L = ldV tt (L.drop i)) ∧ Hid (∃ d, wfV tt d = true) ∧ Hid (KeysOn (fun c => w.heap.size + 2 ≤ c) wr so L) ∧ Hid (Below w.heap.size w wr)) (fun ii _ => n - (intOf ii).toNat)
   case atStart => exact ⟨0, t0, k1, b1, r1, t1, ko1, N1, kc1, vo1, M1, vc1, Nat.zero_le _, rfl, A4, Z4, V0, hid rfl, hid ⟨_, hWf'.out⟩, K4, B4⟩
   case round =>
    clear A4 Z4 B4 K4
    obtain ⟨i, tt, k2, b2, r2, t2, ko2, N2, kc2, vo2, M2, vc2, hin, rfl, hA, hZ, hV, hld, hwf, hK, hB⟩ := hrel
    by_cases hi : i < n
    ·have hii : (i : Int) < (n : Int) := by omega
     obtain ⟨nm, hnm⟩ : ∃ s, L[i]? = some s := ⟨_, List.getElem?_eq_getElem (by rw [hn.out]; exact hi)⟩
     have hnl := hK.out.len hnm
     obtain ⟨-, g, o, rfl, hg1, hg2, cg⟩ := hK.out i nm hnm
     have hdr := hid (drop_key hnm)
     obtain ⟨d, hwfd⟩ := hwf.out
     have cst := hid (fun (u : World) (hb : Below w.heap.size w u) => stepR_calls tt d hwfd nm hnl _ w u hV.out hb)
     have cg' : wr.drew.cell? ⟨g, o + i, none⟩ = some (.string nm) := cg
     have Ad := hid hA.out.drew
     have Bd := hid hB.out.drew
     have e0 := Ad.out.cell 0
     have e1 := Ad.out.cell 1
     have e2 := Ad.out.cell 2
     have e3 := Ad.out.cell 3
     have e4 := Ad.out.cell 4
     have e5 := Ad.out.cell 5
     simp only [List.getElem?_toArray, List.getElem?_cons_zero, List.getElem?_cons_succ] at e0 e1 e2 e3 e4 e5
     have i0 : (0 : Int) ≤ (i : Int) := by omega
     clear hnm hnl
     go_wp2
     have Na := hid (At.new wr #[.int .i64 0, .bool false, .string ⟨#[]⟩, .string ⟨#[]⟩, .slice none 0 0, .slice none 0 0] 35).drew
     have Ba := hid (show Below w.heap.size w (wr.alloc (.cells #[.int .i64 0, .bool false, .string ⟨#[]⟩, .string ⟨#[]⟩, .slice none 0 0, .slice none 0 0] 35)).drew from (hB.out.alloc hB.out.size _).drew)
     have Aa := hid (hA.out.alloc (.cells #[.int .i64 0, .bool false, .string ⟨#[]⟩, .string ⟨#[]⟩, .slice none 0 0, .slice none 0 0] 35)).drew
     have h0 := Aa.out.cell 0
     have h1 := Aa.out.cell 1
     have h2 := Aa.out.cell 2
     have h3 := Aa.out.cell 3
     have h4 := Aa.out.cell 4
     have h5 := Aa.out.cell 5
     simp only [List.getElem?_toArray, List.getElem?_cons_zero, List.getElem?_cons_succ] at h0 h1 h2 h3 h4 h5
     have cga : (wr.alloc (.cells #[.int .i64 0, .bool false, .string ⟨#[]⟩, .string ⟨#[]⟩, .slice none 0 0, .slice none 0 0] 35)).drew.cell? ⟨g, o + i, none⟩ = some (.string nm) := (((Below.refl wr.heap.size wr).alloc (Nat.le_refl _) (.cells #[.int .i64 0, .bool false, .string ⟨#[]⟩, .string ⟨#[]⟩, .slice none 0 0, .slice none 0 0] 35)).cell (p := ⟨g, o + i, none⟩) hg2).trans cg
     go_region_with (first | (go_at_call 31; refine (cst.out _ ?_).mono ?_; exact Bd.out; rintro e w5 ⟨x, u, Bs, rfl, vx, hst, b5⟩; obtain ⟨k3, b3, r3, t3, ko3, N3, kc3, vo3, M3, vc3, rfl⟩ := vx.lets; have vx' := hid vx; have hst' := hid hst; have b5' := hid b5; clear vx hst b5) | (go_at_call 31; refine (cst.out _ ?_).mono ?_; exact Ba.out; rintro e w5 ⟨x, u, Bs, rfl, vx, hst, b5⟩; obtain ⟨k3, b3, r3, t3, ko3, N3, kc3, vo3, M3, vc3, rfl⟩ := vx.lets; have vx' := hid vx; have hst' := hid hst; have N5 := hid (Na.out.keptAll b5); have d0 := N5.out.cell 0; have d1 := N5.out.cell 1; have d2 := N5.out.cell 2; have d3 := N5.out.cell 3; have d4 := N5.out.cell 4; have d5 := N5.out.cell 5; have f0 := N5.out.frozen 0; have f1 := N5.out.frozen 1; have f2 := N5.out.frozen 2; have f3 := N5.out.frozen 3; have f4 := N5.out.frozen 4; have f5 := N5.out.frozen 5; simp only [List.getElem?_toArray, List.getElem?_cons_zero, List.getElem?_cons_succ] at d0 d1 d2 d3 d4 d5; have b5' := hid b5; clear vx hst b5))
     all_goals
      first
      | (
       have b5 := b5'.out
       have A6 := hid ((Ad.out.keptAll b5).alloc (.cells #[.int .i64 k3, .bool b3, .string r3, .string t3, .slice ko3 N3 kc3, .slice vo3 M3 vc3] 35))
       have Z6 := hid (((hZ.out.drew).keptAll b5).alloc (.cells #[.int .i64 k3, .bool b3, .string r3, .string t3, .slice ko3 N3 kc3, .slice vo3 M3 vc3] 35))
       have Q6 := hid (At.new w5 #[.int .i64 k3, .bool b3, .string r3, .string t3, .slice ko3 N3 kc3, .slice vo3 M3 vc3] 35)
       have K6 := hid ((hK.out.kept (S' := fun c => w.heap.size + 2 ≤ c) (fun _ _ h => h) (SameOn.below (show Below wr.heap.size wr w5 from (Below.refl _ wr).drew.trans b5))).kept (S' := fun c => w.heap.size + 2 ≤ c) (fun _ _ h => h) (SameOn.below ((Below.refl _ w5).alloc (Nat.le_refl _) (.cells #[.int .i64 k3, .bool b3, .string r3, .string t3, .slice ko3 N3 kc3, .slice vo3 M3 vc3] 35))))
       have B6 := hid (show Below w.heap.size w (w5.alloc (.cells #[.int .i64 k3, .bool b3, .string r3, .string t3, .slice ko3 N3 kc3, .slice vo3 M3 vc3] 35)) from (Bd.out.trans (b5.mono Bd.out.size)).alloc (Bd.out.trans (b5.mono Bd.out.size)).size _)
       have Qn : Hid (w.heap.size + 2 ≤ w5.heap.size) := hid (by have := hZ.out.lt; have := b5.size; show _ ≤ _; have e : wr.drew.heap.size = wr.heap.size := rfl; omega)
       generalize w5.alloc (.cells #[.int .i64 k3, .bool b3, .string r3, .string t3, .slice ko3 N3 kc3, .slice vo3 M3 vc3] 35) = W6 at A6 Z6 Q6 K6 B6 ⊢
       generalize w5.heap.size = Q at Q6 Qn ⊢
       clear b5 b5' cst cg cg' cga Ad Bd Na Ba Aa e0 e1 e2 e3 e4 e5 h0 h1 h2 h3 h4 h5 hA hZ hB hK
       rcases hst'.out with ⟨rfl, j, hj, hu⟩ | ⟨rfl, rfl, hno⟩
       ·obtain ⟨u', hu', hwu⟩ := wf_step hwfd hj
        obtain rfl : u' = u := by rw [hu] at hu'; exact (Option.some.inj hu').symm
        have hld3 := hid (show ldV t0 L = ldV u' (L.drop (i + 1)) by rw [hld.out, hdr.out, ldV_yes hj hu])
        have hwf3 : Hid (∃ d, wfV u' d = true) := hid ⟨_, hwu⟩
        clear hst' hj hu hu' hwu hld hwf hdr hwfd hV
        have A7 := hid (A6.out.setCells [.int .i64 k3, .bool b3, .string r3, .string t3, .slice ko3 N3 kc3, .slice vo3 M3 vc3] rfl)
        have Z7 := hid (Z6.out.setCells_other (b' := w.heap.size) (by omega) [.int .i64 k3, .bool b3, .string r3, .string t3, .slice ko3 N3 kc3, .slice vo3 M3 vc3] 0)
        have B7 := hid (below_setCells B6.out (Nat.le_refl _) [.int .i64 k3, .bool b3, .string r3, .string t3, .slice ko3 N3 kc3, .slice vo3 M3 vc3] 0)
        have K7 := hid (K6.out.kept (S' := fun c => w.heap.size + 2 ≤ c) (fun _ _ h => h) (same_setCells W6 w.heap.size [.int .i64 k3, .bool b3, .string r3, .string t3, .slice ko3 N3 kc3, .slice vo3 M3 vc3] (by omega)))
        generalize hW7 : W6.setCells w.heap.size 0 [.int .i64 k3, .bool b3, .string r3, .string t3, .slice ko3 N3 kc3, .slice vo3 M3 vc3] = W7 at A7 Z7 B7 K7
        go_wp2_with (first | (refine wpList_load_want 35 _ Q 0 [.int .i64 k3, .bool b3, .string r3, .string t3, .slice ko3 N3 kc3, .slice vo3 M3 vc3] _ (Q6.out.range rfl) Tryd.underlying35 sizeVl rfl rfl rfl (by rfl) ?_; simp only [Act.put, List.setIfInBounds_toArray, List.set_cons_zero, List.set_cons_succ]; refine wpList_store_want 35 _ _ w.heap.size 0 (List.toArray [.int .i64 k3, .bool b3, .string r3, .string t3, .slice ko3 N3 kc3, .slice vo3 M3 vc3]) (A6.out.there 6 rfl) sizeVl (by simp [Value.oneCell']) rfl rfl (by rfl) (by rfl) ?_; rw [List.toList_toArray, hW7]; simp only [Act.put]) | fail)
        go_roundw
        case rel => exact ⟨i + 1, u', k3, b3, r3, t3, ko3, N3, kc3, vo3, M3, vc3, by omega, by simp, A7, Z7, vx', hld3, hwf3, K7, B7⟩
        case measure => simp [intOf]; omega
       ·have hnone : Hid (ldV t0 L = none) := hid (by rw [hld.out, hdr.out, ldV_no hno])
        clear hst' hno hld hwf hdr hwfd hV
        have d0 := Z6.out.cell 0
        have d1 := Z6.out.cell 1
        have d2 := Z6.out.cell 2
        have d3 := Z6.out.cell 3
        have d4 := Z6.out.cell 4
        have d5 := Z6.out.cell 5
        have f0 := Z6.out.frozen 0
        have f1 := Z6.out.frozen 1
        have f2 := Z6.out.frozen 2
        have f3 := Z6.out.frozen 3
        have f4 := Z6.out.frozen 4
        have f5 := Z6.out.frozen 5
        simp only [List.getElem?_toArray, List.getElem?_cons_zero, List.getElem?_cons_succ] at d0 d1 d2 d3 d4 d5
        rw [hnone.out] at hF
        go_wp2
        refine ret_val3 (p := 4) (u := 5) (v := 6) rfl ?_ Z6.out.six rfl ?_ ?_
        ·rfl
        ·rfl
        refine ⟨_, by rw [hF.out]; rfl, ?_, below_six B6.out (by omega) _ _ _ _ _ _⟩
        rw [hF.out]
        exact vt0_at _
       )
      | (
       have b5 := b5'.out
       have A6 := hid (show At ((((((w5.setCell ⟨wr.heap.size, 0, none⟩ (.int .i64 k3)).setCell ⟨wr.heap.size, 1, none⟩ (.bool b3)).setCell ⟨wr.heap.size, 2, none⟩ (.string r3)).setCell ⟨wr.heap.size, 3, none⟩ (.string t3)).setCell ⟨wr.heap.size, 4, none⟩ (.slice ko3 N3 kc3)).setCell ⟨wr.heap.size, 5, none⟩ (.slice vo3 M3 vc3)) w.heap.size #[.int .i64 k2, .bool b2, .string r2, .string t2, .slice ko2 N2 kc2, .slice vo2 M2 vc2] 35 from (same_six.2 w.heap.size (by have := hA.out.lt; omega) (Aa.out.keptAll b5).lt).trans (Aa.out.keptAll b5))
       have Z5 := ((hZ.out.alloc (.cells #[.int .i64 0, .bool false, .string ⟨#[]⟩, .string ⟨#[]⟩, .slice none 0 0, .slice none 0 0] 35)).drew).keptAll b5
       have Z6 := hid (show At ((((((w5.setCell ⟨wr.heap.size, 0, none⟩ (.int .i64 k3)).setCell ⟨wr.heap.size, 1, none⟩ (.bool b3)).setCell ⟨wr.heap.size, 2, none⟩ (.string r3)).setCell ⟨wr.heap.size, 3, none⟩ (.string t3)).setCell ⟨wr.heap.size, 4, none⟩ (.slice ko3 N3 kc3)).setCell ⟨wr.heap.size, 5, none⟩ (.slice vo3 M3 vc3)) (w.heap.size + 1) #[.int .i64 0, .bool false, .string ⟨#[]⟩, .string ⟨#[]⟩, .slice none 0 0, .slice none 0 0] 35 from (same_six.2 (w.heap.size + 1) (by have := hZ.out.lt; omega) Z5.lt).trans Z5)
       have Q6 := hid (N5.out.six (y0 := .int .i64 k3) (y1 := .bool b3) (y2 := .string r3) (y3 := .string t3) (y4 := .slice ko3 N3 kc3) (y5 := .slice vo3 M3 vc3))
       have K5 := hK.out.kept (S' := fun c => w.heap.size + 2 ≤ c ∧ c ≠ wr.heap.size) (fun c hl h => ⟨h, by omega⟩) (SameOn.below (show Below wr.heap.size wr w5 from (((Below.refl _ wr).alloc (Nat.le_refl _) (.cells #[.int .i64 0, .bool false, .string ⟨#[]⟩, .string ⟨#[]⟩, .slice none 0 0, .slice none 0 0] 35)).drew).trans (b5.mono (by show wr.heap.size ≤ (wr.alloc (.cells #[.int .i64 0, .bool false, .string ⟨#[]⟩, .string ⟨#[]⟩, .slice none 0 0, .slice none 0 0] 35)).heap.size; rw [World.size_alloc]; omega))))
       have K6 := hid (K5.kept (S' := fun c => w.heap.size + 2 ≤ c) (fun _ _ h => h.1) ⟨same_six.1, fun c hc hl => (same_six (y0 := .int .i64 k3) (y1 := .bool b3) (y2 := .string r3) (y3 := .string t3) (y4 := .slice ko3 N3 kc3) (y5 := .slice vo3 M3 vc3)).2 c hc.2 hl⟩)
       have B6 := hid (below_six (Ba.out.trans (b5.mono Ba.out.size)) (b := wr.heap.size) hB.out.size (.int .i64 k3) (.bool b3) (.string r3) (.string t3) (.slice ko3 N3 kc3) (.slice vo3 M3 vc3))
       have Qn : Hid (w.heap.size + 2 ≤ wr.heap.size) := hid (by have := hZ.out.lt; show _ ≤ _; omega)
       generalize ((((((w5.setCell ⟨wr.heap.size, 0, none⟩ (.int .i64 k3)).setCell ⟨wr.heap.size, 1, none⟩ (.bool b3)).setCell ⟨wr.heap.size, 2, none⟩ (.string r3)).setCell ⟨wr.heap.size, 3, none⟩ (.string t3)).setCell ⟨wr.heap.size, 4, none⟩ (.slice ko3 N3 kc3)).setCell ⟨wr.heap.size, 5, none⟩ (.slice vo3 M3 vc3)) = W6 at A6 Z6 Q6 K6 B6 ⊢
       clear d0 d1 d2 d3 d4 d5 f0 f1 f2 f3 f4 f5 Z5 K5 N5
       generalize wr.heap.size = Q at Q6 Qn ⊢
       clear b5 b5' cst cg cg' cga Ad Bd Na Ba Aa e0 e1 e2 e3 e4 e5 h0 h1 h2 h3 h4 h5 hA hZ hB hK
       rcases hst'.out with ⟨rfl, j, hj, hu⟩ | ⟨rfl, rfl, hno⟩
       ·obtain ⟨u', hu', hwu⟩ := wf_step hwfd hj
        obtain rfl : u' = u := by rw [hu] at hu'; exact (Option.some.inj hu').symm
        have hld3 := hid (show ldV t0 L = ldV u' (L.drop (i + 1)) by rw [hld.out, hdr.out, ldV_yes hj hu])
        have hwf3 : Hid (∃ d, wfV u' d = true) := hid ⟨_, hwu⟩
        clear hst' hj hu hu' hwu hld hwf hdr hwfd hV
        have A7 := hid (A6.out.setCells [.int .i64 k3, .bool b3, .string r3, .string t3, .slice ko3 N3 kc3, .slice vo3 M3 vc3] rfl)
        have Z7 := hid (Z6.out.setCells_other (b' := w.heap.size) (by omega) [.int .i64 k3, .bool b3, .string r3, .string t3, .slice ko3 N3 kc3, .slice vo3 M3 vc3] 0)
        have B7 := hid (below_setCells B6.out (Nat.le_refl _) [.int .i64 k3, .bool b3, .string r3, .string t3, .slice ko3 N3 kc3, .slice vo3 M3 vc3] 0)
        have K7 := hid (K6.out.kept (S' := fun c => w.heap.size + 2 ≤ c) (fun _ _ h => h) (same_setCells W6 w.heap.size [.int .i64 k3, .bool b3, .string r3, .string t3, .slice ko3 N3 kc3, .slice vo3 M3 vc3] (by omega)))
        generalize hW7 : W6.setCells w.heap.size 0 [.int .i64 k3, .bool b3, .string r3, .string t3, .slice ko3 N3 kc3, .slice vo3 M3 vc3] = W7 at A7 Z7 B7 K7
        go_wp2_with (first | (refine wpList_load_want 35 _ Q 0 [.int .i64 k3, .bool b3, .string r3, .string t3, .slice ko3 N3 kc3, .slice vo3 M3 vc3] _ (Q6.out.range rfl) Tryd.underlying35 sizeVl rfl rfl rfl (by rfl) ?_; simp only [Act.put, List.setIfInBounds_toArray, List.set_cons_zero, List.set_cons_succ]; refine wpList_store_want 35 _ _ w.heap.size 0 (List.toArray [.int .i64 k3, .bool b3, .string r3, .string t3, .slice ko3 N3 kc3, .slice vo3 M3 vc3]) (A6.out.there 6 rfl) sizeVl (by simp [Value.oneCell']) rfl rfl (by rfl) (by rfl) ?_; rw [List.toList_toArray, hW7]; simp only [Act.put]) | fail)
        go_roundw
        case rel => exact ⟨i + 1, u', k3, b3, r3, t3, ko3, N3, kc3, vo3, M3, vc3, by omega, by simp, A7, Z7, vx', hld3, hwf3, K7, B7⟩
        case measure => simp [intOf]; omega
       ·have hnone : Hid (ldV t0 L = none) := hid (by rw [hld.out, hdr.out, ldV_no hno])
        clear hst' hno hld hwf hdr hwfd hV
        have d0 := Z6.out.cell 0
        have d1 := Z6.out.cell 1
        have d2 := Z6.out.cell 2
        have d3 := Z6.out.cell 3
        have d4 := Z6.out.cell 4
        have d5 := Z6.out.cell 5
        have f0 := Z6.out.frozen 0
        have f1 := Z6.out.frozen 1
        have f2 := Z6.out.frozen 2
        have f3 := Z6.out.frozen 3
        have f4 := Z6.out.frozen 4
        have f5 := Z6.out.frozen 5
        simp only [List.getElem?_toArray, List.getElem?_cons_zero, List.getElem?_cons_succ] at d0 d1 d2 d3 d4 d5
        rw [hnone.out] at hF
        go_wp2
        refine ret_val3 (p := 4) (u := 5) (v := 6) rfl ?_ Z6.out.six rfl ?_ ?_
        ·rfl
        ·rfl
        refine ⟨_, by rw [hF.out]; rfl, ?_, below_six B6.out (by omega) _ _ _ _ _ _⟩
        rw [hF.out]
        exact vt0_at _
       )
    ·obtain rfl : i = n := by omega
     have hdn : L.drop i = [] := List.drop_eq_nil_of_le (by rw [hn.out]; exact Nat.le_refl _)
     rw [hdn, ldV_nil] at hld
     rw [hld.out] at hF
     have B5 := hid hB.out
     have d0 := hZ.out.cell 0
     have d1 := hZ.out.cell 1
     have d2 := hZ.out.cell 2
     have d3 := hZ.out.cell 3
     have d4 := hZ.out.cell 4
     have d5 := hZ.out.cell 5
     have f0 := hZ.out.frozen 0
     have f1 := hZ.out.frozen 1
     have f2 := hZ.out.frozen 2
     have f3 := hZ.out.frozen 3
     have f4 := hZ.out.frozen 4
     have f5 := hZ.out.frozen 5
     simp only [List.getElem?_toArray, List.getElem?_cons_zero, List.getElem?_cons_succ] at d0 d1 d2 d3 d4 d5
     have A6 := hid (hZ.out.setCells [.int .i64 k2, .bool b2, .string r2, .string t2, .slice ko2 N2 kc2, .slice vo2 M2 vc2] rfl)
     have B6 := hid (below_setCells hB.out (b := w.heap.size + 1) (by omega) [.int .i64 k2, .bool b2, .string r2, .string t2, .slice ko2 N2 kc2, .slice vo2 M2 vc2] 0)
     generalize hW6 : wr.setCells (w.heap.size + 1) 0 [.int .i64 k2, .bool b2, .string r2, .string t2, .slice ko2 N2 kc2, .slice vo2 M2 vc2] = W6 at A6 B6
     clear d0 d1 d2 d3 d4 d5 f0 f1 f2 f3 f4 f5
     go_wp2_with (first | (refine wpList_load_want 35 _ w.heap.size 0 [.int .i64 k2, .bool b2, .string r2, .string t2, .slice ko2 N2 kc2, .slice vo2 M2 vc2] _ (hA.out.range rfl) Tryd.underlying35 sizeVl rfl rfl rfl (by rfl) ?_; simp only [Act.put, List.setIfInBounds_toArray, List.set_cons_zero, List.set_cons_succ]; refine wpList_store_want 35 _ _ (w.heap.size + 1) 0 (List.toArray [.int .i64 k2, .bool b2, .string r2, .string t2, .slice ko2 N2 kc2, .slice vo2 M2 vc2]) (hZ.out.there 6 rfl) sizeVl (by simp [Value.oneCell']) rfl rfl (by rfl) (by rfl) ?_; rw [List.toList_toArray, hW6]; simp only [Act.put]) | fail)
     refine ret_val3 (p := 4) (u := 5) (v := 6) rfl ?_ A6.out rfl ?_ ?_
     ·rfl
     ·rfl
     refine ⟨_, by rw [hF.out]; rfl, ?_, B6.out⟩
     rw [hF.out]
     exact hV.out
end Go.Proofs.YtjlcliicdclooaaDoor
