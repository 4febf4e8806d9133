/-
 The parser's value; Parse (by gen_tqi.py).
-/
import Derived.Test.YtkejlejhnnjdkaaGreatDoorTqH
import Derived.Test.YtkejlejhnnjdkaaGreatDoorPack6
import Derived.Test.YtkejlejhnnjdkaaGreatDoorVaP
namespace Go.Proofs.YtkejlejhnnjdkaaGreatDoor
open Go.RowKit Go.Shelf
theorem valueP_pv {s : ByteArray} (hs : s.size ≤ 1048576) (b g : Nat) {k j : Nat} {t : Vt} (h : PV s k t j) :
  ∀ (i : Nat) (w : World), IsSkip s i k → Hid (PaI b g s i w) → Calls Tryz.prog 16 #[.pointer (some ⟨b, 0, none⟩)] w fun e w' => ParP b g s j t w e w' := by
 induction h with
 | null i h hl => exact fun z w hsk hP => valueP_k1 b g s (by omega) z i _ _ (hid hsk) (by omega) (hid (by unfold kindC; rw [h]; rfl)) (hid (fun u hu => nullP_calls b g s (by omega) i hl u hu)) w hP
 | yes i h hl => exact fun z w hsk hP => valueP_k2 b g s (by omega) z i _ _ (hid hsk) (by omega) (hid (by unfold kindC; rw [h]; rfl)) (hid (fun u hu => truthP_yes b g s (by omega) i hl (hid h) u hu)) w hP
 | no i h hl => exact fun z w hsk hP => valueP_k2 b g s (by omega) z i _ _ (hid hsk) (by omega) (hid (by unfold kindC; rw [h]; rfl)) (hid (fun u hu => truthP_no b g s (by omega) i hl (hid h) u hu)) w hP
 | text i j T h => exact fun z w hsk hP => valueP_k4 b g s (by omega) z i _ _ (hid hsk) h.le.1 (hid (by unfold kindC; rw [h.1]; rfl)) (hid (fun u hu => textP_calls b g s hs i j T (hid h) u hu)) w hP
 | num i j h hc hj hl hs2 => exact fun z w hsk hP => valueP_k3 b g s (by omega) z i _ _ (hid hsk) h (hid (by obtain ⟨c1, c2, c3, c4, c5, c6⟩ := hc; unfold kindC; rw [if_neg c4, if_neg (by omega), if_neg c3, if_neg c1, if_neg c2])) (hid (fun u hu => numberP_calls b g s (by omega) i j h (hid hj) hl hs2 u hu)) w hP
 | arr i vs a bb cc h h0 hq hv hss he hn ih =>
  have hi : i < s.size := byteAt_in (by rw [h]; decide)
  have hlen := arr_len (fun q hl => by have := (hq q hl).2.2.1.1; split at this <;> omega) hv hss _ (Nat.le_refl _)
  exact fun z w hsk hP => valueP_k5 b g s (by omega) z i _ _ (hid hsk) hi (hid (by unfold kindC; rw [h]; rfl)) (hid (fun u hu => arrayP_of b g s hs i hi vs a bb cc (hid h0) (hid hq) (hid (fun q y hy z x hz hx => ih q y hy z x hz hx)) (hid hss) (hid he) (hid hn) (by omega) u hu)) w hP
 | obj i ks vs hkv a nn mm dd bb cc h h0 hq hk hv hss he hn ih =>
  have hi : i < s.size := byteAt_in (by rw [h]; decide)
  have hlen := arr_len (fun q hl => by
   obtain ⟨-, -, g1, -, g2, -, g3, -⟩ := hq q hl
   have g4 := (hk q _ (List.getElem?_eq_getElem (show q < ks.length by omega))).le
   have g1' := g1.1
   have g2' := g2.1
   have g3' := g3.1
   split at g1' <;> omega) hv hss _ (Nat.le_refl _)
  exact fun z w hsk hP => valueP_k6 b g s (by omega) z i _ _ (hid hsk) hi (hid (by unfold kindC; rw [h]; rfl)) (hid (fun u hu => objectP_of b g s hs i hi ks vs hkv a nn mm dd bb cc (hid h0) (hid hq) (hid hk) (hid (fun q y hy z x hz hx => ih q y hy z x hz hx)) (hid hss) (hid he) (hid hn) (by omega) u hu)) w hP
set_option maxRecDepth 10000 in
set_option maxHeartbeats 4000000 in
theorem callsP_calls (b : Nat) (w : World) :
  Calls Tryz.prog 15 #[.pointer (some ⟨b, 0, none⟩)] w fun e w' => e = .returned (.slice (some ⟨w.heap.size, 0, none⟩) 7 7) ∧ w' = w.alloc (.cells (takesC b) 32) := by
 unfold takesC
 go_enter Tryz.func15, Tryz.ntmps15
 go_wp2
 go_ret
 exact ⟨rfl, rfl⟩
/-- What Parse says of a text: its value, or none. -/
def IsPar (s : ByteArray) (C : Nat) (t : Vt) : Prop := (C = 1 ∧ ∃ i j, IsSkip s 0 i ∧ PV s i t j) ∨ (C ≠ 1 ∧ t = vt0)
theorem ret_par {fn : Func} {p q u : Tmp} {R : Ending → World → Prop} {a : Act} {w : World} {b c : Nat} {cs : Array Value} {x y : Value} (hres : fn.results = #[.cell p 25, .cell q 27, .tmp u]) (hp : a.tmps.getD p undef = .pointer (some ⟨b, 0, none⟩)) (hq : a.tmps.getD q undef = .pointer (some ⟨c, 0, none⟩))
  (h : At w b cs 25) (hc : cs.size = 6) (h2 : At w c #[x, y] 27) (hd : a.defers = []) (hR : R (.returned (.tuple #[.agg cs, .agg #[x, y], a.tmps.getD u undef])) w) : bodyPost Tryz.prog fn R .ret a w := by
 refine bodyPost_ret (v := .tuple #[.agg cs, .agg #[x, y], a.tmps.getD u undef]) ?_ hd hR
 have hl := run_loadVar_row (P := Tryz.prog) w b 25 25 cs (0, 0) _ h Tryz.underlying25 rfl (by rw [hc]; exact sizeVl)
 have hl2 := run_loadVar_row (P := Tryz.prog) w c 27 27 #[x, y] (0, 0) _ h2 Tryz.underlying27 rfl (by exact sizeVer)
 have hp' : a.tmps[p]?.getD undef = .pointer (some ⟨b, 0, none⟩) := by simpa using hp
 have hq' : a.tmps[q]?.getD undef = .pointer (some ⟨c, 0, none⟩) := by simpa using hq
 simp [results, hres, hp', hq', asAddr, hl, hl2]
set_option maxRecDepth 10000 in
set_option maxHeartbeats 4000000 in
theorem parse_calls (s : ByteArray) (hs : s.size ≤ 1048576) (d : Int) (hd : (Lit.int .i64 d).wf = true) (C A : Nat) (E : Int) (hI : Hid (IsChk s d C A E)) (t : Vt) (ht : Hid (IsPar s C t)) (w : World) :
  Calls Tryz.prog 5 #[.string s, .int .i64 d] w fun e w' => ∃ x : Value, e = .returned (.tuple #[x, .agg #[.int .i64 (C : Int), .int .i64 (A : Int)], .int .i64 E]) ∧ ValOn (fun c => w.heap.size ≤ c) w' t x ∧ Below w.heap.size w w' := by
 have hck := hid (fun u => ckA_calls s (by omega) d hd u)
 obtain ⟨p, hp⟩ : ∃ p, Hid (w.heap.size = p) := ⟨_, rfl⟩
 have B0 : Hid (Below p w ((w.alloc (.cells #[.int .i64 0, .bool false, .string ⟨#[]⟩, .string ⟨#[]⟩, .slice none 0 0, .slice none 0 0] 25)).alloc (.cells #[.int .i64 0, .int .i64 0] 27))) := by
  rw [← hp.out]
  exact ((Below.refl _ w).alloc (Nat.le_refl _) _).alloc (by rw [World.size_alloc]; omega) _
 have e1 : (w.alloc (.cells #[.int .i64 0, .bool false, .string ⟨#[]⟩, .string ⟨#[]⟩, .slice none 0 0, .slice none 0 0] 25)).heap.size = p + 1 := by rw [World.size_alloc, hp.out]
 have A0 : Hid (At ((w.alloc (.cells #[.int .i64 0, .bool false, .string ⟨#[]⟩, .string ⟨#[]⟩, .slice none 0 0, .slice none 0 0] 25)).alloc (.cells #[.int .i64 0, .int .i64 0] 27)) p #[.int .i64 0, .bool false, .string ⟨#[]⟩, .string ⟨#[]⟩, .slice none 0 0, .slice none 0 0] 25) := by
  have h := (At.new w #[.int .i64 0, .bool false, .string ⟨#[]⟩, .string ⟨#[]⟩, .slice none 0 0, .slice none 0 0] 25).alloc (.cells #[.int .i64 0, .int .i64 0] 27)
  rw [hp.out] at h
  exact h
 have V0 : Hid (At ((w.alloc (.cells #[.int .i64 0, .bool false, .string ⟨#[]⟩, .string ⟨#[]⟩, .slice none 0 0, .slice none 0 0] 25)).alloc (.cells #[.int .i64 0, .int .i64 0] 27)) (p + 1) #[.int .i64 0, .int .i64 0] 27) := by
  have h := At.new (w.alloc (.cells #[.int .i64 0, .bool false, .string ⟨#[]⟩, .string ⟨#[]⟩, .slice none 0 0, .slice none 0 0] 25)) #[.int .i64 0, .int .i64 0] 27
  rw [e1] at h
  exact h
 have z0 : Hid (((w.alloc (.cells #[.int .i64 0, .bool false, .string ⟨#[]⟩, .string ⟨#[]⟩, .slice none 0 0, .slice none 0 0] 25)).alloc (.cells #[.int .i64 0, .int .i64 0] 27)).heap.size = p + 2) := by show _ = _; rw [World.size_alloc, e1]
 clear e1
 go_enter Tryz.func5, Tryz.ntmps5
 go_upto_region 1 with fail
 rw [hp.out]
 generalize (w.alloc (.cells #[.int .i64 0, .bool false, .string ⟨#[]⟩, .string ⟨#[]⟩, .slice none 0 0, .slice none 0 0] 25)).alloc (.cells #[.int .i64 0, .int .i64 0] 27) = W0 at A0 V0 B0 z0 ⊢
 go_wp2_with fail
 refine Calls.mono (hck.out W0) ?_
 rintro e W1 ⟨C', A', E', rfl, hI', hb⟩
 obtain ⟨rfl, rfl, rfl⟩ := hI'.uniq hI.out
 have B1 : Hid (Below p w (W1.alloc (.cells #[.int .i64 (C' : Int), .int .i64 (A' : Int)] 27))) := by
  have h1 := B0.out.trans (hb.mono (by rw [z0.out]; omega))
  exact h1.alloc (by have := hb.size; rw [z0.out] at this; omega) _
 have A1 := hid ((A0.out.keptAll hb).alloc (.cells #[.int .i64 (C' : Int), .int .i64 (A' : Int)] 27))
 have V1 := hid ((V0.out.keptAll hb).alloc (.cells #[.int .i64 (C' : Int), .int .i64 (A' : Int)] 27))
 have X1 := hid (At.new W1 #[.int .i64 (C' : Int), .int .i64 (A' : Int)] 27)
 obtain ⟨xb, hxb⟩ : ∃ x, Hid (W1.heap.size = x) := ⟨_, rfl⟩
 have hxl : Hid (p + 2 ≤ xb) := by have := hb.size; rw [z0.out, hxb.out] at this; exact this
 have hsz : Hid ((W1.alloc (.cells #[.int .i64 (C' : Int), .int .i64 (A' : Int)] 27)).heap.size = xb + 1) := by show _ = _; rw [World.size_alloc, hxb.out]
 rw [hxb.out] at X1
 clear hck hI' hb A0 V0 B0 z0
 by_cases hC : C' = 1
 ·obtain ⟨i, j, hsk, hPV⟩ : ∃ i j, IsSkip s 0 i ∧ PV s i t j := by
   rcases ht.out with ⟨-, h⟩ | ⟨h, -⟩
   ·exact h
   ·exact absurd hC h
  have hE : E' = 0 := by rcases hI.out with ⟨-, h, -⟩ | ⟨-, h, -⟩; omega; exact h
  subst hE
  have ec : ((C' : Int) != 1) = false := by simp [hC]
  have hsk' := hid hsk
  have hPV' := hid hPV
  have hC' := hid hC
  clear ht hC hsk hPV
  have cV := hid (fun b g u h => valueP_pv hs b g hPV'.out 0 u hsk'.out h)
  go_upto_region 2 with fail
  rw [hxb.out]
  generalize W1.alloc (.cells #[.int .i64 (C' : Int), .int .i64 (A' : Int)] 27) = W2 at A1 V1 X1 B1 hsz ⊢
  have c0 : W2.cell? ⟨xb, 0, none⟩ = some (.int .i64 (C' : Int)) := X1.out.cell 0
  go_upto_region 5 with fail
  clear c0
  have D0 := hid (At.new W2 #[.string s, .int .i64 0, .slice none 0 0] 42)
  have q2 : Below W2.heap.size W2 (W2.alloc (.cells #[.string s, .int .i64 0, .slice none 0 0] 42)) := (Below.refl _ _).alloc (Nat.le_refl _) _
  have A2 := hid (A1.out.keptAll q2)
  have V2 := hid (V1.out.keptAll q2)
  have X2 := hid (X1.out.keptAll q2)
  have B2 := hid (B1.out.trans (q2.mono (by rw [hsz.out]; have := hxl.out; omega)))
  have hsz2 : Hid ((W2.alloc (.cells #[.string s, .int .i64 0, .slice none 0 0] 42)).heap.size = xb + 2) := by show _ = _; rw [World.size_alloc, hsz.out]
  rw [hsz.out] at D0 ⊢
  clear A1 V1 X1 B1 q2 hsz
  generalize W2.alloc (.cells #[.string s, .int .i64 0, .slice none 0 0] 42) = W3 at A2 V2 X2 B2 D0 hsz2 ⊢
  have cC := hid (callsP_calls (xb + 1) W3)
  rw [hsz2.out] at cC
  go_wp2_with fail
  refine Calls.mono cC.out ?_
  rintro e W4 ⟨rfl, hw4⟩
  rw [hw4]
  clear hw4
  have q3 : Below W3.heap.size W3 (W3.alloc (.cells (takesC (xb + 1)) 32)) := (Below.refl _ _).alloc (Nat.le_refl _) _
  have K3 := hid (At.new W3 (takesC (xb + 1)) 32)
  have A3 := hid (A2.out.keptAll q3)
  have V3 := hid (V2.out.keptAll q3)
  have X3 := hid (X2.out.keptAll q3)
  have D3 := hid (D0.out.keptAll q3)
  have B3 := hid (B2.out.trans (q3.mono (by rw [hsz2.out]; have := hxl.out; omega)))
  have hsz3 : Hid ((W3.alloc (.cells (takesC (xb + 1)) 32)).heap.size = xb + 3) := by show _ = _; rw [World.size_alloc, hsz2.out]
  rw [hsz2.out] at K3
  clear cC A2 V2 X2 B2 D0 q3 hsz2
  generalize W3.alloc (.cells (takesC (xb + 1)) 32) = W5 at A3 V3 X3 B3 D3 K3 hsz3 ⊢
  have d2 : W5.cell? ⟨xb + 1, 2, none⟩ = some (.slice none 0 0) := D3.out.cell 2
  have f2 := D3.out.frozen 2
  have P4 : Hid (PaI (xb + 1) (xb + 2) s 0 (W5.setCell ⟨xb + 1, 2, none⟩ (.slice (some ⟨xb + 2, 0, none⟩) 7 7))) := ⟨by simpa using D3.out.set 2 (.slice (some ⟨xb + 2, 0, none⟩) 7 7), K3.out.other (p := ⟨xb + 1, 2, none⟩) (by simp) _, by omega⟩
  have A4 := hid (A3.out.other (p := ⟨xb + 1, 2, none⟩) (show p ≠ xb + 1 by have := hxl.out; omega) (.slice (some ⟨xb + 2, 0, none⟩) 7 7))
  have V4 := hid (V3.out.other (p := ⟨xb + 1, 2, none⟩) (show p + 1 ≠ xb + 1 by have := hxl.out; omega) (.slice (some ⟨xb + 2, 0, none⟩) 7 7))
  have X4 := hid (X3.out.other (p := ⟨xb + 1, 2, none⟩) (show xb ≠ xb + 1 by omega) (.slice (some ⟨xb + 2, 0, none⟩) 7 7))
  have B4 := hid (B3.out.setCell (p := ⟨xb + 1, 2, none⟩) (show p ≤ xb + 1 by have := hxl.out; omega) (.slice (some ⟨xb + 2, 0, none⟩) 7 7))
  have hsz4 : Hid ((W5.setCell ⟨xb + 1, 2, none⟩ (.slice (some ⟨xb + 2, 0, none⟩) 7 7)).heap.size = xb + 3) := by show _ = _; rw [← hsz3.out]; simp
  go_upto_region 6 with fail
  clear d2 f2 A3 V3 X3 B3 D3 K3 hsz3
  generalize W5.setCell ⟨xb + 1, 2, none⟩ (.slice (some ⟨xb + 2, 0, none⟩) 7 7) = W6 at A4 V4 X4 B4 P4 hsz4 ⊢
  have hx0 : W6.drew.cell? ⟨xb, 0, none⟩ = some (.int .i64 (C' : Int)) ∧ W6.drew.cell? ⟨xb, 1, none⟩ = some (.int .i64 (A' : Int)) := ⟨X4.out.cell 0, X4.out.cell 1⟩
  have q0 := hid (show Below W6.heap.size W6 W6.drew from (Below.refl _ _).drew)
  have A5 := hid (A4.out.keptAll q0.out)
  have V5 := hid (V4.out.keptAll q0.out)
  have X5 := hid (X4.out.keptAll q0.out)
  have P5 := hid (P4.out.kept q0.out)
  have B5 := hid (B4.out.drew)
  have hsz5 : Hid (W6.drew.heap.size = xb + 3) := hsz4.out
  refine wp_region_held_drew (S := fun w' => w'.cell? ⟨xb, 0, none⟩ = some (.int .i64 (C' : Int)) ∧ w'.cell? ⟨xb, 1, none⟩ = some (.int .i64 (A' : Int))) (by kernel_rfl) hx0 (fun hHeld => ?_)
  clear hHeld q0 A4 V4 X4 P4 B4 hsz4
  generalize W6.drew = v0 at *
  (refine' wpAnyH_take (i := 0) rfl (by kernel_rfl) (by kernel_rfl) (by kernel_rfl) (fun _ _ _ h => h) (Or.inl ⟨by rfl, ?_⟩) (by assumption) ?_; rotate_left; (· (intro wq hq; (try dsimp only at hq); go_simp; first | done | with_reducible rfl)); simp only [Act.put, List.getElem_toArray, List.getElem_cons_zero, List.setIfInBounds_toArray, List.set_cons_zero, List.set_cons_succ])
  (refine' wpAnyH_take (i := 2) rfl (by kernel_rfl) (by kernel_rfl) (by kernel_rfl) (fun _ _ _ h => h) (Or.inl ⟨by rfl, ?_⟩) (by assumption) ?_; rotate_left; (· (intro wq hq; (try dsimp only at hq); go_simp; first | done | with_reducible rfl)); simp only [Act.put, List.getElem_toArray, List.getElem_cons_zero, List.getElem_cons_succ, List.setIfInBounds_toArray, List.set_cons_zero, List.set_cons_succ])
  refine wpAnyH_ready (rs := [1]) (by kernel_rfl) (by simp) ?_
  refine AllReadyH.cons rfl (fun K hK => ?_) ?_
  ·rw [if_pos (by rfl)]
   go_simp
   refine Calls.mono (cV.out _ _ v0 P5) ?_
   rintro e v1 ⟨x, rfl, hV, hP1, hF1⟩
   obtain ⟨ko, kc, vo, vc, rfl⟩ := hV.six
   have hl := hxl.out
   have A6 := hid (hF1.at_ A5.out (show p ≠ xb + 1 by omega))
   have V6 := hid (hF1.at_ V5.out (show p + 1 ≠ xb + 1 by omega))
   have X6 := hid (hF1.at_ X5.out (show xb ≠ xb + 1 by omega))
   have U6 := hid hV
   have B6 : Hid (Below p w v1) := ⟨hF1.os.trans B5.out.os, hF1.tape.trans B5.out.tape, hF1.output.trans B5.out.output, Nat.le_trans B5.out.size hF1.size, fun k hk => (hF1.block k (by rw [hsz5.out]; omega) (by omega)).trans (B5.out.block k hk)⟩
   refine hK.out _ _ ⟨X6.out.cell 0, X6.out.cell 1⟩ (fun _ => ?_)
   clear hK K cV hV hP1 hF1 hx0 A5 V5 X5 P5 B5 hl
   have d0 := A6.out.cell 0
   have d1 := A6.out.cell 1
   have d2 := A6.out.cell 2
   have d3 := A6.out.cell 3
   have d4 := A6.out.cell 4
   have d5 := A6.out.cell 5
   simp only [List.getElem?_toArray, List.getElem?_cons_zero, List.getElem?_cons_succ] at d0 d1 d2 d3 d4 d5
   have f0 := A6.out.frozen 0
   have f1 := A6.out.frozen 1
   have f2 := A6.out.frozen 2
   have f3 := A6.out.frozen 3
   have f4 := A6.out.frozen 4
   have f5 := A6.out.frozen 5
   refine wpAnyH_ready (rs := [3]) (by kernel_rfl) (by simp) ?_
   refine AllReadyH.cons rfl (fun K hK => ?_) ?_
   ·go_simp
    have X7 := hid (show At ((((((v1.setCell ⟨p, 0, none⟩ (.int .i64 t.kind)).setCell ⟨p, 1, none⟩ (.bool t.b)).setCell ⟨p, 2, none⟩ (.string t.raw)).setCell ⟨p, 3, none⟩ (.string t.text)).setCell ⟨p, 4, none⟩ (.slice ko t.keys.length kc)).setCell ⟨p, 5, none⟩ (.slice vo t.kids.length vc)) xb #[.int .i64 (C' : Int), .int .i64 (A' : Int)] 27 from (same_six.2 xb (by have := hxl.out; omega) X6.out.lt).trans X6.out)
    have V7 := hid (show At ((((((v1.setCell ⟨p, 0, none⟩ (.int .i64 t.kind)).setCell ⟨p, 1, none⟩ (.bool t.b)).setCell ⟨p, 2, none⟩ (.string t.raw)).setCell ⟨p, 3, none⟩ (.string t.text)).setCell ⟨p, 4, none⟩ (.slice ko t.keys.length kc)).setCell ⟨p, 5, none⟩ (.slice vo t.kids.length vc)) (p + 1) #[.int .i64 0, .int .i64 0] 27 from (same_six.2 (p + 1) (by omega) V6.out.lt).trans V6.out)
    have A7 := hid (A6.out.six (y0 := .int .i64 t.kind) (y1 := .bool t.b) (y2 := .string t.raw) (y3 := .string t.text) (y4 := .slice ko t.keys.length kc) (y5 := .slice vo t.kids.length vc))
    have U7 := hid (U6.out.kept (S' := fun c => xb + 3 ≤ c) (fun c _ hc => by rw [← hsz5.out]; exact hc) ⟨(same_six (w := v1) (h := p) (y0 := .int .i64 t.kind) (y1 := .bool t.b) (y2 := .string t.raw) (y3 := .string t.text) (y4 := .slice ko t.keys.length kc) (y5 := .slice vo t.kids.length vc)).1, fun c hc hl => same_six.2 c (by rw [hsz5.out] at hc; have := hxl.out; omega) hl⟩)
    have B7 := hid (below_six B6.out (Nat.le_refl p) (.int .i64 t.kind) (.bool t.b) (.string t.raw) (.string t.text) (.slice ko t.keys.length kc) (.slice vo t.kids.length vc))
    refine hK.out _ _ ⟨X7.out.cell 0, X7.out.cell 1⟩ (fun _ => ?_)
    clear hK K d0 f0 d1 f1 d2 f2 d3 f3 d4 f4 d5 f5 A6 V6 X6 U6 B6
    generalize ((((((v1.setCell ⟨p, 0, none⟩ (.int .i64 t.kind)).setCell ⟨p, 1, none⟩ (.bool t.b)).setCell ⟨p, 2, none⟩ (.string t.raw)).setCell ⟨p, 3, none⟩ (.string t.text)).setCell ⟨p, 4, none⟩ (.slice ko t.keys.length kc)).setCell ⟨p, 5, none⟩ (.slice vo t.kids.length vc)) = v2 at *
    have d0 := V7.out.cell 0
    have d1 := V7.out.cell 1
    simp only [List.getElem?_toArray, List.getElem?_cons_zero, List.getElem?_cons_succ] at d0 d1
    have f0 := V7.out.frozen 0
    have f1 := V7.out.frozen 1
    have V8 := hid (show At ((v2.setCell ⟨p + 1, 0, none⟩ (.int .i64 (C' : Int))).setCell ⟨p + 1, 1, none⟩ (.int .i64 (A' : Int))) (p + 1) #[.int .i64 (C' : Int), .int .i64 (A' : Int)] 27 by simpa using (V7.out.set 0 (.int .i64 (C' : Int))).set 1 (.int .i64 (A' : Int)))
    have X8 := hid ((X7.out.other (p := ⟨p + 1, 0, none⟩) (show xb ≠ p + 1 by have := hxl.out; omega) (.int .i64 (C' : Int))).other (p := ⟨p + 1, 1, none⟩) (show xb ≠ p + 1 by have := hxl.out; omega) (.int .i64 (A' : Int)))
    refine wpAnyH_ready (rs := [4]) (by kernel_rfl) (by simp) ?_
    refine AllReadyH.cons rfl (fun K hK => ?_) ?_
    ·go_simp
     refine hK.out _ _ ⟨X8.out.cell 0, X8.out.cell 1⟩ (fun _ => ?_)
     clear hK K d0 d1 f0 f1
     (refine' wpAnyH_take (i := 5) rfl (by kernel_rfl) (by kernel_rfl) (by kernel_rfl) (fun _ _ _ h => h) (Or.inl ⟨by rfl, ?_⟩) (by assumption) ?_; rotate_left; (· (intro wq hq; (try dsimp only at hq); go_simp; first | done | with_reducible rfl)); simp only [Act.put, List.getElem_toArray, List.getElem_cons_zero, List.getElem_cons_succ, List.setIfInBounds_toArray, List.set_cons_zero, List.set_cons_succ])
     refine wpAnyH_done (by kernel_rfl) ?_ _
     have hA8 := (A7.out.other (p := ⟨p + 1, 0, none⟩) (show p ≠ p + 1 by omega) (.int .i64 (C' : Int))).other (p := ⟨p + 1, 1, none⟩) (show p ≠ p + 1 by omega) (.int .i64 (A' : Int))
     have hl := hxl.out
     have hU8 := U7.out.kept (S' := fun c => p ≤ c) (w' := (v2.setCell ⟨p + 1, 0, none⟩ (.int .i64 (C' : Int))).setCell ⟨p + 1, 1, none⟩ (.int .i64 (A' : Int))) (fun c _ hc => by omega) ⟨by simp, fun c hc _ => by rw [Below.heap_setCell _ _ _ _ (show c ≠ p + 1 by omega), Below.heap_setCell _ _ _ _ (show c ≠ p + 1 by omega)]⟩
     have hB8 := (B7.out.setCell (p := ⟨p + 1, 0, none⟩) (show p ≤ p + 1 by omega) (.int .i64 (C' : Int))).setCell (p := ⟨p + 1, 1, none⟩) (show p ≤ p + 1 by omega) (.int .i64 (A' : Int))
     go_wp2
     refine ret_par (p := 4) (q := 5) (u := 6) rfl rfl rfl hA8 rfl V8.out rfl ?_
     rw [hp.out]
     exact ⟨_, rfl, hU8, hB8⟩
    exact AllReadyH.nil
   exact AllReadyH.nil
  exact AllReadyH.nil
 ·obtain rfl : t = vt0 := by
   rcases ht.out with ⟨h, -⟩ | ⟨-, h⟩
   ·exact absurd h hC
   ·exact h
  have ec : ((C' : Int) != 1) = true := by simp; omega
  clear ht hC
  go_upto_region 2 with fail
  rw [hxb.out]
  generalize W1.alloc (.cells #[.int .i64 (C' : Int), .int .i64 (A' : Int)] 27) = W2 at A1 V1 X1 B1 hsz ⊢
  have c0 : W2.cell? ⟨xb, 0, none⟩ = some (.int .i64 (C' : Int)) := X1.out.cell 0
  go_upto_region 3 with fail
  clear c0
  have hx0 : W2.drew.cell? ⟨xb, 0, none⟩ = some (.int .i64 (C' : Int)) ∧ W2.drew.cell? ⟨xb, 1, none⟩ = some (.int .i64 (A' : Int)) := ⟨X1.out.cell 0, X1.out.cell 1⟩
  have q0 := hid (show Below W2.heap.size W2 W2.drew from (Below.refl _ _).drew)
  have A6 := hid (A1.out.keptAll q0.out)
  have V6 := hid (V1.out.keptAll q0.out)
  have X6 := hid (X1.out.keptAll q0.out)
  have B6 := hid (B1.out.drew)
  refine wp_region_held_drew (S := fun w' => w'.cell? ⟨xb, 0, none⟩ = some (.int .i64 (C' : Int)) ∧ w'.cell? ⟨xb, 1, none⟩ = some (.int .i64 (A' : Int))) (by kernel_rfl) hx0 (fun hHeld => ?_)
  clear hHeld q0 A1 V1 X1 B1 hsz
  generalize W2.drew = v0 at *
  (refine' wpAnyH_take (i := 0) rfl (by kernel_rfl) (by kernel_rfl) (by kernel_rfl) (fun _ _ _ h => h) (Or.inl ⟨by rfl, ?_⟩) (by assumption) ?_; rotate_left; (· (intro wq hq; (try dsimp only at hq); go_simp; first | done | with_reducible rfl)); simp only [Act.put, List.getElem_toArray, List.getElem_cons_zero, List.setIfInBounds_toArray, List.set_cons_zero, List.set_cons_succ])
  (refine' wpAnyH_take (i := 1) rfl (by kernel_rfl) (by kernel_rfl) (by kernel_rfl) (fun _ _ _ h => h) (Or.inl ⟨by rfl, ?_⟩) (by assumption) ?_; rotate_left; (· (intro wq hq; (try dsimp only at hq); go_simp; first | done | with_reducible rfl)); simp only [Act.put, List.getElem_toArray, List.getElem_cons_zero, List.getElem_cons_succ, List.setIfInBounds_toArray, List.set_cons_zero, List.set_cons_succ])
  (refine' wpAnyH_take (i := 2) rfl (by kernel_rfl) (by kernel_rfl) (by kernel_rfl) (fun _ _ _ h => h) (Or.inl ⟨by rfl, ?_⟩) (by assumption) ?_; rotate_left; (· (intro wq hq; (try dsimp only at hq); go_simp; first | done | with_reducible rfl)); simp only [Act.put, List.getElem_toArray, List.getElem_cons_zero, List.getElem_cons_succ, List.setIfInBounds_toArray, List.set_cons_zero, List.set_cons_succ])
  have d0 := A6.out.cell 0
  have d1 := A6.out.cell 1
  have d2 := A6.out.cell 2
  have d3 := A6.out.cell 3
  have d4 := A6.out.cell 4
  have d5 := A6.out.cell 5
  simp only [List.getElem?_toArray, List.getElem?_cons_zero, List.getElem?_cons_succ] at d0 d1 d2 d3 d4 d5
  have f0 := A6.out.frozen 0
  have f1 := A6.out.frozen 1
  have f2 := A6.out.frozen 2
  have f3 := A6.out.frozen 3
  have f4 := A6.out.frozen 4
  have f5 := A6.out.frozen 5
  refine wpAnyH_ready (rs := [3]) (by kernel_rfl) (by simp) ?_
  refine AllReadyH.cons rfl (fun K hK => ?_) ?_
  ·go_simp
   have X7 := hid (show At ((((((v0.setCell ⟨p, 0, none⟩ (.int .i64 0)).setCell ⟨p, 1, none⟩ (.bool false)).setCell ⟨p, 2, none⟩ (.string ⟨#[]⟩)).setCell ⟨p, 3, none⟩ (.string ⟨#[]⟩)).setCell ⟨p, 4, none⟩ (.slice none 0 0)).setCell ⟨p, 5, none⟩ (.slice none 0 0)) xb #[.int .i64 (C' : Int), .int .i64 (A' : Int)] 27 from (same_six.2 xb (by have := hxl.out; omega) X6.out.lt).trans X6.out)
   have V7 := hid (show At ((((((v0.setCell ⟨p, 0, none⟩ (.int .i64 0)).setCell ⟨p, 1, none⟩ (.bool false)).setCell ⟨p, 2, none⟩ (.string ⟨#[]⟩)).setCell ⟨p, 3, none⟩ (.string ⟨#[]⟩)).setCell ⟨p, 4, none⟩ (.slice none 0 0)).setCell ⟨p, 5, none⟩ (.slice none 0 0)) (p + 1) #[.int .i64 0, .int .i64 0] 27 from (same_six.2 (p + 1) (by omega) V6.out.lt).trans V6.out)
   have A7 := hid (show At ((((((v0.setCell ⟨p, 0, none⟩ (.int .i64 0)).setCell ⟨p, 1, none⟩ (.bool false)).setCell ⟨p, 2, none⟩ (.string ⟨#[]⟩)).setCell ⟨p, 3, none⟩ (.string ⟨#[]⟩)).setCell ⟨p, 4, none⟩ (.slice none 0 0)).setCell ⟨p, 5, none⟩ (.slice none 0 0)) p #[.int .i64 0, .bool false, .string ⟨#[]⟩, .string ⟨#[]⟩, .slice none 0 0, .slice none 0 0] 25 from A6.out.six)
   have B7 := hid (show Below p w ((((((v0.setCell ⟨p, 0, none⟩ (.int .i64 0)).setCell ⟨p, 1, none⟩ (.bool false)).setCell ⟨p, 2, none⟩ (.string ⟨#[]⟩)).setCell ⟨p, 3, none⟩ (.string ⟨#[]⟩)).setCell ⟨p, 4, none⟩ (.slice none 0 0)).setCell ⟨p, 5, none⟩ (.slice none 0 0)) from below_six B6.out (Nat.le_refl p) _ _ _ _ _ _)
   refine hK.out _ _ ⟨X7.out.cell 0, X7.out.cell 1⟩ (fun _ => ?_)
   clear hK K d0 f0 d1 f1 d2 f2 d3 f3 d4 f4 d5 f5 A6 V6 X6 B6 hx0
   generalize ((((((v0.setCell ⟨p, 0, none⟩ (.int .i64 0)).setCell ⟨p, 1, none⟩ (.bool false)).setCell ⟨p, 2, none⟩ (.string ⟨#[]⟩)).setCell ⟨p, 3, none⟩ (.string ⟨#[]⟩)).setCell ⟨p, 4, none⟩ (.slice none 0 0)).setCell ⟨p, 5, none⟩ (.slice none 0 0)) = v2 at *
   have d0 := V7.out.cell 0
   have d1 := V7.out.cell 1
   simp only [List.getElem?_toArray, List.getElem?_cons_zero, List.getElem?_cons_succ] at d0 d1
   have f0 := V7.out.frozen 0
   have f1 := V7.out.frozen 1
   have V8 := hid (show At ((v2.setCell ⟨p + 1, 0, none⟩ (.int .i64 (C' : Int))).setCell ⟨p + 1, 1, none⟩ (.int .i64 (A' : Int))) (p + 1) #[.int .i64 (C' : Int), .int .i64 (A' : Int)] 27 by simpa using (V7.out.set 0 (.int .i64 (C' : Int))).set 1 (.int .i64 (A' : Int)))
   have X8 := hid ((X7.out.other (p := ⟨p + 1, 0, none⟩) (show xb ≠ p + 1 by have := hxl.out; omega) (.int .i64 (C' : Int))).other (p := ⟨p + 1, 1, none⟩) (show xb ≠ p + 1 by have := hxl.out; omega) (.int .i64 (A' : Int)))
   refine wpAnyH_ready (rs := [4]) (by kernel_rfl) (by simp) ?_
   refine AllReadyH.cons rfl (fun K hK => ?_) ?_
   ·go_simp
    refine hK.out _ _ ⟨X8.out.cell 0, X8.out.cell 1⟩ (fun _ => ?_)
    clear hK K d0 d1 f0 f1
    (refine' wpAnyH_take (i := 5) rfl (by kernel_rfl) (by kernel_rfl) (by kernel_rfl) (fun _ _ _ h => h) (Or.inl ⟨by rfl, ?_⟩) (by assumption) ?_; rotate_left; (· (intro wq hq; (try dsimp only at hq); go_simp; first | done | with_reducible rfl)); simp only [Act.put, List.getElem_toArray, List.getElem_cons_zero, List.getElem_cons_succ, List.setIfInBounds_toArray, List.set_cons_zero, List.set_cons_succ])
    refine wpAnyH_done (by kernel_rfl) ?_ _
    have hA8 := (A7.out.other (p := ⟨p + 1, 0, none⟩) (show p ≠ p + 1 by omega) (.int .i64 (C' : Int))).other (p := ⟨p + 1, 1, none⟩) (show p ≠ p + 1 by omega) (.int .i64 (A' : Int))
    have hB8 := (B7.out.setCell (p := ⟨p + 1, 0, none⟩) (show p ≤ p + 1 by omega) (.int .i64 (C' : Int))).setCell (p := ⟨p + 1, 1, none⟩) (show p ≤ p + 1 by omega) (.int .i64 (A' : Int))
    go_wp2
    refine ret_par (p := 4) (q := 5) (u := 6) rfl rfl rfl hA8 rfl V8.out rfl ?_
    rw [hp.out]
    exact ⟨_, rfl, leafOn _ _ _ _ _ _ (by decide) (by decide) (by decide), hB8⟩
   exact AllReadyH.nil
  exact AllReadyH.nil
end Go.Proofs.YtkejlejhnnjdkaaGreatDoor
