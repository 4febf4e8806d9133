/-
 WritePretties (by gen_wrq.py).
-/
import Derived.Test.YtlhbgfhmcjaabaaGreatDoorNrB
import Derived.Test.YtlhbgfhmcjaabaaGreatDoorRwP
import Derived.Test.YtlhbgfhmcjaabaaGreatDoorWrP
import Derived.Test.YtlhbgfhmcjaabaaGreatDoorRwG
import Derived.Test.YtlhbgfhmcjaabaaGreatDoorRwS
namespace Go.Proofs.YtlhbgfhmcjaabaaGreatDoor
open Go.RowKit Go.Shelf
set_option maxRecDepth 10000 in
set_option maxHeartbeats 8000000 in
theorem writePretties_walk (t : Vt) (va : Value) (nI : Int) (hnw : (Lit.int .i64 nI).wf = true) (w : World) (hP : PowT w) (hT : TabU w) (ha : ValC w t va) :
  Calls Tryz.prog 4 #[va, .int .i64 nI] w fun e w' => e = .returned (.bool true) ∧ Below w.heap.size w w' := by
 have hfw := hid (fun x hx => few_calls t va x hx)
 obtain ⟨u, hu⟩ : ∃ u, Hid ((fewV t 1499).1 = u) := ⟨_, hid rfl⟩
 have hsm := few_smallP t
 have hln := few_ln t 1499 (by omega)
 rw [hu.out] at hfw hsm hln
 have hsm' := hid hsm
 have hln' := hid hln
 have ha' := hid ha
 have hon := ha.at.on
 obtain ⟨ko, kc, vo, vc, rfl⟩ := hon.six
 obtain ⟨H, hH⟩ : ∃ H, Hid (w.heap.size = H) := ⟨_, rfl⟩
 have A1 : Hid (At (w.alloc (.cells #[.int .i64 t.kind, .bool t.b, .string t.raw, .string t.text, .slice ko t.keys.length kc, .slice vo t.kids.length vc] 25)) H #[.int .i64 t.kind, .bool t.b, .string t.raw, .string t.text, .slice ko t.keys.length kc, .slice vo t.kids.length vc] 25) := by
  have h := At.new w #[.int .i64 t.kind, .bool t.b, .string t.raw, .string t.text, .slice ko t.keys.length kc, .slice vo t.kids.length vc] 25
  rw [hH.out] at h
  exact h
 have B1 : Hid (Below w.heap.size w (w.alloc (.cells #[.int .i64 t.kind, .bool t.b, .string t.raw, .string t.text, .slice ko t.keys.length kc, .slice vo t.kids.length vc] 25))) := (Below.refl _ w).alloc (Nat.le_refl _) _
 have hcw := hid (hfw.out _ (ha'.out.kept B1.out))
 have z1 : Hid ((w.alloc (.cells #[.int .i64 t.kind, .bool t.b, .string t.raw, .string t.text, .slice ko t.keys.length kc, .slice vo t.kids.length vc] 25)).heap.size = H + 1) := by show _ = _; rw [World.size_alloc, hH.out]
 have hP' := hid hP
 have hT' := hid hT
 clear hfw ha hon hP hT hsm hln ha'
 go_enter Tryz.func4, Tryz.ntmps4
 go_upto_region 1 with fail
 rw [hH.out]
 generalize w.alloc (.cells #[.int .i64 t.kind, .bool t.b, .string t.raw, .string t.text, .slice ko t.keys.length kc, .slice vo t.kids.length vc] 25) = W1 at A1 B1 z1 hcw ⊢
 have d0 := A1.out.cell 0
 have d1 := A1.out.cell 1
 have d2 := A1.out.cell 2
 have d3 := A1.out.cell 3
 have d4 := A1.out.cell 4
 have d5 := A1.out.cell 5
 simp only [List.getElem?_toArray, List.getElem?_cons_zero, List.getElem?_cons_succ] at d0 d1 d2 d3 d4 d5
 go_wp2_with fail
 refine Calls.mono hcw.out ?_
 rintro e w2 ⟨x, rfl, hV, hb⟩
 clear d0 d1 d2 d3 d4 d5 hcw
 obtain ⟨ko2, kc2, vo2, vc2, rfl⟩ := hV.six
 have A2 := hid (A1.out.keptAll hb)
 have B2 := hid (B1.out.trans (hb.mono B1.out.size))
 have A3 := hid (show At ((((((w2.setCell ⟨H, 0, none⟩ (.int .i64 u.kind)).setCell ⟨H, 1, none⟩ (.bool u.b)).setCell ⟨H, 2, none⟩ (.string u.raw)).setCell ⟨H, 3, none⟩ (.string u.text)).setCell ⟨H, 4, none⟩ (.slice ko2 u.keys.length kc2)).setCell ⟨H, 5, none⟩ (.slice vo2 u.kids.length vc2)) H #[.int .i64 u.kind, .bool u.b, .string u.raw, .string u.text, .slice ko2 u.keys.length kc2, .slice vo2 u.kids.length vc2] 25 from A2.out.six (y0 := .int .i64 u.kind) (y1 := .bool u.b) (y2 := .string u.raw) (y3 := .string u.text) (y4 := .slice ko2 u.keys.length kc2) (y5 := .slice vo2 u.kids.length vc2))
 have B3 := hid (show Below w.heap.size w ((((((w2.setCell ⟨H, 0, none⟩ (.int .i64 u.kind)).setCell ⟨H, 1, none⟩ (.bool u.b)).setCell ⟨H, 2, none⟩ (.string u.raw)).setCell ⟨H, 3, none⟩ (.string u.text)).setCell ⟨H, 4, none⟩ (.slice ko2 u.keys.length kc2)).setCell ⟨H, 5, none⟩ (.slice vo2 u.kids.length vc2)) from below_six B2.out (by rw [hH.out]; exact Nat.le_refl _) _ _ _ _ _ _)
 have V3 : Hid (ValAt ((((((w2.setCell ⟨H, 0, none⟩ (.int .i64 u.kind)).setCell ⟨H, 1, none⟩ (.bool u.b)).setCell ⟨H, 2, none⟩ (.string u.raw)).setCell ⟨H, 3, none⟩ (.string u.text)).setCell ⟨H, 4, none⟩ (.slice ko2 u.keys.length kc2)).setCell ⟨H, 5, none⟩ (.slice vo2 u.kids.length vc2)) u (.agg #[.int .i64 u.kind, .bool u.b, .string u.raw, .string u.text, .slice ko2 u.keys.length kc2, .slice vo2 u.kids.length vc2])) := (hV.kept (S' := fun _ => True) (fun _ _ _ => trivial) ⟨same_six.1, fun c hc hl => same_six.2 c (by have : W1.heap.size ≤ c := hc; have := z1.out; show c ≠ H; omega) hl⟩).at
 have d0 := A2.out.cell 0
 have d1 := A2.out.cell 1
 have d2 := A2.out.cell 2
 have d3 := A2.out.cell 3
 have d4 := A2.out.cell 4
 have d5 := A2.out.cell 5
 simp only [List.getElem?_toArray, List.getElem?_cons_zero, List.getElem?_cons_succ] at d0 d1 d2 d3 d4 d5
 have f0 := A2.out.frozen 0
 have f1 := A2.out.frozen 1
 have f2 := A2.out.frozen 2
 have f3 := A2.out.frozen 3
 have f4 := A2.out.frozen 4
 have f5 := A2.out.frozen 5
 clear hV hb B1 A1
 go_upto_region 2 with fail
 clear d0 d1 d2 d3 d4 d5 f0 f1 f2 f3 f4 f5 A2 B2
 generalize ((((((w2.setCell ⟨H, 0, none⟩ (.int .i64 u.kind)).setCell ⟨H, 1, none⟩ (.bool u.b)).setCell ⟨H, 2, none⟩ (.string u.raw)).setCell ⟨H, 3, none⟩ (.string u.text)).setCell ⟨H, 4, none⟩ (.slice ko2 u.keys.length kc2)).setCell ⟨H, 5, none⟩ (.slice vo2 u.kids.length vc2)) = W3 at A3 B3 V3 ⊢
 obtain ⟨B, hB⟩ : ∃ B, Hid (byd u = B) := ⟨_, hid rfl⟩
 have hby := hid (beyond_calls u B hB (.agg #[.int .i64 u.kind, .bool u.b, .string u.raw, .string u.text, .slice ko2 u.keys.length kc2, .slice vo2 u.kids.length vc2]) W3 V3.out)
 have d0 := A3.out.cell 0
 have d1 := A3.out.cell 1
 have d2 := A3.out.cell 2
 have d3 := A3.out.cell 3
 have d4 := A3.out.cell 4
 have d5 := A3.out.cell 5
 simp only [List.getElem?_toArray, List.getElem?_cons_zero, List.getElem?_cons_succ] at d0 d1 d2 d3 d4 d5
 go_wp2_with fail
 refine Calls.mono hby.out ?_
 rintro e w4 ⟨rfl, hb⟩
 clear d0 d1 d2 d3 d4 d5 hby
 have A4 := hid (A3.out.keptAll hb)
 have B4 := hid (B3.out.trans (hb.mono B3.out.size))
 have V4 := hid (V3.out.kept hb)
 clear A3 B3 V3 hb
 cases B with
 | true =>
  go_wp2
  go_ret
  exact ⟨rfl, B4.out⟩
 | false =>
  obtain ⟨hsz, hdp, hn⟩ := hsm'.out hB.out
  obtain ⟨F, hF⟩ : ∃ F, wfV u 1024 = F := ⟨_, rfl⟩
  have hcv := hid (fun x h => copyV_ex _ u (Nat.le_refl _) hln'.out (.agg #[.int .i64 u.kind, .bool u.b, .string u.raw, .string u.text, .slice ko2 u.keys.length kc2, .slice vo2 u.kids.length vc2]) x h)
  obtain ⟨⟨SS, EE⟩, hSE⟩ : ∃ x, Hid (prS F nI u = x) := ⟨_, hid rfl⟩
  have hc1 := hid (fun y x h0 h1 => pretty_calls u y hsz hdp nI hnw hn x h0 h1 F hF SS EE hSE)
  have hc2 := hid (fun x h => prtR_calls u (.agg #[.int .i64 u.kind, .bool u.b, .string u.raw, .string u.text, .slice ko2 u.keys.length kc2, .slice vo2 u.kids.length vc2]) hsz hdp nI hn x h F hF SS EE hSE)
  have haw := hid (fun x h0 h1 => awake18_calls x h0 h1)
  clear hSE hF hsz hdp hn F hB hsm' hln'
  have d0 := A4.out.cell 0
  have d1 := A4.out.cell 1
  have d2 := A4.out.cell 2
  have d3 := A4.out.cell 3
  have d4 := A4.out.cell 4
  have d5 := A4.out.cell 5
  simp only [List.getElem?_toArray, List.getElem?_cons_zero, List.getElem?_cons_succ] at d0 d1 d2 d3 d4 d5
  go_wp2_with fail
  refine Calls.mono (hcv.out w4 V4.out) ?_
  rintro e w5 ⟨x, rfl, hV, hb⟩
  have hV' := hid hV.at
  have A5 := hid (A4.out.keptAll hb)
  have B5 := hid (B4.out.trans (hb.mono B4.out.size))
  have V5 := hid (V4.out.kept hb)
  clear A4 B4 V4 hb hV d0 d1 d2 d3 d4 d5 hcv
  go_wp2_with fail
  refine Calls.mono (hc1.out x w5 (hT'.out.below B5.out) hV'.out) ?_
  rintro e w6 ⟨rfl, hb⟩
  have A6 := hid (A5.out.keptAll hb)
  have B6 := hid (B5.out.trans (hb.mono B5.out.size))
  have V6 := hid (V5.out.kept hb)
  clear A5 B5 V5 hb hV' hc1
  have d0 := A6.out.cell 0
  have d1 := A6.out.cell 1
  have d2 := A6.out.cell 2
  have d3 := A6.out.cell 3
  have d4 := A6.out.cell 4
  have d5 := A6.out.cell 5
  simp only [List.getElem?_toArray, List.getElem?_cons_zero, List.getElem?_cons_succ] at d0 d1 d2 d3 d4 d5
  go_wp2_with fail
  refine Calls.mono (hc2.out w6 V6.out) ?_
  rintro e w7 ⟨rfl, hb⟩
  have B7 := hid (B6.out.trans (hb.mono B6.out.size))
  have haw7 := hid (haw.out w7 (hT'.out.below B7.out) (hP'.out.kept B7.out))
  clear A6 B6 V6 hb hc2 haw d0 d1 d2 d3 d4 d5
  go_wp2_with fail
  refine Calls.mono haw7.out ?_
  rintro e w8 ⟨rfl, hb⟩
  have B8 := hid (B7.out.trans (hb.mono B7.out.size))
  clear hb haw7
  go_wp2
  go_ret
  exact ⟨rfl, B8.out⟩
end Go.Proofs.YtlhbgfhmcjaabaaGreatDoor
