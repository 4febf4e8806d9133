/-
  The law DecimalOrders, walked.
-/
import Derived.Test.YteaambonlohcgabDoorDecOrd
import Derived.Test.YteaambonlohcgabDoorDecAwake
namespace Go.Proofs.YteaambonlohcgabDoor
open Go.RowKit Go.Shelf

/-- Three decimals in three blocks. -/
def Tri (w : World) (n1 : Bool) (t1 : ByteArray) (x1 : Int) (n2 : Bool) (t2 : ByteArray) (x2 : Int) (n3 : Bool) (t3 : ByteArray) (x3 : Int) (u : World) : Prop :=
  At u w.heap.size #[.bool n1, .string t1, .int .i64 x1] 23 ∧ At u (w.heap.size + 1) #[.bool n2, .string t2, .int .i64 x2] 23 ∧ At u (w.heap.size + 1 + 1) #[.bool n3, .string t3, .int .i64 x3] 23 ∧ Below w.heap.size w u
section
variable {w : World} {n1 : Bool} {t1 : ByteArray} {x1 : Int} {n2 : Bool} {t2 : ByteArray} {x2 : Int} {n3 : Bool} {t3 : ByteArray} {x3 : Int} {u v : World}
theorem Tri.new : Tri w n1 t1 x1 n2 t2 x2 n3 t3 x3 (((w.alloc (.cells #[.bool n1, .string t1, .int .i64 x1] 23)).alloc (.cells #[.bool n2, .string t2, .int .i64 x2] 23)).alloc (.cells #[.bool n3, .string t3, .int .i64 x3] 23)) := by
  refine ⟨((At.new w _ _).alloc _).alloc _, ?_, ?_, by repeat (first | with_reducible exact Below.refl _ _ | with_reducible refine Below.setCell ?_ (by first | (simp; done) | (simp; omega)) _ | with_reducible refine below_drewN ?_ _ | with_reducible refine Below.alloc ?_ (by first | (simp; done) | (simp; omega)) _ | with_reducible refine Below.drew ?_)⟩
  · have := (At.new (w.alloc (.cells #[.bool n1, .string t1, .int .i64 x1] 23)) #[.bool n2, .string t2, .int .i64 x2] 23).alloc (.cells #[.bool n3, .string t3, .int .i64 x3] 23)
    simpa using this
  · have := At.new ((w.alloc (.cells #[.bool n1, .string t1, .int .i64 x1] 23)).alloc (.cells #[.bool n2, .string t2, .int .i64 x2] 23)) #[.bool n3, .string t3, .int .i64 x3] 23
    simpa using this
theorem Tri.kept (h : Tri w n1 t1 x1 n2 t2 x2 n3 t3 x3 u) (hb : Below u.heap.size u v) : Tri w n1 t1 x1 n2 t2 x2 n3 t3 x3 v := ⟨h.1.keptAll hb, h.2.1.keptAll hb, h.2.2.1.keptAll hb, h.2.2.2.trans (hb.mono h.2.2.2.size)⟩
theorem Tri.below (h : Tri w n1 t1 x1 n2 t2 x2 n3 t3 x3 u) : Below w.heap.size w u := h.2.2.2
theorem Tri.flip (h : Tri w n1 t1 x1 n2 t2 x2 n3 t3 x3 u) : Tri w (!n1) t1 x1 (!n2) t2 x2 n3 t3 x3 ((u.setCell ⟨w.heap.size, 0, none⟩ (.bool !n1)).setCell ⟨w.heap.size + 1, 0, none⟩ (.bool !n2)).drew := by
  refine ⟨?_, ?_, ?_, ?_⟩
  · have := ((h.1.set 0 (.bool !n1)).other (p := ⟨w.heap.size + 1, 0, none⟩) (by simp) (.bool !n2)).drew
    simpa using this
  · have := ((h.2.1.other (p := ⟨w.heap.size, 0, none⟩) (by simp) (.bool !n1)).set 0 (.bool !n2)).drew
    simpa using this
  · exact ((h.2.2.1.other (p := ⟨w.heap.size, 0, none⟩) (show w.heap.size + 1 + 1 ≠ w.heap.size by omega) (.bool !n1)).other (p := ⟨w.heap.size + 1, 0, none⟩) (show w.heap.size + 1 + 1 ≠ w.heap.size + 1 by omega) (.bool !n2)).drew
  · exact ((h.2.2.2.setCell (p := ⟨w.heap.size, 0, none⟩) (Nat.le_refl _) _).setCell (p := ⟨w.heap.size + 1, 0, none⟩) (Nat.le_succ _) _).drew
theorem Tri.facts (h : Tri w n1 t1 x1 n2 t2 x2 n3 t3 x3 u) : (u.cell? ⟨w.heap.size, 0, none⟩ = some (.bool n1) ∧ u.cell? ⟨w.heap.size, 1, none⟩ = some (.string t1) ∧ u.cell? ⟨w.heap.size, 2, none⟩ = some (.int .i64 x1)) ∧ (u.cell? ⟨w.heap.size + 1, 0, none⟩ = some (.bool n2) ∧ u.cell? ⟨w.heap.size + 1, 1, none⟩ = some (.string t2) ∧ u.cell? ⟨w.heap.size + 1, 2, none⟩ = some (.int .i64 x2)) ∧
    (u.cell? ⟨w.heap.size + 1 + 1, 0, none⟩ = some (.bool n3) ∧ u.cell? ⟨w.heap.size + 1 + 1, 1, none⟩ = some (.string t3) ∧ u.cell? ⟨w.heap.size + 1 + 1, 2, none⟩ = some (.int .i64 x3)) ∧ (u.frozen? ⟨w.heap.size, 0, none⟩ = false ∧ u.frozen? ⟨w.heap.size + 1, 0, none⟩ = false) :=
  ⟨⟨h.1.cell 0, h.1.cell 1, h.1.cell 2⟩, ⟨h.2.1.cell 0, h.2.1.cell 1, h.2.1.cell 2⟩, ⟨h.2.2.1.cell 0, h.2.2.1.cell 1, h.2.2.1.cell 2⟩, h.1.frozen 0, h.2.1.frozen 0⟩
end
theorem cmpR_formed {n : Bool} {t : ByteArray} {x : Int} {n' : Bool} {t' : ByteArray} {x' : Int} (h : frmS t x = true) (h' : frmS t' x' = true) : cmpR n t x n' t' x' = (cmpS n t x n' t' x', 0) := by rw [cmpR, h, h']; rfl
set_option maxRecDepth 20000 in
set_option maxHeartbeats 8000000 in
theorem decimalOrders_walk (n1 : Bool) (t1 : ByteArray) (x1 : Int) (_ : (Lit.int .i64 x1).wf = true) (hs1 : t1.size ≤ reachBytes) (n2 : Bool) (t2 : ByteArray) (x2 : Int) (_ : (Lit.int .i64 x2).wf = true) (hs2 : t2.size ≤ reachBytes) (n3 : Bool) (t3 : ByteArray) (x3 : Int) (_ : (Lit.int .i64 x3).wf = true) (hs3 : t3.size ≤ reachBytes) (w : World) :
    Calls Tryd.prog 3 #[.agg #[.bool n1, .string t1, .int .i64 x1], .agg #[.bool n2, .string t2, .int .i64 x2], .agg #[.bool n3, .string t3, .int .i64 x3]] w fun e w' => e = .returned (.bool true) ∧ Below w.heap.size w w' := by
  have hr := reachBytes_lt
  have z1 := hid (show t1.size ≤ 4611686018427387904 by omega)
  have z2 := hid (show t2.size ≤ 4611686018427387904 by omega)
  have z3 := hid (show t3.size ≤ 4611686018427387904 by omega)
  clear hs1 hs2 hs3 hr
  obtain ⟨F1, hF1⟩ : ∃ F, Hid (frmS t1 x1 = F) := ⟨_, rfl⟩
  obtain ⟨F2, hF2⟩ : ∃ F, Hid (frmS t2 x2 = F) := ⟨_, rfl⟩
  obtain ⟨F3, hF3⟩ : ∃ F, Hid (frmS t3 x3 = F) := ⟨_, rfl⟩
  have cF1 := hid (fun w1 => formed_calls n1 t1 x1 z1.out F1 hF1 w1)
  have cF2 := hid (fun w1 => formed_calls n2 t2 x2 z2.out F2 hF2 w1)
  have cF3 := hid (fun w1 => formed_calls n3 t3 x3 z3.out F3 hF3 w1)
  have T0 := hid (Tri.new (w := w) (n1 := n1) (t1 := t1) (x1 := x1) (n2 := n2) (t2 := t2) (x2 := x2) (n3 := n3) (t3 := t3) (x3 := x3))
  have ca := hid awake_calls
  go_enter Tryd.func3, Tryd.ntmps3
  go_wp2_with fail
  refine Calls.mono (ca.out _) ?_
  rintro e w1 ⟨rfl, hb⟩
  have T1 := hid (T0.out.kept hb)
  clear T0 ca hb
  obtain ⟨⟨a0, a1, a2⟩, ⟨b0, b1, b2⟩, ⟨c0, c1, c2⟩, f0, f1⟩ := T1.out.facts
  go_wp2_with fail
  refine Calls.mono (cF1.out _) ?_
  rintro e w2 ⟨rfl, hb⟩
  have T2 := hid (T1.out.kept hb)
  clear T1 hb a0 a1 a2 b0 b1 b2 c0 c1 c2 f0 f1
  obtain ⟨⟨a0, a1, a2⟩, ⟨b0, b1, b2⟩, ⟨c0, c1, c2⟩, f0, f1⟩ := T2.out.facts
  have bad : ∀ v, Tri w n1 t1 x1 n2 t2 x2 n3 t3 x3 v → True := fun _ _ => trivial
  clear bad
  have case_no : F1 = false ∨ (F1 = true ∧ F2 = false) ∨ (F1 = true ∧ F2 = true ∧ F3 = false) ∨ (F1 = true ∧ F2 = true ∧ F3 = true) := by cases F1 <;> cases F2 <;> cases F3 <;> simp
  rcases case_no with rfl | ⟨rfl, rfl⟩ | ⟨rfl, rfl, rfl⟩ | ⟨rfl, rfl, rfl⟩
  · have hc := hid (fun w1 => cmp_calls n1 t1 x1 n2 t2 x2 z1.out z2.out 0 1 (by show _ = _; rw [cmpR, hF1.out]; rfl) w1)
    go_wp2_with fail
    refine Calls.mono (hc.out _) ?_
    rintro e w3 ⟨rfl, hb⟩
    have T3 := hid (T2.out.kept hb)
    clear T2 hb a0 a1 a2 b0 b1 b2 c0 c1 c2 f0 f1 hc cF1 cF2 cF3
    go_wp2
    go_ret
    exact ⟨rfl, T3.out.below⟩
  · have hc := hid (fun w1 => cmp_calls n1 t1 x1 n2 t2 x2 z1.out z2.out 0 1 (by show _ = _; rw [cmpR, hF1.out, hF2.out]; rfl) w1)
    go_wp2_with fail
    refine Calls.mono (cF2.out _) ?_
    rintro e w3 ⟨rfl, hb⟩
    have T3 := hid (T2.out.kept hb)
    clear T2 hb a0 a1 a2 b0 b1 b2 c0 c1 c2 f0 f1
    obtain ⟨⟨a0, a1, a2⟩, ⟨b0, b1, b2⟩, ⟨c0, c1, c2⟩, f0, f1⟩ := T3.out.facts
    go_wp2_with fail
    refine Calls.mono (hc.out _) ?_
    rintro e w4 ⟨rfl, hb⟩
    have T4 := hid (T3.out.kept hb)
    clear T3 hb a0 a1 a2 b0 b1 b2 c0 c1 c2 f0 f1 hc cF1 cF2 cF3
    go_wp2
    go_ret
    exact ⟨rfl, T4.out.below⟩
  · obtain ⟨C, hC⟩ : ∃ C, Hid (cmpS n1 t1 x1 n2 t2 x2 = C) := ⟨_, rfl⟩
    have hc := hid (fun w1 => cmp_calls n1 t1 x1 n2 t2 x2 z1.out z2.out C 0 (by show _ = _; rw [cmpR_formed hF1.out hF2.out, hC.out]) w1)
    go_wp2_with fail
    refine Calls.mono (cF2.out _) ?_
    rintro e w3 ⟨rfl, hb⟩
    have T3 := hid (T2.out.kept hb)
    clear T2 hb a0 a1 a2 b0 b1 b2 c0 c1 c2 f0 f1
    obtain ⟨⟨a0, a1, a2⟩, ⟨b0, b1, b2⟩, ⟨c0, c1, c2⟩, f0, f1⟩ := T3.out.facts
    go_wp2_with fail
    refine Calls.mono (cF3.out _) ?_
    rintro e w4 ⟨rfl, hb⟩
    have T4 := hid (T3.out.kept hb)
    clear T3 hb a0 a1 a2 b0 b1 b2 c0 c1 c2 f0 f1
    obtain ⟨⟨a0, a1, a2⟩, ⟨b0, b1, b2⟩, ⟨c0, c1, c2⟩, f0, f1⟩ := T4.out.facts
    go_wp2_with fail
    refine Calls.mono (hc.out _) ?_
    rintro e w5 ⟨rfl, hb⟩
    have T5 := hid (T4.out.kept hb)
    clear T4 hb a0 a1 a2 b0 b1 b2 c0 c1 c2 f0 f1 hc
    obtain ⟨⟨a0, a1, a2⟩, ⟨b0, b1, b2⟩, ⟨c0, c1, c2⟩, f0, f1⟩ := T5.out.facts
    go_wp2_with fail
    refine Calls.mono (cF1.out _) ?_
    rintro e w6 ⟨rfl, hb⟩
    have T6 := hid (T5.out.kept hb)
    clear T5 hb a0 a1 a2 b0 b1 b2 c0 c1 c2 f0 f1
    obtain ⟨⟨a0, a1, a2⟩, ⟨b0, b1, b2⟩, ⟨c0, c1, c2⟩, f0, f1⟩ := T6.out.facts
    go_wp2_with fail
    refine Calls.mono (cF2.out _) ?_
    rintro e w7 ⟨rfl, hb⟩
    have T7 := hid (T6.out.kept hb)
    clear T6 hb a0 a1 a2 b0 b1 b2 c0 c1 c2 f0 f1 cF1 cF2 cF3
    go_wp2
    go_ret
    exact ⟨rfl, T7.out.below⟩
  · obtain ⟨x, hx⟩ : ∃ C, Hid (cmpS n1 t1 x1 n2 t2 x2 = C) := ⟨_, rfl⟩
    obtain ⟨y, hy⟩ : ∃ C, Hid (cmpS n2 t2 x2 n3 t3 x3 = C) := ⟨_, rfl⟩
    obtain ⟨z, hz⟩ : ∃ C, Hid (cmpS n1 t1 x1 n3 t3 x3 = C) := ⟨_, rfl⟩
    obtain ⟨v, hv⟩ : ∃ C, Hid (cmpS n2 t2 x2 n1 t1 x1 = C) := ⟨_, rfl⟩
    have hvx : v = -x := by rw [← hv.out, ← hx.out]; exact cmpS_neg _ _ _ _ _ _
    have hfl := hid (show cmpS (!n1) t1 x1 (!n2) t2 x2 = v by rw [hvx, ← hx.out]; exact cmpS_flip _ _ _ _ _ _)
    have htr := hid (show x ≤ 0 → y ≤ 0 → z ≤ 0 ∧ (z = 0 → x = 0 ∧ y = 0) by rw [← hx.out, ← hy.out, ← hz.out]; exact cmpS_trans _ _ _ _ _ _ _ _ _)
    have xi := hid (show x = -1 ∨ x = 0 ∨ x = 1 by rw [← hx.out]; exact cmpS_in _ _ _ _ _ _)
    have yi := hid (show y = -1 ∨ y = 0 ∨ y = 1 by rw [← hy.out]; exact cmpS_in _ _ _ _ _ _)
    have zi := hid (show z = -1 ∨ z = 0 ∨ z = 1 by rw [← hz.out]; exact cmpS_in _ _ _ _ _ _)
    have hvx' := hid hvx
    clear hvx
    have k1 := hid (fun w1 => cmp_calls n1 t1 x1 n2 t2 x2 z1.out z2.out x 0 (by show _ = _; rw [cmpR_formed hF1.out hF2.out, hx.out]) w1)
    have k2 := hid (fun w1 => cmp_calls n2 t2 x2 n3 t3 x3 z2.out z3.out y 0 (by show _ = _; rw [cmpR_formed hF2.out hF3.out, hy.out]) w1)
    have k3 := hid (fun w1 => cmp_calls n1 t1 x1 n3 t3 x3 z1.out z3.out z 0 (by show _ = _; rw [cmpR_formed hF1.out hF3.out, hz.out]) w1)
    have k4 := hid (fun w1 => cmp_calls n2 t2 x2 n1 t1 x1 z2.out z1.out v 0 (by show _ = _; rw [cmpR_formed hF2.out hF1.out, hv.out]) w1)
    have k5 := hid (fun w1 => cmp_calls (!n1) t1 x1 (!n2) t2 x2 z1.out z2.out v 0 (by show _ = _; rw [cmpR_formed hF1.out hF2.out, hfl.out]) w1)
    clear hx hy hz hv hfl hF1 hF2 hF3 z1 z2 z3
    go_wp2_with fail
    refine Calls.mono (cF2.out _) ?_
    rintro e w3 ⟨rfl, hb⟩
    have T3 := hid (T2.out.kept hb)
    clear T2 hb a0 a1 a2 b0 b1 b2 c0 c1 c2 f0 f1
    obtain ⟨⟨a0, a1, a2⟩, ⟨b0, b1, b2⟩, ⟨c0, c1, c2⟩, f0, f1⟩ := T3.out.facts
    go_wp2_with fail
    refine Calls.mono (cF3.out _) ?_
    rintro e w4 ⟨rfl, hb⟩
    have T4 := hid (T3.out.kept hb)
    clear T3 hb a0 a1 a2 b0 b1 b2 c0 c1 c2 f0 f1 cF1 cF2 cF3
    obtain ⟨⟨a0, a1, a2⟩, ⟨b0, b1, b2⟩, ⟨c0, c1, c2⟩, f0, f1⟩ := T4.out.facts
    go_wp2_with fail
    refine Calls.mono (k1.out _) ?_
    rintro e w5 ⟨rfl, hb⟩
    have T5 := hid (T4.out.kept hb)
    clear T4 hb a0 a1 a2 b0 b1 b2 c0 c1 c2 f0 f1 k1
    obtain ⟨⟨a0, a1, a2⟩, ⟨b0, b1, b2⟩, ⟨c0, c1, c2⟩, f0, f1⟩ := T5.out.facts
    go_wp2_with fail
    refine Calls.mono (k2.out _) ?_
    rintro e w6 ⟨rfl, hb⟩
    have T6 := hid (T5.out.kept hb)
    clear T5 hb a0 a1 a2 b0 b1 b2 c0 c1 c2 f0 f1 k2
    obtain ⟨⟨a0, a1, a2⟩, ⟨b0, b1, b2⟩, ⟨c0, c1, c2⟩, f0, f1⟩ := T6.out.facts
    go_wp2_with fail
    refine Calls.mono (k3.out _) ?_
    rintro e w7 ⟨rfl, hb⟩
    have T7 := hid (T6.out.kept hb)
    clear T6 hb a0 a1 a2 b0 b1 b2 c0 c1 c2 f0 f1 k3
    obtain ⟨⟨a0, a1, a2⟩, ⟨b0, b1, b2⟩, ⟨c0, c1, c2⟩, f0, f1⟩ := T7.out.facts
    go_wp2_with fail
    refine Calls.mono (k4.out _) ?_
    rintro e w8 ⟨rfl, hb⟩
    have T8 := hid (T7.out.kept hb)
    clear T7 hb a0 a1 a2 b0 b1 b2 c0 c1 c2 f0 f1 k4
    go_upto_region 10 with fail
    go_cut [104] from 77 to 104 (fun v6 wx => v6 = .bool false ∧ Hid (Tri w n1 t1 x1 n2 t2 x2 n3 t3 x3 wx))
    case first =>
      rcases xi.out with rfl | rfl | rfl
      all_goals
        obtain rfl := hvx'.out
        clear hvx' htr xi yi zi k5
        go_wp2
        go_meet
        case rel => exact ⟨rfl, T8⟩
    case rest =>
      obtain ⟨rfl, T9⟩ := hcut
      clear T8
      go_upto_region 12 with fail
      go_cut [126] from 105 to 126 (fun v6 wx => v6 = .bool false ∧ Hid (Tri w n1 t1 x1 n2 t2 x2 n3 t3 x3 wx))
      case first =>
        have key : x = 1 ∨ ((x = -1 ∨ x = 0) ∧ y = 1) ∨ ((x = -1 ∨ x = 0) ∧ (y = -1 ∨ y = 0) ∧ z = -1) ∨ (x = 0 ∧ y = 0 ∧ z = 0) := by
          have h1 := xi.out
          have h2 := yi.out
          have h3 := zi.out
          have h4 := htr.out
          omega
        clear htr xi yi zi k5 hvx'
        rcases key with rfl | ⟨rfl | rfl, rfl⟩ | ⟨rfl | rfl, rfl | rfl, rfl⟩ | ⟨rfl, rfl, rfl⟩
        all_goals
          go_wp2
          go_meet
          case rel => exact ⟨rfl, T9⟩
      case rest =>
        obtain ⟨rfl, T10⟩ := hcut
        clear T9 htr yi zi
        obtain ⟨⟨a0, a1, a2⟩, ⟨b0, b1, b2⟩, -, f0, f1⟩ := T10.out.facts
        go_wp2
        go_region
        have T11 := hid T10.out.flip
        obtain ⟨W, hW⟩ : ∃ W, ((wc.setCell ⟨w.heap.size, 0, none⟩ (.bool !n1)).setCell ⟨w.heap.size + 1, 0, none⟩ (.bool !n2)).drew = W := ⟨_, rfl⟩
        rw [hW] at T11 ⊢
        clear hW T10 a0 a1 a2 b0 b1 b2 f0 f1
        obtain ⟨m1, hm1⟩ : ∃ m, (!n1) = m := ⟨_, rfl⟩
        obtain ⟨m2, hm2⟩ : ∃ m, (!n2) = m := ⟨_, rfl⟩
        rw [hm1, hm2] at T11 k5
        obtain ⟨⟨a0, a1, a2⟩, ⟨b0, b1, b2⟩, -, -, -⟩ := T11.out.facts
        go_wp2_with fail
        refine Calls.mono (k5.out _) ?_
        rintro e w12 ⟨rfl, hb⟩
        have T12 := hid (T11.out.kept hb)
        clear T11 hb a0 a1 a2 b0 b1 b2 k5
        rcases xi.out with rfl | rfl | rfl
        all_goals
          obtain rfl := hvx'.out
          clear hvx' xi
          go_wp2
          go_ret
          exact ⟨rfl, T12.out.below⟩
end Go.Proofs.YteaambonlohcgabDoor
