/-
 What the reference's scan answers.
-/
import Derived.Test.YtlmjiocdhobopaaGreatDoorRefRead
namespace Go.Proofs.YtlmjiocdhobopaaGreatDoor
open Go.RowKit Go.Shelf
theorem sizeRp : (Tryz.prog.info? 104).map (·.size) = some 4 := by kernel_rfl
theorem load_rp {w : World} {b : Nat} {x0 x1 x2 x3 : Value} (h : At w b #[x0, x1, x2, x3] 104) : (loadVar 104 ⟨b, 0, none⟩).run Tryz.prog w = .ok (.agg #[x0, x1, x2, x3]) w :=
 run_loadVar_row (P := Tryz.prog) w b 104 104 #[x0, x1, x2, x3] (0, 0) _ h Tryz.underlying104 rfl sizeRp
theorem ret_rp {fn : Func} {p u v : Tmp} {R : Ending → World → Prop} {a : Act} {w : World} {b : Nat} {x0 x1 x2 x3 : Value} (hres : fn.results = #[.cell p 104, .tmp u, .tmp v]) (hp : a.tmps.getD p undef = .pointer (some ⟨b, 0, none⟩))
  (h : At w b #[x0, x1, x2, x3] 104) (hd : a.defers = []) (hR : R (.returned (.tuple #[.agg #[x0, x1, x2, x3], a.tmps.getD u undef, a.tmps.getD v undef])) w) : bodyPost Tryz.prog fn R .ret a w := by
 refine bodyPost_ret (v := .tuple #[.agg #[x0, x1, x2, x3], a.tmps.getD u undef, a.tmps.getD v undef]) ?_ hd hR
 rw [results_ctt hres, hp]
 simp [asAddr, load_rp h]
/-- The parts in the making, and the answer's own place ahead of them. -/
def Rp (w0 : World) (n : Bool) (t1 t2 t3 : ByteArray) (w : World) : Prop := At w w0.heap.size #[.bool false, .string ⟨#[]⟩, .string ⟨#[]⟩, .string ⟨#[]⟩] 104 ∧ At w (w0.heap.size + 1) #[.bool n, .string t1, .string t2, .string t3] 104 ∧ Below w0.heap.size w0 w
section
variable {w0 : World} {n : Bool} {t1 t2 t3 : ByteArray} {w : World}
theorem Rp.new : Rp w0 false ⟨#[]⟩ ⟨#[]⟩ ⟨#[]⟩ ((w0.alloc (.cells #[.bool false, .string ⟨#[]⟩, .string ⟨#[]⟩, .string ⟨#[]⟩] 104)).alloc (.cells #[.bool false, .string ⟨#[]⟩, .string ⟨#[]⟩, .string ⟨#[]⟩] 104)) := by
 refine ⟨(At.new w0 _ _).alloc _, ?_, by repeat (first | with_reducible exact Below.refl _ _ | with_reducible refine Below.setCell ?_ (by first | (simp; done) | (simp; omega)) _ | with_reducible refine below_drewN ?_ _ | with_reducible refine Below.alloc ?_ (by first | (simp; done) | (simp; omega)) _ | with_reducible refine Below.drew ?_)⟩
 have := At.new (w0.alloc (.cells #[.bool false, .string ⟨#[]⟩, .string ⟨#[]⟩, .string ⟨#[]⟩] 104)) #[.bool false, .string ⟨#[]⟩, .string ⟨#[]⟩, .string ⟨#[]⟩] 104
 simpa using this
theorem Rp.facts (h : Rp w0 n t1 t2 t3 w) : (w.cell? ⟨w0.heap.size + 1, 0, none⟩ = some (.bool n) ∧ w.cell? ⟨w0.heap.size + 1, 1, none⟩ = some (.string t1) ∧ w.cell? ⟨w0.heap.size + 1, 2, none⟩ = some (.string t2) ∧ w.cell? ⟨w0.heap.size + 1, 3, none⟩ = some (.string t3)) ∧
  (w.frozen? ⟨w0.heap.size + 1, 0, none⟩ = false ∧ w.frozen? ⟨w0.heap.size + 1, 1, none⟩ = false ∧ w.frozen? ⟨w0.heap.size + 1, 2, none⟩ = false ∧ w.frozen? ⟨w0.heap.size + 1, 3, none⟩ = false) ∧
  (w.cell? ⟨w0.heap.size, 0, none⟩ = some (.bool false) ∧ w.cell? ⟨w0.heap.size, 1, none⟩ = some (.string ⟨#[]⟩) ∧ w.cell? ⟨w0.heap.size, 2, none⟩ = some (.string ⟨#[]⟩) ∧ w.cell? ⟨w0.heap.size, 3, none⟩ = some (.string ⟨#[]⟩)) ∧
  (w.frozen? ⟨w0.heap.size, 0, none⟩ = false ∧ w.frozen? ⟨w0.heap.size, 1, none⟩ = false ∧ w.frozen? ⟨w0.heap.size, 2, none⟩ = false ∧ w.frozen? ⟨w0.heap.size, 3, none⟩ = false) :=
 ⟨⟨h.2.1.cell 0, h.2.1.cell 1, h.2.1.cell 2, h.2.1.cell 3⟩, ⟨h.2.1.frozen 0, h.2.1.frozen 1, h.2.1.frozen 2, h.2.1.frozen 3⟩, ⟨h.1.cell 0, h.1.cell 1, h.1.cell 2, h.1.cell 3⟩, h.1.frozen 0, h.1.frozen 1, h.1.frozen 2, h.1.frozen 3⟩
theorem Rp.set0 (h : Rp w0 n t1 t2 t3 w) (n' : Bool) : Rp w0 n' t1 t2 t3 (w.setCell ⟨w0.heap.size + 1, 0, none⟩ (.bool n')) := ⟨h.1.other (by simp) _, by have := h.2.1.set 0 (.bool n'); simpa using this, h.2.2.setCell (p := ⟨w0.heap.size + 1, 0, none⟩) (Nat.le_succ _) _⟩
theorem Rp.set1 (h : Rp w0 n t1 t2 t3 w) (t' : ByteArray) : Rp w0 n t' t2 t3 (w.setCell ⟨w0.heap.size + 1, 1, none⟩ (.string t')) := ⟨h.1.other (by simp) _, by have := h.2.1.set 1 (.string t'); simpa using this, h.2.2.setCell (p := ⟨w0.heap.size + 1, 1, none⟩) (Nat.le_succ _) _⟩
theorem Rp.set2 (h : Rp w0 n t1 t2 t3 w) (t' : ByteArray) : Rp w0 n t1 t' t3 (w.setCell ⟨w0.heap.size + 1, 2, none⟩ (.string t')) := ⟨h.1.other (by simp) _, by have := h.2.1.set 2 (.string t'); simpa using this, h.2.2.setCell (p := ⟨w0.heap.size + 1, 2, none⟩) (Nat.le_succ _) _⟩
theorem Rp.set3 (h : Rp w0 n t1 t2 t3 w) (t' : ByteArray) : Rp w0 n t1 t2 t' (w.setCell ⟨w0.heap.size + 1, 3, none⟩ (.string t')) := ⟨h.1.other (by simp) _, by have := h.2.1.set 3 (.string t'); simpa using this, h.2.2.setCell (p := ⟨w0.heap.size + 1, 3, none⟩) (Nat.le_succ _) _⟩
theorem Rp.out (h : Rp w0 n t1 t2 t3 w) : At ((((w.setCell ⟨w0.heap.size, 0, none⟩ (.bool n)).setCell ⟨w0.heap.size, 1, none⟩ (.string t1)).setCell ⟨w0.heap.size, 2, none⟩ (.string t2)).setCell ⟨w0.heap.size, 3, none⟩ (.string t3)) w0.heap.size #[.bool n, .string t1, .string t2, .string t3] 104 ∧
  Below w0.heap.size w0 ((((w.setCell ⟨w0.heap.size, 0, none⟩ (.bool n)).setCell ⟨w0.heap.size, 1, none⟩ (.string t1)).setCell ⟨w0.heap.size, 2, none⟩ (.string t2)).setCell ⟨w0.heap.size, 3, none⟩ (.string t3)) := by
 constructor
 ·have := (((h.1.set 0 (.bool n)).set 1 (.string t1)).set 2 (.string t2)).set 3 (.string t3)
  simpa using this
 ·exact (((h.2.2.setCell (p := ⟨w0.heap.size, 0, none⟩) (Nat.le_refl _) _).setCell (p := ⟨w0.heap.size, 1, none⟩) (Nat.le_refl _) _).setCell (p := ⟨w0.heap.size, 2, none⟩) (Nat.le_refl _) _).setCell (p := ⟨w0.heap.size, 3, none⟩) (Nat.le_refl _) _
end
/-- The exponent with its sign. -/
def scEx (s : ByteArray) (p : Nat) : ByteArray := if scX s p then s.extract (scC s p + 1) (scH s p) else ⟨#[]⟩
/-- What the reference's scan tells. -/
def RsT (s : ByteArray) (p : Nat) (n : Bool) (t1 t2 t3 : ByteArray) (en : Nat) (ok : Bool) : Prop :=
 en = (scanS s p).2 ∧ (ok = false → (scanS s p).1 = none) ∧ (ok = true → ∃ N, (scanS s p).1 = some N ∧ n = N.neg ∧ t1 = N.wh ∧ t2 = N.be ∧ t3 = scEx s p)
theorem RsT.no {s : ByteArray} {p : Nat} {n : Bool} {t1 t2 t3 : ByteArray} {en : Nat} (h : scanS s p = (none, en)) : RsT s p n t1 t2 t3 en false := by
 exact ⟨by rw [h], (fun _ => by rw [h]), (fun h => by cases h)⟩
theorem RsT.yes {s : ByteArray} {p : Nat} (h1 : dgB (lk s (scA s p)) = true) (h2 : ¬ (lk s (scB s p) = 46 ∧ dgB (lk s (scB s p + 1)) = false)) (h3 : ¬ (scX s p = true ∧ dgB (lk s (scF s p)) = false)) :
  RsT s p (scNeg s p) (s.extract (scA s p) (scB s p)) (scBe s p) (scEx s p) (scH s p) true := by
 have h : scanS s p = (some ⟨scNeg s p, s.extract (scA s p) (scB s p), scBe s p, scDn s p, scPw s p⟩, scH s p) := by
  rw [scanS, if_neg (by rw [h1]; decide), if_neg h2, if_neg h3]
 exact ⟨by rw [h], (fun h => by cases h), fun _ => ⟨_, by rw [h], rfl, rfl, rfl, rfl⟩⟩
set_option linter.unusedVariables false in
set_option maxRecDepth 20000 in
set_option maxHeartbeats 16000000 in
theorem refScan_calls (s : ByteArray) (p : Nat) (hs : s.size ≤ 4611686018427387904) (hp : p ≤ s.size) (w : World) :
  Calls Tryz.prog 71 #[.string s, .int .i64 (p : Int)] w fun e w' => (∃ n t1 t2 t3 en ok, e = .returned (.tuple #[.agg #[.bool n, .string t1, .string t2, .string t3], .int .i64 ((en : Nat) : Int), .bool ok]) ∧ Hid (RsT s p n t1 t2 t3 en ok)) ∧ Below w.heap.size w w' := by
 have hP := hid (Rp.new (w0 := w))
 go_enter Tryz.func71, Tryz.ntmps71
 obtain ⟨⟨c0, c1, c2, c3⟩, ⟨f0, f1, f2, f3⟩, ⟨d0, d1, d2, d3⟩, g0, g1, g2, g3⟩ := hP.out.facts
 by_cases hc : lk s (p) = 45
 ·have hc' := hid hc
  clear hc
  have hB := hid (show decide (lk s (p) = 45 ∨ lk s (p) = 45) = true by simpa using hc'.out)
  go_wp2_with fail
  refine Calls.mono (isD_calls s (p) _ (by omega) 45 45 (by decide) (by decide) true hB _) ?_
  rintro e' w_1 ⟨rfl, hw⟩
  rw [← hw] at hP
  clear hw
  try clear c0 c1 c2 c3 f0 f1 f2 f3 d0 d1 d2 d3 g0 g1 g2 g3
  clear hB
  have hN := hid hc'.out
  clear hc'
  have hA := hid (show scA s p = p + 1 by rw [scA, if_pos hN.out])
  have hNg := hid (show scNeg s p = true by rw [scNeg, hN.out]; rfl)
  have hpl := lk_in (s := s) (i := p) (by rw [hN.out]; decide)
  obtain ⟨⟨c0, c1, c2, c3⟩, ⟨f0, f1, f2, f3⟩, ⟨d0, d1, d2, d3⟩, g0, g1, g2, g3⟩ := hP.out.facts
  replace hP := hid (hP.out.set0 true)
  obtain ⟨D1, hD1⟩ : ∃ D, Hid (dgB (lk s (p + 1)) = D) := ⟨_, rfl⟩
  have hcD := hid (fun w1 => refDig_calls s (p + 1) D1 hD1 w1)
  try (rw [show (((p + 1 : Nat)) : Int) = (p : Int) + 1 from rfl] at hcD)
  go_wp2_with fail
  refine Calls.mono (hcD.out _) ?_
  rintro e' w_2 ⟨rfl, hw⟩
  rw [← hw] at hP
  clear hw hcD
  try clear c0 c1 c2 c3 f0 f1 f2 f3 d0 d1 d2 d3 g0 g1 g2 g3
  cases D1 with
  | false =>
   obtain ⟨⟨c0, c1, c2, c3⟩, ⟨f0, f1, f2, f3⟩, ⟨d0, d1, d2, d3⟩, g0, g1, g2, g3⟩ := hP.out.facts
   go_wp2
   refine ret_rp rfl rfl hP.out.out.1 rfl ⟨⟨_, _, _, _, _, _, rfl, ?_⟩, hP.out.out.2⟩
   refine RsT.no ?_
   rw [scanS, if_pos (by rw [hA.out, hD1.out]), hA.out]
  | true =>
   have hAl := dg_in hD1.out
   obtain ⟨E, hE⟩ : ∃ QQ, Hid (rn s (p + 1) = QQ) := ⟨_, rfl⟩
   have hEl : E ≤ s.size := by rw [← hE.out]; exact rn_le s _ (by omega)
   have hEg : p + 1 < E := by rw [← hE.out]; exact rn_lt s _ hD1.out
   have hdA := hid (show dgB (lk s (scA s p)) = true by rw [hA.out, hD1.out])
   go_wp2_with fail
   refine Calls.mono (digits_calls s hs (p + 1) _ (by omega) (by omega) E hE _) ?_
   rintro e' w_3 ⟨rfl, hw⟩
   rw [← hw] at hP
   clear hw
   try clear c0 c1 c2 c3 f0 f1 f2 f3 d0 d1 d2 d3 g0 g1 g2 g3
   obtain ⟨y, hy⟩ : ∃ y, (s[p + 1]'hAl).toNat = y := ⟨_, rfl⟩
   have hly := hid (show lk s (p + 1) = y by rw [lk_at s _ hAl, hy])
   have hAI : ((p + 1 : Nat) : Int) < (s.size : Int) := by omega
   try (have hAI2 : (p : Int) + 1 < (s.size : Int) := by omega)
   by_cases h48 : y = 48
   ·have g48 : ((y : Int) == 48) = true := by simp [h48]
    have hB := hid (show scB s p = p + 1 + 1 by rw [scB, hA.out, hly.out, if_pos h48])
    clear h48
    obtain ⟨⟨c0, c1, c2, c3⟩, ⟨f0, f1, f2, f3⟩, ⟨d0, d1, d2, d3⟩, g0, g1, g2, g3⟩ := hP.out.facts
    have hex := hid (show s.extract (p + 1) (p + 1 + 1) = s.extract (scA s p) (scB s p) by rw [hA.out, hB.out])
    replace hP := hid (hP.out.set1 (s.extract (p + 1) (p + 1 + 1)))
    have hBl : p + 1 + 1 ≤ s.size := by omega
    by_cases hc : lk s (p + 1 + 1) = 46
    ·have hc' := hid hc
     clear hc
     have hB := hid (show decide (lk s (p + 1 + 1) = 46 ∨ lk s (p + 1 + 1) = 46) = true by simpa using hc'.out)
     go_wp2_with fail
     refine Calls.mono (isD_calls s (p + 1 + 1) _ (by omega) 46 46 (by decide) (by decide) true hB _) ?_
     rintro e' w_4 ⟨rfl, hw⟩
     rw [← hw] at hP
     clear hw
     try clear c0 c1 c2 c3 f0 f1 f2 f3 d0 d1 d2 d3 g0 g1 g2 g3
     clear hB
     have hpt := hid (show lk s (scB s p) = 46 by rw [hB.out]; exact hc'.out)
     have hBl2 := lk_in (s := s) (i := p + 1 + 1) (by rw [hc'.out]; decide)
     clear hc'
     obtain ⟨E2, hE2⟩ : ∃ QQ, Hid (rn s (p + 1 + 1 + 1) = QQ) := ⟨_, rfl⟩
     have hE2l : E2 ≤ s.size := by rw [← hE2.out]; exact rn_le s _ (by omega)
     have hE2g : p + 1 + 1 + 1 ≤ E2 := by rw [← hE2.out]; exact rn_ge s _
     have hC := hid (show scC s p = E2 by rw [scC, if_pos hpt.out, hB.out, hE2.out])
     go_wp2_with fail
     refine Calls.mono (digits_calls s hs (p + 1 + 1 + 1) _ (by omega) (by omega) E2 hE2 _) ?_
     rintro e' w_5 ⟨rfl, hw⟩
     rw [← hw] at hP
     clear hw
     try clear c0 c1 c2 c3 f0 f1 f2 f3 d0 d1 d2 d3 g0 g1 g2 g3
     by_cases hq : E2 = p + 1 + 1 + 1
     ·have e2 : (((E2 : Nat) : Int) == ((p + 1 + 1 + 1 : Nat) : Int)) = true := by simp [hq]
      try simp only [Int.natCast_add, Int.natCast_one] at e2
      have hnd := hid (show dgB (lk s (scB s p + 1)) = false by have h1 := rn_end s (p + 1 + 1 + 1); rw [hE2.out, hq] at h1; rw [hB.out]; exact h1)
      have hq' := hid hq
      clear hq
      obtain ⟨⟨c0, c1, c2, c3⟩, ⟨f0, f1, f2, f3⟩, ⟨d0, d1, d2, d3⟩, g0, g1, g2, g3⟩ := hP.out.facts
      go_wp2
      refine ret_rp rfl rfl hP.out.out.1 rfl ⟨⟨_, _, _, _, _, _, rfl, ?_⟩, hP.out.out.2⟩
      refine RsT.no ?_
      rw [scanS, if_neg (by rw [hdA.out]; decide), if_pos ⟨hpt.out, hnd.out⟩, hB.out, hq'.out]
     ·have e2 : (((E2 : Nat) : Int) == ((p + 1 + 1 + 1 : Nat) : Int)) = false := beq_eq_false_iff_ne.2 (by omega)
      try simp only [Int.natCast_add, Int.natCast_one] at e2
      have hdg := hid (show dgB (lk s (scB s p + 1)) = true by rw [hB.out]; exact rn_dig s (p + 1 + 1 + 1) (p + 1 + 1 + 1) (Nat.le_refl _) (by rw [hE2.out]; omega))
      obtain ⟨⟨c0, c1, c2, c3⟩, ⟨f0, f1, f2, f3⟩, ⟨d0, d1, d2, d3⟩, g0, g1, g2, g3⟩ := hP.out.facts
      have hn2 := hid (show ¬ (lk s (scB s p) = 46 ∧ dgB (lk s (scB s p + 1)) = false) from fun h => by rw [hdg.out] at h; exact Bool.noConfusion h.2)
      have hbe := hid (show s.extract (p + 1 + 1 + 1) E2 = scBe s p by rw [scBe, if_pos hpt.out, hB.out, hC.out])
      replace hP := hid (hP.out.set2 (s.extract (p + 1 + 1 + 1) E2))
      clear hq
      by_cases hc : lk s (E2) = 101 ∨ lk s (E2) = 69
      ·have hc' := hid hc
       clear hc
       have hB := hid (show decide (lk s (E2) = 101 ∨ lk s (E2) = 69) = true by simpa using hc'.out)
       go_wp2_with fail
       refine Calls.mono (isD_calls s (E2) _ (by omega) 101 69 (by decide) (by decide) true hB _) ?_
       rintro e' w_6 ⟨rfl, hw⟩
       rw [← hw] at hP
       clear hw
       try clear c0 c1 c2 c3 f0 f1 f2 f3 d0 d1 d2 d3 g0 g1 g2 g3
       clear hB
       have hX := hid (show scX s p = true by rw [scX, hC.out]; simpa using hc'.out)
       have hCl := lk_in (s := s) (i := E2) (by have := hc'.out; omega)
       clear hc'
       by_cases hc : lk s (E2 + 1) = 43 ∨ lk s (E2 + 1) = 45
       ·have hc' := hid hc
        clear hc
        have hB := hid (show decide (lk s (E2 + 1) = 43 ∨ lk s (E2 + 1) = 45) = true by simpa using hc'.out)
        go_wp2_with fail
        refine Calls.mono (isD_calls s (E2 + 1) _ (by omega) 43 45 (by decide) (by decide) true hB _) ?_
        rintro e' w_7 ⟨rfl, hw⟩
        rw [← hw] at hP
        clear hw
        try clear c0 c1 c2 c3 f0 f1 f2 f3 d0 d1 d2 d3 g0 g1 g2 g3
        clear hB
        have hF := hid (show scF s p = E2 + 2 by rw [scF, hC.out, if_pos hc'.out])
        have hFl : E2 + 2 ≤ s.size := by rw [← hF.out]; exact scF_le s p hX.out
        obtain ⟨E3, hE3⟩ : ∃ QQ, Hid (rn s (E2 + 2) = QQ) := ⟨_, rfl⟩
        have hE3l : E3 ≤ s.size := by rw [← hE3.out]; exact rn_le s _ hFl
        have hE3g : E2 + 2 ≤ E3 := by rw [← hE3.out]; exact rn_ge s _
        have hH := hid (show scH s p = E3 by rw [scH, if_pos hX.out, hF.out, hE3.out])
        go_wp2_with fail
        refine Calls.mono (digits_calls s hs (E2 + 2) _ (by omega) hFl E3 hE3 _) ?_
        rintro e' w_8 ⟨rfl, hw⟩
        rw [← hw] at hP
        clear hw
        try clear c0 c1 c2 c3 f0 f1 f2 f3 d0 d1 d2 d3 g0 g1 g2 g3
        by_cases hq : E3 = E2 + 2
        ·have e3 : (((E3 : Nat) : Int) == ((E2 : Nat) : Int) + 1 + 1) = true := by simp; omega
         try simp only [Int.natCast_add, Int.natCast_one] at e3
         have hnd := hid (show dgB (lk s (scF s p)) = false by have h1 := rn_end s (E2 + 2); rw [hE3.out, hq] at h1; rw [hF.out]; exact h1)
         have hq' := hid hq
         clear hq
         obtain ⟨⟨c0, c1, c2, c3⟩, ⟨f0, f1, f2, f3⟩, ⟨d0, d1, d2, d3⟩, g0, g1, g2, g3⟩ := hP.out.facts
         go_wp2
         refine ret_rp rfl rfl hP.out.out.1 rfl ⟨⟨_, _, _, _, _, _, rfl, ?_⟩, hP.out.out.2⟩
         refine RsT.no ?_
         rw [scanS, if_neg (by rw [hdA.out]; decide), if_neg hn2.out, if_pos ⟨hX.out, hnd.out⟩, hF.out, hq'.out]
        ·have e3 : (((E3 : Nat) : Int) == ((E2 : Nat) : Int) + 1 + 1) = false := beq_eq_false_iff_ne.2 (by omega)
         try simp only [Int.natCast_add, Int.natCast_one] at e3
         have hdg3 := hid (show dgB (lk s (scF s p)) = true by rw [hF.out]; exact rn_dig s (E2 + 2) (E2 + 2) (Nat.le_refl _) (by rw [hE3.out]; omega))
         have hn3 := hid (show ¬ (scX s p = true ∧ dgB (lk s (scF s p)) = false) from fun h => by rw [hdg3.out] at h; exact Bool.noConfusion h.2)
         obtain ⟨⟨c0, c1, c2, c3⟩, ⟨f0, f1, f2, f3⟩, ⟨d0, d1, d2, d3⟩, g0, g1, g2, g3⟩ := hP.out.facts
         have hx := hid (show scEx s p = s.extract (E2 + 1) E3 by rw [scEx, if_pos hX.out, hC.out, hH.out])
         replace hP := hid (hP.out.set3 (s.extract (E2 + 1) E3))
         clear hq
         go_upto_region 28 with fail
         generalize World.setCell _ ⟨w.heap.size + 1, 3, none⟩ _ = wz at hP ⊢
         clear c0 c1 c2 c3 f0 f1 f2 f3 d0 d1 d2 d3 g0 g1 g2 g3
         obtain ⟨⟨c0, c1, c2, c3⟩, ⟨f0, f1, f2, f3⟩, ⟨d0, d1, d2, d3⟩, g0, g1, g2, g3⟩ := hP.out.facts
         go_wp2
         refine ret_rp rfl rfl hP.out.out.1 rfl ⟨⟨_, _, _, _, _, _, rfl, ?_⟩, hP.out.out.2⟩
         have h := RsT.yes hdA.out hn2.out hn3.out
         rw [← hex.out, ← hbe.out, hNg.out] at h
         rw [hH.out, hx.out] at h
         exact h
       ·have hc' := hid hc
        clear hc
        have hB := hid (show decide (lk s (E2 + 1) = 43 ∨ lk s (E2 + 1) = 45) = false by simpa using hc'.out)
        go_wp2_with fail
        refine Calls.mono (isD_calls s (E2 + 1) _ (by omega) 43 45 (by decide) (by decide) false hB _) ?_
        rintro e' w_9 ⟨rfl, hw⟩
        rw [← hw] at hP
        clear hw
        try clear c0 c1 c2 c3 f0 f1 f2 f3 d0 d1 d2 d3 g0 g1 g2 g3
        clear hB
        have hF := hid (show scF s p = E2 + 1 by rw [scF, hC.out, if_neg hc'.out])
        have hFl : E2 + 1 ≤ s.size := by rw [← hF.out]; exact scF_le s p hX.out
        obtain ⟨E3, hE3⟩ : ∃ QQ, Hid (rn s (E2 + 1) = QQ) := ⟨_, rfl⟩
        have hE3l : E3 ≤ s.size := by rw [← hE3.out]; exact rn_le s _ hFl
        have hE3g : E2 + 1 ≤ E3 := by rw [← hE3.out]; exact rn_ge s _
        have hH := hid (show scH s p = E3 by rw [scH, if_pos hX.out, hF.out, hE3.out])
        go_wp2_with fail
        refine Calls.mono (digits_calls s hs (E2 + 1) _ (by omega) hFl E3 hE3 _) ?_
        rintro e' w_10 ⟨rfl, hw⟩
        rw [← hw] at hP
        clear hw
        try clear c0 c1 c2 c3 f0 f1 f2 f3 d0 d1 d2 d3 g0 g1 g2 g3
        by_cases hq : E3 = E2 + 1
        ·have e3 : (((E3 : Nat) : Int) == ((E2 : Nat) : Int) + 1) = true := by simp; omega
         try simp only [Int.natCast_add, Int.natCast_one] at e3
         have hnd := hid (show dgB (lk s (scF s p)) = false by have h1 := rn_end s (E2 + 1); rw [hE3.out, hq] at h1; rw [hF.out]; exact h1)
         have hq' := hid hq
         clear hq
         obtain ⟨⟨c0, c1, c2, c3⟩, ⟨f0, f1, f2, f3⟩, ⟨d0, d1, d2, d3⟩, g0, g1, g2, g3⟩ := hP.out.facts
         go_wp2
         refine ret_rp rfl rfl hP.out.out.1 rfl ⟨⟨_, _, _, _, _, _, rfl, ?_⟩, hP.out.out.2⟩
         refine RsT.no ?_
         rw [scanS, if_neg (by rw [hdA.out]; decide), if_neg hn2.out, if_pos ⟨hX.out, hnd.out⟩, hF.out, hq'.out]
        ·have e3 : (((E3 : Nat) : Int) == ((E2 : Nat) : Int) + 1) = false := beq_eq_false_iff_ne.2 (by omega)
         try simp only [Int.natCast_add, Int.natCast_one] at e3
         have hdg3 := hid (show dgB (lk s (scF s p)) = true by rw [hF.out]; exact rn_dig s (E2 + 1) (E2 + 1) (Nat.le_refl _) (by rw [hE3.out]; omega))
         have hn3 := hid (show ¬ (scX s p = true ∧ dgB (lk s (scF s p)) = false) from fun h => by rw [hdg3.out] at h; exact Bool.noConfusion h.2)
         obtain ⟨⟨c0, c1, c2, c3⟩, ⟨f0, f1, f2, f3⟩, ⟨d0, d1, d2, d3⟩, g0, g1, g2, g3⟩ := hP.out.facts
         have hx := hid (show scEx s p = s.extract (E2 + 1) E3 by rw [scEx, if_pos hX.out, hC.out, hH.out])
         replace hP := hid (hP.out.set3 (s.extract (E2 + 1) E3))
         clear hq
         go_upto_region 28 with fail
         generalize World.setCell _ ⟨w.heap.size + 1, 3, none⟩ _ = wz at hP ⊢
         clear c0 c1 c2 c3 f0 f1 f2 f3 d0 d1 d2 d3 g0 g1 g2 g3
         obtain ⟨⟨c0, c1, c2, c3⟩, ⟨f0, f1, f2, f3⟩, ⟨d0, d1, d2, d3⟩, g0, g1, g2, g3⟩ := hP.out.facts
         go_wp2
         refine ret_rp rfl rfl hP.out.out.1 rfl ⟨⟨_, _, _, _, _, _, rfl, ?_⟩, hP.out.out.2⟩
         have h := RsT.yes hdA.out hn2.out hn3.out
         rw [← hex.out, ← hbe.out, hNg.out] at h
         rw [hH.out, hx.out] at h
         exact h
      ·have hc' := hid hc
       clear hc
       have hB := hid (show decide (lk s (E2) = 101 ∨ lk s (E2) = 69) = false by simpa using hc'.out)
       go_wp2_with fail
       refine Calls.mono (isD_calls s (E2) _ (by omega) 101 69 (by decide) (by decide) false hB _) ?_
       rintro e' w_11 ⟨rfl, hw⟩
       rw [← hw] at hP
       clear hw
       try clear c0 c1 c2 c3 f0 f1 f2 f3 d0 d1 d2 d3 g0 g1 g2 g3
       clear hB
       have hX := hid (show scX s p = false by rw [scX, hC.out]; simpa using hc'.out)
       clear hc'
       have hn3 := hid (show ¬ (scX s p = true ∧ dgB (lk s (scF s p)) = false) from fun h => by rw [hX.out] at h; exact Bool.noConfusion h.1)
       have hH := hid (show scH s p = E2 by rw [scH, if_neg (by rw [hX.out]; decide), hC.out])
       have hx := hid (show scEx s p = ⟨#[]⟩ by rw [scEx, if_neg (by rw [hX.out]; decide)])
       obtain ⟨⟨c0, c1, c2, c3⟩, ⟨f0, f1, f2, f3⟩, ⟨d0, d1, d2, d3⟩, g0, g1, g2, g3⟩ := hP.out.facts
       go_wp2
       refine ret_rp rfl rfl hP.out.out.1 rfl ⟨⟨_, _, _, _, _, _, rfl, ?_⟩, hP.out.out.2⟩
       have h := RsT.yes hdA.out hn2.out hn3.out
       rw [← hex.out, ← hbe.out, hNg.out] at h
       rw [hH.out, hx.out] at h
       exact h
    ·have hc' := hid hc
     clear hc
     have hB := hid (show decide (lk s (p + 1 + 1) = 46 ∨ lk s (p + 1 + 1) = 46) = false by simpa using hc'.out)
     go_wp2_with fail
     refine Calls.mono (isD_calls s (p + 1 + 1) _ (by omega) 46 46 (by decide) (by decide) false hB _) ?_
     rintro e' w_12 ⟨rfl, hw⟩
     rw [← hw] at hP
     clear hw
     try clear c0 c1 c2 c3 f0 f1 f2 f3 d0 d1 d2 d3 g0 g1 g2 g3
     clear hB
     have hnp := hid (show ¬ lk s (scB s p) = 46 by rw [hB.out]; exact hc'.out)
     clear hc'
     have hC := hid (show scC s p = p + 1 + 1 by rw [scC, if_neg hnp.out, hB.out])
     have hn2 := hid (show ¬ (lk s (scB s p) = 46 ∧ dgB (lk s (scB s p + 1)) = false) from fun h => hnp.out h.1)
     have hbe := hid (show (⟨#[]⟩ : ByteArray) = scBe s p by rw [scBe, if_neg hnp.out])
     by_cases hc : lk s (p + 1 + 1) = 101 ∨ lk s (p + 1 + 1) = 69
     ·have hc' := hid hc
      clear hc
      have hB := hid (show decide (lk s (p + 1 + 1) = 101 ∨ lk s (p + 1 + 1) = 69) = true by simpa using hc'.out)
      go_wp2_with fail
      refine Calls.mono (isD_calls s (p + 1 + 1) _ (by omega) 101 69 (by decide) (by decide) true hB _) ?_
      rintro e' w_13 ⟨rfl, hw⟩
      rw [← hw] at hP
      clear hw
      try clear c0 c1 c2 c3 f0 f1 f2 f3 d0 d1 d2 d3 g0 g1 g2 g3
      clear hB
      have hX := hid (show scX s p = true by rw [scX, hC.out]; simpa using hc'.out)
      have hCl := lk_in (s := s) (i := p + 1 + 1) (by have := hc'.out; omega)
      clear hc'
      by_cases hc : lk s (p + 1 + 1 + 1) = 43 ∨ lk s (p + 1 + 1 + 1) = 45
      ·have hc' := hid hc
       clear hc
       have hB := hid (show decide (lk s (p + 1 + 1 + 1) = 43 ∨ lk s (p + 1 + 1 + 1) = 45) = true by simpa using hc'.out)
       go_wp2_with fail
       refine Calls.mono (isD_calls s (p + 1 + 1 + 1) _ (by omega) 43 45 (by decide) (by decide) true hB _) ?_
       rintro e' w_14 ⟨rfl, hw⟩
       rw [← hw] at hP
       clear hw
       try clear c0 c1 c2 c3 f0 f1 f2 f3 d0 d1 d2 d3 g0 g1 g2 g3
       clear hB
       have hF := hid (show scF s p = p + 1 + 1 + 2 by rw [scF, hC.out, if_pos hc'.out])
       have hFl : p + 1 + 1 + 2 ≤ s.size := by rw [← hF.out]; exact scF_le s p hX.out
       obtain ⟨E3, hE3⟩ : ∃ QQ, Hid (rn s (p + 1 + 1 + 2) = QQ) := ⟨_, rfl⟩
       have hE3l : E3 ≤ s.size := by rw [← hE3.out]; exact rn_le s _ hFl
       have hE3g : p + 1 + 1 + 2 ≤ E3 := by rw [← hE3.out]; exact rn_ge s _
       have hH := hid (show scH s p = E3 by rw [scH, if_pos hX.out, hF.out, hE3.out])
       go_wp2_with fail
       refine Calls.mono (digits_calls s hs (p + 1 + 1 + 2) _ (by omega) hFl E3 hE3 _) ?_
       rintro e' w_15 ⟨rfl, hw⟩
       rw [← hw] at hP
       clear hw
       try clear c0 c1 c2 c3 f0 f1 f2 f3 d0 d1 d2 d3 g0 g1 g2 g3
       by_cases hq : E3 = p + 1 + 1 + 2
       ·have e3 : (((E3 : Nat) : Int) == ((p + 1 + 1 : Nat) : Int) + 1 + 1) = true := by simp; omega
        try simp only [Int.natCast_add, Int.natCast_one] at e3
        have hnd := hid (show dgB (lk s (scF s p)) = false by have h1 := rn_end s (p + 1 + 1 + 2); rw [hE3.out, hq] at h1; rw [hF.out]; exact h1)
        have hq' := hid hq
        clear hq
        obtain ⟨⟨c0, c1, c2, c3⟩, ⟨f0, f1, f2, f3⟩, ⟨d0, d1, d2, d3⟩, g0, g1, g2, g3⟩ := hP.out.facts
        go_wp2
        refine ret_rp rfl rfl hP.out.out.1 rfl ⟨⟨_, _, _, _, _, _, rfl, ?_⟩, hP.out.out.2⟩
        refine RsT.no ?_
        rw [scanS, if_neg (by rw [hdA.out]; decide), if_neg hn2.out, if_pos ⟨hX.out, hnd.out⟩, hF.out, hq'.out]
       ·have e3 : (((E3 : Nat) : Int) == ((p + 1 + 1 : Nat) : Int) + 1 + 1) = false := beq_eq_false_iff_ne.2 (by omega)
        try simp only [Int.natCast_add, Int.natCast_one] at e3
        have hdg3 := hid (show dgB (lk s (scF s p)) = true by rw [hF.out]; exact rn_dig s (p + 1 + 1 + 2) (p + 1 + 1 + 2) (Nat.le_refl _) (by rw [hE3.out]; omega))
        have hn3 := hid (show ¬ (scX s p = true ∧ dgB (lk s (scF s p)) = false) from fun h => by rw [hdg3.out] at h; exact Bool.noConfusion h.2)
        obtain ⟨⟨c0, c1, c2, c3⟩, ⟨f0, f1, f2, f3⟩, ⟨d0, d1, d2, d3⟩, g0, g1, g2, g3⟩ := hP.out.facts
        have hx := hid (show scEx s p = s.extract (p + 1 + 1 + 1) E3 by rw [scEx, if_pos hX.out, hC.out, hH.out])
        replace hP := hid (hP.out.set3 (s.extract (p + 1 + 1 + 1) E3))
        clear hq
        go_upto_region 28 with fail
        generalize World.setCell _ ⟨w.heap.size + 1, 3, none⟩ _ = wz at hP ⊢
        clear c0 c1 c2 c3 f0 f1 f2 f3 d0 d1 d2 d3 g0 g1 g2 g3
        obtain ⟨⟨c0, c1, c2, c3⟩, ⟨f0, f1, f2, f3⟩, ⟨d0, d1, d2, d3⟩, g0, g1, g2, g3⟩ := hP.out.facts
        go_wp2
        refine ret_rp rfl rfl hP.out.out.1 rfl ⟨⟨_, _, _, _, _, _, rfl, ?_⟩, hP.out.out.2⟩
        have h := RsT.yes hdA.out hn2.out hn3.out
        rw [← hex.out, ← hbe.out, hNg.out] at h
        rw [hH.out, hx.out] at h
        exact h
      ·have hc' := hid hc
       clear hc
       have hB := hid (show decide (lk s (p + 1 + 1 + 1) = 43 ∨ lk s (p + 1 + 1 + 1) = 45) = false by simpa using hc'.out)
       go_wp2_with fail
       refine Calls.mono (isD_calls s (p + 1 + 1 + 1) _ (by omega) 43 45 (by decide) (by decide) false hB _) ?_
       rintro e' w_16 ⟨rfl, hw⟩
       rw [← hw] at hP
       clear hw
       try clear c0 c1 c2 c3 f0 f1 f2 f3 d0 d1 d2 d3 g0 g1 g2 g3
       clear hB
       have hF := hid (show scF s p = p + 1 + 1 + 1 by rw [scF, hC.out, if_neg hc'.out])
       have hFl : p + 1 + 1 + 1 ≤ s.size := by rw [← hF.out]; exact scF_le s p hX.out
       obtain ⟨E3, hE3⟩ : ∃ QQ, Hid (rn s (p + 1 + 1 + 1) = QQ) := ⟨_, rfl⟩
       have hE3l : E3 ≤ s.size := by rw [← hE3.out]; exact rn_le s _ hFl
       have hE3g : p + 1 + 1 + 1 ≤ E3 := by rw [← hE3.out]; exact rn_ge s _
       have hH := hid (show scH s p = E3 by rw [scH, if_pos hX.out, hF.out, hE3.out])
       go_wp2_with fail
       refine Calls.mono (digits_calls s hs (p + 1 + 1 + 1) _ (by omega) hFl E3 hE3 _) ?_
       rintro e' w_17 ⟨rfl, hw⟩
       rw [← hw] at hP
       clear hw
       try clear c0 c1 c2 c3 f0 f1 f2 f3 d0 d1 d2 d3 g0 g1 g2 g3
       by_cases hq : E3 = p + 1 + 1 + 1
       ·have e3 : (((E3 : Nat) : Int) == ((p + 1 + 1 : Nat) : Int) + 1) = true := by simp; omega
        try simp only [Int.natCast_add, Int.natCast_one] at e3
        have hnd := hid (show dgB (lk s (scF s p)) = false by have h1 := rn_end s (p + 1 + 1 + 1); rw [hE3.out, hq] at h1; rw [hF.out]; exact h1)
        have hq' := hid hq
        clear hq
        obtain ⟨⟨c0, c1, c2, c3⟩, ⟨f0, f1, f2, f3⟩, ⟨d0, d1, d2, d3⟩, g0, g1, g2, g3⟩ := hP.out.facts
        go_wp2
        refine ret_rp rfl rfl hP.out.out.1 rfl ⟨⟨_, _, _, _, _, _, rfl, ?_⟩, hP.out.out.2⟩
        refine RsT.no ?_
        rw [scanS, if_neg (by rw [hdA.out]; decide), if_neg hn2.out, if_pos ⟨hX.out, hnd.out⟩, hF.out, hq'.out]
       ·have e3 : (((E3 : Nat) : Int) == ((p + 1 + 1 : Nat) : Int) + 1) = false := beq_eq_false_iff_ne.2 (by omega)
        try simp only [Int.natCast_add, Int.natCast_one] at e3
        have hdg3 := hid (show dgB (lk s (scF s p)) = true by rw [hF.out]; exact rn_dig s (p + 1 + 1 + 1) (p + 1 + 1 + 1) (Nat.le_refl _) (by rw [hE3.out]; omega))
        have hn3 := hid (show ¬ (scX s p = true ∧ dgB (lk s (scF s p)) = false) from fun h => by rw [hdg3.out] at h; exact Bool.noConfusion h.2)
        obtain ⟨⟨c0, c1, c2, c3⟩, ⟨f0, f1, f2, f3⟩, ⟨d0, d1, d2, d3⟩, g0, g1, g2, g3⟩ := hP.out.facts
        have hx := hid (show scEx s p = s.extract (p + 1 + 1 + 1) E3 by rw [scEx, if_pos hX.out, hC.out, hH.out])
        replace hP := hid (hP.out.set3 (s.extract (p + 1 + 1 + 1) E3))
        clear hq
        go_upto_region 28 with fail
        generalize World.setCell _ ⟨w.heap.size + 1, 3, none⟩ _ = wz at hP ⊢
        clear c0 c1 c2 c3 f0 f1 f2 f3 d0 d1 d2 d3 g0 g1 g2 g3
        obtain ⟨⟨c0, c1, c2, c3⟩, ⟨f0, f1, f2, f3⟩, ⟨d0, d1, d2, d3⟩, g0, g1, g2, g3⟩ := hP.out.facts
        go_wp2
        refine ret_rp rfl rfl hP.out.out.1 rfl ⟨⟨_, _, _, _, _, _, rfl, ?_⟩, hP.out.out.2⟩
        have h := RsT.yes hdA.out hn2.out hn3.out
        rw [← hex.out, ← hbe.out, hNg.out] at h
        rw [hH.out, hx.out] at h
        exact h
     ·have hc' := hid hc
      clear hc
      have hB := hid (show decide (lk s (p + 1 + 1) = 101 ∨ lk s (p + 1 + 1) = 69) = false by simpa using hc'.out)
      go_wp2_with fail
      refine Calls.mono (isD_calls s (p + 1 + 1) _ (by omega) 101 69 (by decide) (by decide) false hB _) ?_
      rintro e' w_18 ⟨rfl, hw⟩
      rw [← hw] at hP
      clear hw
      try clear c0 c1 c2 c3 f0 f1 f2 f3 d0 d1 d2 d3 g0 g1 g2 g3
      clear hB
      have hX := hid (show scX s p = false by rw [scX, hC.out]; simpa using hc'.out)
      clear hc'
      have hn3 := hid (show ¬ (scX s p = true ∧ dgB (lk s (scF s p)) = false) from fun h => by rw [hX.out] at h; exact Bool.noConfusion h.1)
      have hH := hid (show scH s p = p + 1 + 1 by rw [scH, if_neg (by rw [hX.out]; decide), hC.out])
      have hx := hid (show scEx s p = ⟨#[]⟩ by rw [scEx, if_neg (by rw [hX.out]; decide)])
      obtain ⟨⟨c0, c1, c2, c3⟩, ⟨f0, f1, f2, f3⟩, ⟨d0, d1, d2, d3⟩, g0, g1, g2, g3⟩ := hP.out.facts
      go_wp2
      refine ret_rp rfl rfl hP.out.out.1 rfl ⟨⟨_, _, _, _, _, _, rfl, ?_⟩, hP.out.out.2⟩
      have h := RsT.yes hdA.out hn2.out hn3.out
      rw [← hex.out, ← hbe.out, hNg.out] at h
      rw [hH.out, hx.out] at h
      exact h
   ·have g48 : ((y : Int) == 48) = false := beq_eq_false_iff_ne.2 (by omega)
    have hB := hid (show scB s p = E by rw [scB, hA.out, hly.out, if_neg h48, hE.out])
    clear h48
    obtain ⟨⟨c0, c1, c2, c3⟩, ⟨f0, f1, f2, f3⟩, ⟨d0, d1, d2, d3⟩, g0, g1, g2, g3⟩ := hP.out.facts
    have hex := hid (show s.extract (p + 1) (E) = s.extract (scA s p) (scB s p) by rw [hA.out, hB.out])
    replace hP := hid (hP.out.set1 (s.extract (p + 1) (E)))
    have hBl : E ≤ s.size := by omega
    by_cases hc : lk s (E) = 46
    ·have hc' := hid hc
     clear hc
     have hB := hid (show decide (lk s (E) = 46 ∨ lk s (E) = 46) = true by simpa using hc'.out)
     go_wp2_with fail
     refine Calls.mono (isD_calls s (E) _ (by omega) 46 46 (by decide) (by decide) true hB _) ?_
     rintro e' w_19 ⟨rfl, hw⟩
     rw [← hw] at hP
     clear hw
     try clear c0 c1 c2 c3 f0 f1 f2 f3 d0 d1 d2 d3 g0 g1 g2 g3
     clear hB
     have hpt := hid (show lk s (scB s p) = 46 by rw [hB.out]; exact hc'.out)
     have hBl2 := lk_in (s := s) (i := E) (by rw [hc'.out]; decide)
     clear hc'
     obtain ⟨E2, hE2⟩ : ∃ QQ, Hid (rn s (E + 1) = QQ) := ⟨_, rfl⟩
     have hE2l : E2 ≤ s.size := by rw [← hE2.out]; exact rn_le s _ (by omega)
     have hE2g : E + 1 ≤ E2 := by rw [← hE2.out]; exact rn_ge s _
     have hC := hid (show scC s p = E2 by rw [scC, if_pos hpt.out, hB.out, hE2.out])
     go_wp2_with fail
     refine Calls.mono (digits_calls s hs (E + 1) _ (by omega) (by omega) E2 hE2 _) ?_
     rintro e' w_20 ⟨rfl, hw⟩
     rw [← hw] at hP
     clear hw
     try clear c0 c1 c2 c3 f0 f1 f2 f3 d0 d1 d2 d3 g0 g1 g2 g3
     by_cases hq : E2 = E + 1
     ·have e2 : (((E2 : Nat) : Int) == ((E + 1 : Nat) : Int)) = true := by simp [hq]
      try simp only [Int.natCast_add, Int.natCast_one] at e2
      have hnd := hid (show dgB (lk s (scB s p + 1)) = false by have h1 := rn_end s (E + 1); rw [hE2.out, hq] at h1; rw [hB.out]; exact h1)
      have hq' := hid hq
      clear hq
      obtain ⟨⟨c0, c1, c2, c3⟩, ⟨f0, f1, f2, f3⟩, ⟨d0, d1, d2, d3⟩, g0, g1, g2, g3⟩ := hP.out.facts
      go_wp2
      refine ret_rp rfl rfl hP.out.out.1 rfl ⟨⟨_, _, _, _, _, _, rfl, ?_⟩, hP.out.out.2⟩
      refine RsT.no ?_
      rw [scanS, if_neg (by rw [hdA.out]; decide), if_pos ⟨hpt.out, hnd.out⟩, hB.out, hq'.out]
     ·have e2 : (((E2 : Nat) : Int) == ((E + 1 : Nat) : Int)) = false := beq_eq_false_iff_ne.2 (by omega)
      try simp only [Int.natCast_add, Int.natCast_one] at e2
      have hdg := hid (show dgB (lk s (scB s p + 1)) = true by rw [hB.out]; exact rn_dig s (E + 1) (E + 1) (Nat.le_refl _) (by rw [hE2.out]; omega))
      obtain ⟨⟨c0, c1, c2, c3⟩, ⟨f0, f1, f2, f3⟩, ⟨d0, d1, d2, d3⟩, g0, g1, g2, g3⟩ := hP.out.facts
      have hn2 := hid (show ¬ (lk s (scB s p) = 46 ∧ dgB (lk s (scB s p + 1)) = false) from fun h => by rw [hdg.out] at h; exact Bool.noConfusion h.2)
      have hbe := hid (show s.extract (E + 1) E2 = scBe s p by rw [scBe, if_pos hpt.out, hB.out, hC.out])
      replace hP := hid (hP.out.set2 (s.extract (E + 1) E2))
      clear hq
      by_cases hc : lk s (E2) = 101 ∨ lk s (E2) = 69
      ·have hc' := hid hc
       clear hc
       have hB := hid (show decide (lk s (E2) = 101 ∨ lk s (E2) = 69) = true by simpa using hc'.out)
       go_wp2_with fail
       refine Calls.mono (isD_calls s (E2) _ (by omega) 101 69 (by decide) (by decide) true hB _) ?_
       rintro e' w_21 ⟨rfl, hw⟩
       rw [← hw] at hP
       clear hw
       try clear c0 c1 c2 c3 f0 f1 f2 f3 d0 d1 d2 d3 g0 g1 g2 g3
       clear hB
       have hX := hid (show scX s p = true by rw [scX, hC.out]; simpa using hc'.out)
       have hCl := lk_in (s := s) (i := E2) (by have := hc'.out; omega)
       clear hc'
       by_cases hc : lk s (E2 + 1) = 43 ∨ lk s (E2 + 1) = 45
       ·have hc' := hid hc
        clear hc
        have hB := hid (show decide (lk s (E2 + 1) = 43 ∨ lk s (E2 + 1) = 45) = true by simpa using hc'.out)
        go_wp2_with fail
        refine Calls.mono (isD_calls s (E2 + 1) _ (by omega) 43 45 (by decide) (by decide) true hB _) ?_
        rintro e' w_22 ⟨rfl, hw⟩
        rw [← hw] at hP
        clear hw
        try clear c0 c1 c2 c3 f0 f1 f2 f3 d0 d1 d2 d3 g0 g1 g2 g3
        clear hB
        have hF := hid (show scF s p = E2 + 2 by rw [scF, hC.out, if_pos hc'.out])
        have hFl : E2 + 2 ≤ s.size := by rw [← hF.out]; exact scF_le s p hX.out
        obtain ⟨E3, hE3⟩ : ∃ QQ, Hid (rn s (E2 + 2) = QQ) := ⟨_, rfl⟩
        have hE3l : E3 ≤ s.size := by rw [← hE3.out]; exact rn_le s _ hFl
        have hE3g : E2 + 2 ≤ E3 := by rw [← hE3.out]; exact rn_ge s _
        have hH := hid (show scH s p = E3 by rw [scH, if_pos hX.out, hF.out, hE3.out])
        go_wp2_with fail
        refine Calls.mono (digits_calls s hs (E2 + 2) _ (by omega) hFl E3 hE3 _) ?_
        rintro e' w_23 ⟨rfl, hw⟩
        rw [← hw] at hP
        clear hw
        try clear c0 c1 c2 c3 f0 f1 f2 f3 d0 d1 d2 d3 g0 g1 g2 g3
        by_cases hq : E3 = E2 + 2
        ·have e3 : (((E3 : Nat) : Int) == ((E2 : Nat) : Int) + 1 + 1) = true := by simp; omega
         try simp only [Int.natCast_add, Int.natCast_one] at e3
         have hnd := hid (show dgB (lk s (scF s p)) = false by have h1 := rn_end s (E2 + 2); rw [hE3.out, hq] at h1; rw [hF.out]; exact h1)
         have hq' := hid hq
         clear hq
         obtain ⟨⟨c0, c1, c2, c3⟩, ⟨f0, f1, f2, f3⟩, ⟨d0, d1, d2, d3⟩, g0, g1, g2, g3⟩ := hP.out.facts
         go_wp2
         refine ret_rp rfl rfl hP.out.out.1 rfl ⟨⟨_, _, _, _, _, _, rfl, ?_⟩, hP.out.out.2⟩
         refine RsT.no ?_
         rw [scanS, if_neg (by rw [hdA.out]; decide), if_neg hn2.out, if_pos ⟨hX.out, hnd.out⟩, hF.out, hq'.out]
        ·have e3 : (((E3 : Nat) : Int) == ((E2 : Nat) : Int) + 1 + 1) = false := beq_eq_false_iff_ne.2 (by omega)
         try simp only [Int.natCast_add, Int.natCast_one] at e3
         have hdg3 := hid (show dgB (lk s (scF s p)) = true by rw [hF.out]; exact rn_dig s (E2 + 2) (E2 + 2) (Nat.le_refl _) (by rw [hE3.out]; omega))
         have hn3 := hid (show ¬ (scX s p = true ∧ dgB (lk s (scF s p)) = false) from fun h => by rw [hdg3.out] at h; exact Bool.noConfusion h.2)
         obtain ⟨⟨c0, c1, c2, c3⟩, ⟨f0, f1, f2, f3⟩, ⟨d0, d1, d2, d3⟩, g0, g1, g2, g3⟩ := hP.out.facts
         have hx := hid (show scEx s p = s.extract (E2 + 1) E3 by rw [scEx, if_pos hX.out, hC.out, hH.out])
         replace hP := hid (hP.out.set3 (s.extract (E2 + 1) E3))
         clear hq
         go_upto_region 28 with fail
         generalize World.setCell _ ⟨w.heap.size + 1, 3, none⟩ _ = wz at hP ⊢
         clear c0 c1 c2 c3 f0 f1 f2 f3 d0 d1 d2 d3 g0 g1 g2 g3
         obtain ⟨⟨c0, c1, c2, c3⟩, ⟨f0, f1, f2, f3⟩, ⟨d0, d1, d2, d3⟩, g0, g1, g2, g3⟩ := hP.out.facts
         go_wp2
         refine ret_rp rfl rfl hP.out.out.1 rfl ⟨⟨_, _, _, _, _, _, rfl, ?_⟩, hP.out.out.2⟩
         have h := RsT.yes hdA.out hn2.out hn3.out
         rw [← hex.out, ← hbe.out, hNg.out] at h
         rw [hH.out, hx.out] at h
         exact h
       ·have hc' := hid hc
        clear hc
        have hB := hid (show decide (lk s (E2 + 1) = 43 ∨ lk s (E2 + 1) = 45) = false by simpa using hc'.out)
        go_wp2_with fail
        refine Calls.mono (isD_calls s (E2 + 1) _ (by omega) 43 45 (by decide) (by decide) false hB _) ?_
        rintro e' w_24 ⟨rfl, hw⟩
        rw [← hw] at hP
        clear hw
        try clear c0 c1 c2 c3 f0 f1 f2 f3 d0 d1 d2 d3 g0 g1 g2 g3
        clear hB
        have hF := hid (show scF s p = E2 + 1 by rw [scF, hC.out, if_neg hc'.out])
        have hFl : E2 + 1 ≤ s.size := by rw [← hF.out]; exact scF_le s p hX.out
        obtain ⟨E3, hE3⟩ : ∃ QQ, Hid (rn s (E2 + 1) = QQ) := ⟨_, rfl⟩
        have hE3l : E3 ≤ s.size := by rw [← hE3.out]; exact rn_le s _ hFl
        have hE3g : E2 + 1 ≤ E3 := by rw [← hE3.out]; exact rn_ge s _
        have hH := hid (show scH s p = E3 by rw [scH, if_pos hX.out, hF.out, hE3.out])
        go_wp2_with fail
        refine Calls.mono (digits_calls s hs (E2 + 1) _ (by omega) hFl E3 hE3 _) ?_
        rintro e' w_25 ⟨rfl, hw⟩
        rw [← hw] at hP
        clear hw
        try clear c0 c1 c2 c3 f0 f1 f2 f3 d0 d1 d2 d3 g0 g1 g2 g3
        by_cases hq : E3 = E2 + 1
        ·have e3 : (((E3 : Nat) : Int) == ((E2 : Nat) : Int) + 1) = true := by simp; omega
         try simp only [Int.natCast_add, Int.natCast_one] at e3
         have hnd := hid (show dgB (lk s (scF s p)) = false by have h1 := rn_end s (E2 + 1); rw [hE3.out, hq] at h1; rw [hF.out]; exact h1)
         have hq' := hid hq
         clear hq
         obtain ⟨⟨c0, c1, c2, c3⟩, ⟨f0, f1, f2, f3⟩, ⟨d0, d1, d2, d3⟩, g0, g1, g2, g3⟩ := hP.out.facts
         go_wp2
         refine ret_rp rfl rfl hP.out.out.1 rfl ⟨⟨_, _, _, _, _, _, rfl, ?_⟩, hP.out.out.2⟩
         refine RsT.no ?_
         rw [scanS, if_neg (by rw [hdA.out]; decide), if_neg hn2.out, if_pos ⟨hX.out, hnd.out⟩, hF.out, hq'.out]
        ·have e3 : (((E3 : Nat) : Int) == ((E2 : Nat) : Int) + 1) = false := beq_eq_false_iff_ne.2 (by omega)
         try simp only [Int.natCast_add, Int.natCast_one] at e3
         have hdg3 := hid (show dgB (lk s (scF s p)) = true by rw [hF.out]; exact rn_dig s (E2 + 1) (E2 + 1) (Nat.le_refl _) (by rw [hE3.out]; omega))
         have hn3 := hid (show ¬ (scX s p = true ∧ dgB (lk s (scF s p)) = false) from fun h => by rw [hdg3.out] at h; exact Bool.noConfusion h.2)
         obtain ⟨⟨c0, c1, c2, c3⟩, ⟨f0, f1, f2, f3⟩, ⟨d0, d1, d2, d3⟩, g0, g1, g2, g3⟩ := hP.out.facts
         have hx := hid (show scEx s p = s.extract (E2 + 1) E3 by rw [scEx, if_pos hX.out, hC.out, hH.out])
         replace hP := hid (hP.out.set3 (s.extract (E2 + 1) E3))
         clear hq
         go_upto_region 28 with fail
         generalize World.setCell _ ⟨w.heap.size + 1, 3, none⟩ _ = wz at hP ⊢
         clear c0 c1 c2 c3 f0 f1 f2 f3 d0 d1 d2 d3 g0 g1 g2 g3
         obtain ⟨⟨c0, c1, c2, c3⟩, ⟨f0, f1, f2, f3⟩, ⟨d0, d1, d2, d3⟩, g0, g1, g2, g3⟩ := hP.out.facts
         go_wp2
         refine ret_rp rfl rfl hP.out.out.1 rfl ⟨⟨_, _, _, _, _, _, rfl, ?_⟩, hP.out.out.2⟩
         have h := RsT.yes hdA.out hn2.out hn3.out
         rw [← hex.out, ← hbe.out, hNg.out] at h
         rw [hH.out, hx.out] at h
         exact h
      ·have hc' := hid hc
       clear hc
       have hB := hid (show decide (lk s (E2) = 101 ∨ lk s (E2) = 69) = false by simpa using hc'.out)
       go_wp2_with fail
       refine Calls.mono (isD_calls s (E2) _ (by omega) 101 69 (by decide) (by decide) false hB _) ?_
       rintro e' w_26 ⟨rfl, hw⟩
       rw [← hw] at hP
       clear hw
       try clear c0 c1 c2 c3 f0 f1 f2 f3 d0 d1 d2 d3 g0 g1 g2 g3
       clear hB
       have hX := hid (show scX s p = false by rw [scX, hC.out]; simpa using hc'.out)
       clear hc'
       have hn3 := hid (show ¬ (scX s p = true ∧ dgB (lk s (scF s p)) = false) from fun h => by rw [hX.out] at h; exact Bool.noConfusion h.1)
       have hH := hid (show scH s p = E2 by rw [scH, if_neg (by rw [hX.out]; decide), hC.out])
       have hx := hid (show scEx s p = ⟨#[]⟩ by rw [scEx, if_neg (by rw [hX.out]; decide)])
       obtain ⟨⟨c0, c1, c2, c3⟩, ⟨f0, f1, f2, f3⟩, ⟨d0, d1, d2, d3⟩, g0, g1, g2, g3⟩ := hP.out.facts
       go_wp2
       refine ret_rp rfl rfl hP.out.out.1 rfl ⟨⟨_, _, _, _, _, _, rfl, ?_⟩, hP.out.out.2⟩
       have h := RsT.yes hdA.out hn2.out hn3.out
       rw [← hex.out, ← hbe.out, hNg.out] at h
       rw [hH.out, hx.out] at h
       exact h
    ·have hc' := hid hc
     clear hc
     have hB := hid (show decide (lk s (E) = 46 ∨ lk s (E) = 46) = false by simpa using hc'.out)
     go_wp2_with fail
     refine Calls.mono (isD_calls s (E) _ (by omega) 46 46 (by decide) (by decide) false hB _) ?_
     rintro e' w_27 ⟨rfl, hw⟩
     rw [← hw] at hP
     clear hw
     try clear c0 c1 c2 c3 f0 f1 f2 f3 d0 d1 d2 d3 g0 g1 g2 g3
     clear hB
     have hnp := hid (show ¬ lk s (scB s p) = 46 by rw [hB.out]; exact hc'.out)
     clear hc'
     have hC := hid (show scC s p = E by rw [scC, if_neg hnp.out, hB.out])
     have hn2 := hid (show ¬ (lk s (scB s p) = 46 ∧ dgB (lk s (scB s p + 1)) = false) from fun h => hnp.out h.1)
     have hbe := hid (show (⟨#[]⟩ : ByteArray) = scBe s p by rw [scBe, if_neg hnp.out])
     by_cases hc : lk s (E) = 101 ∨ lk s (E) = 69
     ·have hc' := hid hc
      clear hc
      have hB := hid (show decide (lk s (E) = 101 ∨ lk s (E) = 69) = true by simpa using hc'.out)
      go_wp2_with fail
      refine Calls.mono (isD_calls s (E) _ (by omega) 101 69 (by decide) (by decide) true hB _) ?_
      rintro e' w_28 ⟨rfl, hw⟩
      rw [← hw] at hP
      clear hw
      try clear c0 c1 c2 c3 f0 f1 f2 f3 d0 d1 d2 d3 g0 g1 g2 g3
      clear hB
      have hX := hid (show scX s p = true by rw [scX, hC.out]; simpa using hc'.out)
      have hCl := lk_in (s := s) (i := E) (by have := hc'.out; omega)
      clear hc'
      by_cases hc : lk s (E + 1) = 43 ∨ lk s (E + 1) = 45
      ·have hc' := hid hc
       clear hc
       have hB := hid (show decide (lk s (E + 1) = 43 ∨ lk s (E + 1) = 45) = true by simpa using hc'.out)
       go_wp2_with fail
       refine Calls.mono (isD_calls s (E + 1) _ (by omega) 43 45 (by decide) (by decide) true hB _) ?_
       rintro e' w_29 ⟨rfl, hw⟩
       rw [← hw] at hP
       clear hw
       try clear c0 c1 c2 c3 f0 f1 f2 f3 d0 d1 d2 d3 g0 g1 g2 g3
       clear hB
       have hF := hid (show scF s p = E + 2 by rw [scF, hC.out, if_pos hc'.out])
       have hFl : E + 2 ≤ s.size := by rw [← hF.out]; exact scF_le s p hX.out
       obtain ⟨E3, hE3⟩ : ∃ QQ, Hid (rn s (E + 2) = QQ) := ⟨_, rfl⟩
       have hE3l : E3 ≤ s.size := by rw [← hE3.out]; exact rn_le s _ hFl
       have hE3g : E + 2 ≤ E3 := by rw [← hE3.out]; exact rn_ge s _
       have hH := hid (show scH s p = E3 by rw [scH, if_pos hX.out, hF.out, hE3.out])
       go_wp2_with fail
       refine Calls.mono (digits_calls s hs (E + 2) _ (by omega) hFl E3 hE3 _) ?_
       rintro e' w_30 ⟨rfl, hw⟩
       rw [← hw] at hP
       clear hw
       try clear c0 c1 c2 c3 f0 f1 f2 f3 d0 d1 d2 d3 g0 g1 g2 g3
       by_cases hq : E3 = E + 2
       ·have e3 : (((E3 : Nat) : Int) == ((E : Nat) : Int) + 1 + 1) = true := by simp; omega
        try simp only [Int.natCast_add, Int.natCast_one] at e3
        have hnd := hid (show dgB (lk s (scF s p)) = false by have h1 := rn_end s (E + 2); rw [hE3.out, hq] at h1; rw [hF.out]; exact h1)
        have hq' := hid hq
        clear hq
        obtain ⟨⟨c0, c1, c2, c3⟩, ⟨f0, f1, f2, f3⟩, ⟨d0, d1, d2, d3⟩, g0, g1, g2, g3⟩ := hP.out.facts
        go_wp2
        refine ret_rp rfl rfl hP.out.out.1 rfl ⟨⟨_, _, _, _, _, _, rfl, ?_⟩, hP.out.out.2⟩
        refine RsT.no ?_
        rw [scanS, if_neg (by rw [hdA.out]; decide), if_neg hn2.out, if_pos ⟨hX.out, hnd.out⟩, hF.out, hq'.out]
       ·have e3 : (((E3 : Nat) : Int) == ((E : Nat) : Int) + 1 + 1) = false := beq_eq_false_iff_ne.2 (by omega)
        try simp only [Int.natCast_add, Int.natCast_one] at e3
        have hdg3 := hid (show dgB (lk s (scF s p)) = true by rw [hF.out]; exact rn_dig s (E + 2) (E + 2) (Nat.le_refl _) (by rw [hE3.out]; omega))
        have hn3 := hid (show ¬ (scX s p = true ∧ dgB (lk s (scF s p)) = false) from fun h => by rw [hdg3.out] at h; exact Bool.noConfusion h.2)
        obtain ⟨⟨c0, c1, c2, c3⟩, ⟨f0, f1, f2, f3⟩, ⟨d0, d1, d2, d3⟩, g0, g1, g2, g3⟩ := hP.out.facts
        have hx := hid (show scEx s p = s.extract (E + 1) E3 by rw [scEx, if_pos hX.out, hC.out, hH.out])
        replace hP := hid (hP.out.set3 (s.extract (E + 1) E3))
        clear hq
        go_upto_region 28 with fail
        generalize World.setCell _ ⟨w.heap.size + 1, 3, none⟩ _ = wz at hP ⊢
        clear c0 c1 c2 c3 f0 f1 f2 f3 d0 d1 d2 d3 g0 g1 g2 g3
        obtain ⟨⟨c0, c1, c2, c3⟩, ⟨f0, f1, f2, f3⟩, ⟨d0, d1, d2, d3⟩, g0, g1, g2, g3⟩ := hP.out.facts
        go_wp2
        refine ret_rp rfl rfl hP.out.out.1 rfl ⟨⟨_, _, _, _, _, _, rfl, ?_⟩, hP.out.out.2⟩
        have h := RsT.yes hdA.out hn2.out hn3.out
        rw [← hex.out, ← hbe.out, hNg.out] at h
        rw [hH.out, hx.out] at h
        exact h
      ·have hc' := hid hc
       clear hc
       have hB := hid (show decide (lk s (E + 1) = 43 ∨ lk s (E + 1) = 45) = false by simpa using hc'.out)
       go_wp2_with fail
       refine Calls.mono (isD_calls s (E + 1) _ (by omega) 43 45 (by decide) (by decide) false hB _) ?_
       rintro e' w_31 ⟨rfl, hw⟩
       rw [← hw] at hP
       clear hw
       try clear c0 c1 c2 c3 f0 f1 f2 f3 d0 d1 d2 d3 g0 g1 g2 g3
       clear hB
       have hF := hid (show scF s p = E + 1 by rw [scF, hC.out, if_neg hc'.out])
       have hFl : E + 1 ≤ s.size := by rw [← hF.out]; exact scF_le s p hX.out
       obtain ⟨E3, hE3⟩ : ∃ QQ, Hid (rn s (E + 1) = QQ) := ⟨_, rfl⟩
       have hE3l : E3 ≤ s.size := by rw [← hE3.out]; exact rn_le s _ hFl
       have hE3g : E + 1 ≤ E3 := by rw [← hE3.out]; exact rn_ge s _
       have hH := hid (show scH s p = E3 by rw [scH, if_pos hX.out, hF.out, hE3.out])
       go_wp2_with fail
       refine Calls.mono (digits_calls s hs (E + 1) _ (by omega) hFl E3 hE3 _) ?_
       rintro e' w_32 ⟨rfl, hw⟩
       rw [← hw] at hP
       clear hw
       try clear c0 c1 c2 c3 f0 f1 f2 f3 d0 d1 d2 d3 g0 g1 g2 g3
       by_cases hq : E3 = E + 1
       ·have e3 : (((E3 : Nat) : Int) == ((E : Nat) : Int) + 1) = true := by simp; omega
        try simp only [Int.natCast_add, Int.natCast_one] at e3
        have hnd := hid (show dgB (lk s (scF s p)) = false by have h1 := rn_end s (E + 1); rw [hE3.out, hq] at h1; rw [hF.out]; exact h1)
        have hq' := hid hq
        clear hq
        obtain ⟨⟨c0, c1, c2, c3⟩, ⟨f0, f1, f2, f3⟩, ⟨d0, d1, d2, d3⟩, g0, g1, g2, g3⟩ := hP.out.facts
        go_wp2
        refine ret_rp rfl rfl hP.out.out.1 rfl ⟨⟨_, _, _, _, _, _, rfl, ?_⟩, hP.out.out.2⟩
        refine RsT.no ?_
        rw [scanS, if_neg (by rw [hdA.out]; decide), if_neg hn2.out, if_pos ⟨hX.out, hnd.out⟩, hF.out, hq'.out]
       ·have e3 : (((E3 : Nat) : Int) == ((E : Nat) : Int) + 1) = false := beq_eq_false_iff_ne.2 (by omega)
        try simp only [Int.natCast_add, Int.natCast_one] at e3
        have hdg3 := hid (show dgB (lk s (scF s p)) = true by rw [hF.out]; exact rn_dig s (E + 1) (E + 1) (Nat.le_refl _) (by rw [hE3.out]; omega))
        have hn3 := hid (show ¬ (scX s p = true ∧ dgB (lk s (scF s p)) = false) from fun h => by rw [hdg3.out] at h; exact Bool.noConfusion h.2)
        obtain ⟨⟨c0, c1, c2, c3⟩, ⟨f0, f1, f2, f3⟩, ⟨d0, d1, d2, d3⟩, g0, g1, g2, g3⟩ := hP.out.facts
        have hx := hid (show scEx s p = s.extract (E + 1) E3 by rw [scEx, if_pos hX.out, hC.out, hH.out])
        replace hP := hid (hP.out.set3 (s.extract (E + 1) E3))
        clear hq
        go_upto_region 28 with fail
        generalize World.setCell _ ⟨w.heap.size + 1, 3, none⟩ _ = wz at hP ⊢
        clear c0 c1 c2 c3 f0 f1 f2 f3 d0 d1 d2 d3 g0 g1 g2 g3
        obtain ⟨⟨c0, c1, c2, c3⟩, ⟨f0, f1, f2, f3⟩, ⟨d0, d1, d2, d3⟩, g0, g1, g2, g3⟩ := hP.out.facts
        go_wp2
        refine ret_rp rfl rfl hP.out.out.1 rfl ⟨⟨_, _, _, _, _, _, rfl, ?_⟩, hP.out.out.2⟩
        have h := RsT.yes hdA.out hn2.out hn3.out
        rw [← hex.out, ← hbe.out, hNg.out] at h
        rw [hH.out, hx.out] at h
        exact h
     ·have hc' := hid hc
      clear hc
      have hB := hid (show decide (lk s (E) = 101 ∨ lk s (E) = 69) = false by simpa using hc'.out)
      go_wp2_with fail
      refine Calls.mono (isD_calls s (E) _ (by omega) 101 69 (by decide) (by decide) false hB _) ?_
      rintro e' w_33 ⟨rfl, hw⟩
      rw [← hw] at hP
      clear hw
      try clear c0 c1 c2 c3 f0 f1 f2 f3 d0 d1 d2 d3 g0 g1 g2 g3
      clear hB
      have hX := hid (show scX s p = false by rw [scX, hC.out]; simpa using hc'.out)
      clear hc'
      have hn3 := hid (show ¬ (scX s p = true ∧ dgB (lk s (scF s p)) = false) from fun h => by rw [hX.out] at h; exact Bool.noConfusion h.1)
      have hH := hid (show scH s p = E by rw [scH, if_neg (by rw [hX.out]; decide), hC.out])
      have hx := hid (show scEx s p = ⟨#[]⟩ by rw [scEx, if_neg (by rw [hX.out]; decide)])
      obtain ⟨⟨c0, c1, c2, c3⟩, ⟨f0, f1, f2, f3⟩, ⟨d0, d1, d2, d3⟩, g0, g1, g2, g3⟩ := hP.out.facts
      go_wp2
      refine ret_rp rfl rfl hP.out.out.1 rfl ⟨⟨_, _, _, _, _, _, rfl, ?_⟩, hP.out.out.2⟩
      have h := RsT.yes hdA.out hn2.out hn3.out
      rw [← hex.out, ← hbe.out, hNg.out] at h
      rw [hH.out, hx.out] at h
      exact h
 ·have hc' := hid hc
  clear hc
  have hB := hid (show decide (lk s (p) = 45 ∨ lk s (p) = 45) = false by simpa using hc'.out)
  go_wp2_with fail
  refine Calls.mono (isD_calls s (p) _ (by omega) 45 45 (by decide) (by decide) false hB _) ?_
  rintro e' w_34 ⟨rfl, hw⟩
  rw [← hw] at hP
  clear hw
  try clear c0 c1 c2 c3 f0 f1 f2 f3 d0 d1 d2 d3 g0 g1 g2 g3
  clear hB
  have hN := hid hc'.out
  clear hc'
  have hA := hid (show scA s p = p by rw [scA, if_neg hN.out])
  have hNg := hid (show scNeg s p = false by rw [scNeg]; simpa using hN.out)
  obtain ⟨D1, hD1⟩ : ∃ D, Hid (dgB (lk s (p)) = D) := ⟨_, rfl⟩
  have hcD := hid (fun w1 => refDig_calls s (p) D1 hD1 w1)
  try (rw [show (((p + 1 : Nat)) : Int) = (p : Int) + 1 from rfl] at hcD)
  go_wp2_with fail
  refine Calls.mono (hcD.out _) ?_
  rintro e' w_35 ⟨rfl, hw⟩
  rw [← hw] at hP
  clear hw hcD
  try clear c0 c1 c2 c3 f0 f1 f2 f3 d0 d1 d2 d3 g0 g1 g2 g3
  cases D1 with
  | false =>
   obtain ⟨⟨c0, c1, c2, c3⟩, ⟨f0, f1, f2, f3⟩, ⟨d0, d1, d2, d3⟩, g0, g1, g2, g3⟩ := hP.out.facts
   go_wp2
   refine ret_rp rfl rfl hP.out.out.1 rfl ⟨⟨_, _, _, _, _, _, rfl, ?_⟩, hP.out.out.2⟩
   refine RsT.no ?_
   rw [scanS, if_pos (by rw [hA.out, hD1.out]), hA.out]
  | true =>
   have hAl := dg_in hD1.out
   obtain ⟨E, hE⟩ : ∃ QQ, Hid (rn s (p) = QQ) := ⟨_, rfl⟩
   have hEl : E ≤ s.size := by rw [← hE.out]; exact rn_le s _ (by omega)
   have hEg : p < E := by rw [← hE.out]; exact rn_lt s _ hD1.out
   have hdA := hid (show dgB (lk s (scA s p)) = true by rw [hA.out, hD1.out])
   go_wp2_with fail
   refine Calls.mono (digits_calls s hs (p) _ (by omega) (by omega) E hE _) ?_
   rintro e' w_36 ⟨rfl, hw⟩
   rw [← hw] at hP
   clear hw
   try clear c0 c1 c2 c3 f0 f1 f2 f3 d0 d1 d2 d3 g0 g1 g2 g3
   obtain ⟨y, hy⟩ : ∃ y, (s[p]'hAl).toNat = y := ⟨_, rfl⟩
   have hly := hid (show lk s (p) = y by rw [lk_at s _ hAl, hy])
   have hAI : ((p : Nat) : Int) < (s.size : Int) := by omega
   try (have hAI2 : (p : Int) + 1 < (s.size : Int) := by omega)
   by_cases h48 : y = 48
   ·have g48 : ((y : Int) == 48) = true := by simp [h48]
    have hB := hid (show scB s p = p + 1 by rw [scB, hA.out, hly.out, if_pos h48])
    clear h48
    obtain ⟨⟨c0, c1, c2, c3⟩, ⟨f0, f1, f2, f3⟩, ⟨d0, d1, d2, d3⟩, g0, g1, g2, g3⟩ := hP.out.facts
    have hex := hid (show s.extract (p) (p + 1) = s.extract (scA s p) (scB s p) by rw [hA.out, hB.out])
    replace hP := hid (hP.out.set1 (s.extract (p) (p + 1)))
    have hBl : p + 1 ≤ s.size := by omega
    by_cases hc : lk s (p + 1) = 46
    ·have hc' := hid hc
     clear hc
     have hB := hid (show decide (lk s (p + 1) = 46 ∨ lk s (p + 1) = 46) = true by simpa using hc'.out)
     go_wp2_with fail
     refine Calls.mono (isD_calls s (p + 1) _ (by omega) 46 46 (by decide) (by decide) true hB _) ?_
     rintro e' w_37 ⟨rfl, hw⟩
     rw [← hw] at hP
     clear hw
     try clear c0 c1 c2 c3 f0 f1 f2 f3 d0 d1 d2 d3 g0 g1 g2 g3
     clear hB
     have hpt := hid (show lk s (scB s p) = 46 by rw [hB.out]; exact hc'.out)
     have hBl2 := lk_in (s := s) (i := p + 1) (by rw [hc'.out]; decide)
     clear hc'
     obtain ⟨E2, hE2⟩ : ∃ QQ, Hid (rn s (p + 1 + 1) = QQ) := ⟨_, rfl⟩
     have hE2l : E2 ≤ s.size := by rw [← hE2.out]; exact rn_le s _ (by omega)
     have hE2g : p + 1 + 1 ≤ E2 := by rw [← hE2.out]; exact rn_ge s _
     have hC := hid (show scC s p = E2 by rw [scC, if_pos hpt.out, hB.out, hE2.out])
     go_wp2_with fail
     refine Calls.mono (digits_calls s hs (p + 1 + 1) _ (by omega) (by omega) E2 hE2 _) ?_
     rintro e' w_38 ⟨rfl, hw⟩
     rw [← hw] at hP
     clear hw
     try clear c0 c1 c2 c3 f0 f1 f2 f3 d0 d1 d2 d3 g0 g1 g2 g3
     by_cases hq : E2 = p + 1 + 1
     ·have e2 : (((E2 : Nat) : Int) == ((p + 1 + 1 : Nat) : Int)) = true := by simp [hq]
      try simp only [Int.natCast_add, Int.natCast_one] at e2
      have hnd := hid (show dgB (lk s (scB s p + 1)) = false by have h1 := rn_end s (p + 1 + 1); rw [hE2.out, hq] at h1; rw [hB.out]; exact h1)
      have hq' := hid hq
      clear hq
      obtain ⟨⟨c0, c1, c2, c3⟩, ⟨f0, f1, f2, f3⟩, ⟨d0, d1, d2, d3⟩, g0, g1, g2, g3⟩ := hP.out.facts
      go_wp2
      refine ret_rp rfl rfl hP.out.out.1 rfl ⟨⟨_, _, _, _, _, _, rfl, ?_⟩, hP.out.out.2⟩
      refine RsT.no ?_
      rw [scanS, if_neg (by rw [hdA.out]; decide), if_pos ⟨hpt.out, hnd.out⟩, hB.out, hq'.out]
     ·have e2 : (((E2 : Nat) : Int) == ((p + 1 + 1 : Nat) : Int)) = false := beq_eq_false_iff_ne.2 (by omega)
      try simp only [Int.natCast_add, Int.natCast_one] at e2
      have hdg := hid (show dgB (lk s (scB s p + 1)) = true by rw [hB.out]; exact rn_dig s (p + 1 + 1) (p + 1 + 1) (Nat.le_refl _) (by rw [hE2.out]; omega))
      obtain ⟨⟨c0, c1, c2, c3⟩, ⟨f0, f1, f2, f3⟩, ⟨d0, d1, d2, d3⟩, g0, g1, g2, g3⟩ := hP.out.facts
      have hn2 := hid (show ¬ (lk s (scB s p) = 46 ∧ dgB (lk s (scB s p + 1)) = false) from fun h => by rw [hdg.out] at h; exact Bool.noConfusion h.2)
      have hbe := hid (show s.extract (p + 1 + 1) E2 = scBe s p by rw [scBe, if_pos hpt.out, hB.out, hC.out])
      replace hP := hid (hP.out.set2 (s.extract (p + 1 + 1) E2))
      clear hq
      by_cases hc : lk s (E2) = 101 ∨ lk s (E2) = 69
      ·have hc' := hid hc
       clear hc
       have hB := hid (show decide (lk s (E2) = 101 ∨ lk s (E2) = 69) = true by simpa using hc'.out)
       go_wp2_with fail
       refine Calls.mono (isD_calls s (E2) _ (by omega) 101 69 (by decide) (by decide) true hB _) ?_
       rintro e' w_39 ⟨rfl, hw⟩
       rw [← hw] at hP
       clear hw
       try clear c0 c1 c2 c3 f0 f1 f2 f3 d0 d1 d2 d3 g0 g1 g2 g3
       clear hB
       have hX := hid (show scX s p = true by rw [scX, hC.out]; simpa using hc'.out)
       have hCl := lk_in (s := s) (i := E2) (by have := hc'.out; omega)
       clear hc'
       by_cases hc : lk s (E2 + 1) = 43 ∨ lk s (E2 + 1) = 45
       ·have hc' := hid hc
        clear hc
        have hB := hid (show decide (lk s (E2 + 1) = 43 ∨ lk s (E2 + 1) = 45) = true by simpa using hc'.out)
        go_wp2_with fail
        refine Calls.mono (isD_calls s (E2 + 1) _ (by omega) 43 45 (by decide) (by decide) true hB _) ?_
        rintro e' w_40 ⟨rfl, hw⟩
        rw [← hw] at hP
        clear hw
        try clear c0 c1 c2 c3 f0 f1 f2 f3 d0 d1 d2 d3 g0 g1 g2 g3
        clear hB
        have hF := hid (show scF s p = E2 + 2 by rw [scF, hC.out, if_pos hc'.out])
        have hFl : E2 + 2 ≤ s.size := by rw [← hF.out]; exact scF_le s p hX.out
        obtain ⟨E3, hE3⟩ : ∃ QQ, Hid (rn s (E2 + 2) = QQ) := ⟨_, rfl⟩
        have hE3l : E3 ≤ s.size := by rw [← hE3.out]; exact rn_le s _ hFl
        have hE3g : E2 + 2 ≤ E3 := by rw [← hE3.out]; exact rn_ge s _
        have hH := hid (show scH s p = E3 by rw [scH, if_pos hX.out, hF.out, hE3.out])
        go_wp2_with fail
        refine Calls.mono (digits_calls s hs (E2 + 2) _ (by omega) hFl E3 hE3 _) ?_
        rintro e' w_41 ⟨rfl, hw⟩
        rw [← hw] at hP
        clear hw
        try clear c0 c1 c2 c3 f0 f1 f2 f3 d0 d1 d2 d3 g0 g1 g2 g3
        by_cases hq : E3 = E2 + 2
        ·have e3 : (((E3 : Nat) : Int) == ((E2 : Nat) : Int) + 1 + 1) = true := by simp; omega
         try simp only [Int.natCast_add, Int.natCast_one] at e3
         have hnd := hid (show dgB (lk s (scF s p)) = false by have h1 := rn_end s (E2 + 2); rw [hE3.out, hq] at h1; rw [hF.out]; exact h1)
         have hq' := hid hq
         clear hq
         obtain ⟨⟨c0, c1, c2, c3⟩, ⟨f0, f1, f2, f3⟩, ⟨d0, d1, d2, d3⟩, g0, g1, g2, g3⟩ := hP.out.facts
         go_wp2
         refine ret_rp rfl rfl hP.out.out.1 rfl ⟨⟨_, _, _, _, _, _, rfl, ?_⟩, hP.out.out.2⟩
         refine RsT.no ?_
         rw [scanS, if_neg (by rw [hdA.out]; decide), if_neg hn2.out, if_pos ⟨hX.out, hnd.out⟩, hF.out, hq'.out]
        ·have e3 : (((E3 : Nat) : Int) == ((E2 : Nat) : Int) + 1 + 1) = false := beq_eq_false_iff_ne.2 (by omega)
         try simp only [Int.natCast_add, Int.natCast_one] at e3
         have hdg3 := hid (show dgB (lk s (scF s p)) = true by rw [hF.out]; exact rn_dig s (E2 + 2) (E2 + 2) (Nat.le_refl _) (by rw [hE3.out]; omega))
         have hn3 := hid (show ¬ (scX s p = true ∧ dgB (lk s (scF s p)) = false) from fun h => by rw [hdg3.out] at h; exact Bool.noConfusion h.2)
         obtain ⟨⟨c0, c1, c2, c3⟩, ⟨f0, f1, f2, f3⟩, ⟨d0, d1, d2, d3⟩, g0, g1, g2, g3⟩ := hP.out.facts
         have hx := hid (show scEx s p = s.extract (E2 + 1) E3 by rw [scEx, if_pos hX.out, hC.out, hH.out])
         replace hP := hid (hP.out.set3 (s.extract (E2 + 1) E3))
         clear hq
         go_upto_region 28 with fail
         generalize World.setCell _ ⟨w.heap.size + 1, 3, none⟩ _ = wz at hP ⊢
         clear c0 c1 c2 c3 f0 f1 f2 f3 d0 d1 d2 d3 g0 g1 g2 g3
         obtain ⟨⟨c0, c1, c2, c3⟩, ⟨f0, f1, f2, f3⟩, ⟨d0, d1, d2, d3⟩, g0, g1, g2, g3⟩ := hP.out.facts
         go_wp2
         refine ret_rp rfl rfl hP.out.out.1 rfl ⟨⟨_, _, _, _, _, _, rfl, ?_⟩, hP.out.out.2⟩
         have h := RsT.yes hdA.out hn2.out hn3.out
         rw [← hex.out, ← hbe.out, hNg.out] at h
         rw [hH.out, hx.out] at h
         exact h
       ·have hc' := hid hc
        clear hc
        have hB := hid (show decide (lk s (E2 + 1) = 43 ∨ lk s (E2 + 1) = 45) = false by simpa using hc'.out)
        go_wp2_with fail
        refine Calls.mono (isD_calls s (E2 + 1) _ (by omega) 43 45 (by decide) (by decide) false hB _) ?_
        rintro e' w_42 ⟨rfl, hw⟩
        rw [← hw] at hP
        clear hw
        try clear c0 c1 c2 c3 f0 f1 f2 f3 d0 d1 d2 d3 g0 g1 g2 g3
        clear hB
        have hF := hid (show scF s p = E2 + 1 by rw [scF, hC.out, if_neg hc'.out])
        have hFl : E2 + 1 ≤ s.size := by rw [← hF.out]; exact scF_le s p hX.out
        obtain ⟨E3, hE3⟩ : ∃ QQ, Hid (rn s (E2 + 1) = QQ) := ⟨_, rfl⟩
        have hE3l : E3 ≤ s.size := by rw [← hE3.out]; exact rn_le s _ hFl
        have hE3g : E2 + 1 ≤ E3 := by rw [← hE3.out]; exact rn_ge s _
        have hH := hid (show scH s p = E3 by rw [scH, if_pos hX.out, hF.out, hE3.out])
        go_wp2_with fail
        refine Calls.mono (digits_calls s hs (E2 + 1) _ (by omega) hFl E3 hE3 _) ?_
        rintro e' w_43 ⟨rfl, hw⟩
        rw [← hw] at hP
        clear hw
        try clear c0 c1 c2 c3 f0 f1 f2 f3 d0 d1 d2 d3 g0 g1 g2 g3
        by_cases hq : E3 = E2 + 1
        ·have e3 : (((E3 : Nat) : Int) == ((E2 : Nat) : Int) + 1) = true := by simp; omega
         try simp only [Int.natCast_add, Int.natCast_one] at e3
         have hnd := hid (show dgB (lk s (scF s p)) = false by have h1 := rn_end s (E2 + 1); rw [hE3.out, hq] at h1; rw [hF.out]; exact h1)
         have hq' := hid hq
         clear hq
         obtain ⟨⟨c0, c1, c2, c3⟩, ⟨f0, f1, f2, f3⟩, ⟨d0, d1, d2, d3⟩, g0, g1, g2, g3⟩ := hP.out.facts
         go_wp2
         refine ret_rp rfl rfl hP.out.out.1 rfl ⟨⟨_, _, _, _, _, _, rfl, ?_⟩, hP.out.out.2⟩
         refine RsT.no ?_
         rw [scanS, if_neg (by rw [hdA.out]; decide), if_neg hn2.out, if_pos ⟨hX.out, hnd.out⟩, hF.out, hq'.out]
        ·have e3 : (((E3 : Nat) : Int) == ((E2 : Nat) : Int) + 1) = false := beq_eq_false_iff_ne.2 (by omega)
         try simp only [Int.natCast_add, Int.natCast_one] at e3
         have hdg3 := hid (show dgB (lk s (scF s p)) = true by rw [hF.out]; exact rn_dig s (E2 + 1) (E2 + 1) (Nat.le_refl _) (by rw [hE3.out]; omega))
         have hn3 := hid (show ¬ (scX s p = true ∧ dgB (lk s (scF s p)) = false) from fun h => by rw [hdg3.out] at h; exact Bool.noConfusion h.2)
         obtain ⟨⟨c0, c1, c2, c3⟩, ⟨f0, f1, f2, f3⟩, ⟨d0, d1, d2, d3⟩, g0, g1, g2, g3⟩ := hP.out.facts
         have hx := hid (show scEx s p = s.extract (E2 + 1) E3 by rw [scEx, if_pos hX.out, hC.out, hH.out])
         replace hP := hid (hP.out.set3 (s.extract (E2 + 1) E3))
         clear hq
         go_upto_region 28 with fail
         generalize World.setCell _ ⟨w.heap.size + 1, 3, none⟩ _ = wz at hP ⊢
         clear c0 c1 c2 c3 f0 f1 f2 f3 d0 d1 d2 d3 g0 g1 g2 g3
         obtain ⟨⟨c0, c1, c2, c3⟩, ⟨f0, f1, f2, f3⟩, ⟨d0, d1, d2, d3⟩, g0, g1, g2, g3⟩ := hP.out.facts
         go_wp2
         refine ret_rp rfl rfl hP.out.out.1 rfl ⟨⟨_, _, _, _, _, _, rfl, ?_⟩, hP.out.out.2⟩
         have h := RsT.yes hdA.out hn2.out hn3.out
         rw [← hex.out, ← hbe.out, hNg.out] at h
         rw [hH.out, hx.out] at h
         exact h
      ·have hc' := hid hc
       clear hc
       have hB := hid (show decide (lk s (E2) = 101 ∨ lk s (E2) = 69) = false by simpa using hc'.out)
       go_wp2_with fail
       refine Calls.mono (isD_calls s (E2) _ (by omega) 101 69 (by decide) (by decide) false hB _) ?_
       rintro e' w_44 ⟨rfl, hw⟩
       rw [← hw] at hP
       clear hw
       try clear c0 c1 c2 c3 f0 f1 f2 f3 d0 d1 d2 d3 g0 g1 g2 g3
       clear hB
       have hX := hid (show scX s p = false by rw [scX, hC.out]; simpa using hc'.out)
       clear hc'
       have hn3 := hid (show ¬ (scX s p = true ∧ dgB (lk s (scF s p)) = false) from fun h => by rw [hX.out] at h; exact Bool.noConfusion h.1)
       have hH := hid (show scH s p = E2 by rw [scH, if_neg (by rw [hX.out]; decide), hC.out])
       have hx := hid (show scEx s p = ⟨#[]⟩ by rw [scEx, if_neg (by rw [hX.out]; decide)])
       obtain ⟨⟨c0, c1, c2, c3⟩, ⟨f0, f1, f2, f3⟩, ⟨d0, d1, d2, d3⟩, g0, g1, g2, g3⟩ := hP.out.facts
       go_wp2
       refine ret_rp rfl rfl hP.out.out.1 rfl ⟨⟨_, _, _, _, _, _, rfl, ?_⟩, hP.out.out.2⟩
       have h := RsT.yes hdA.out hn2.out hn3.out
       rw [← hex.out, ← hbe.out, hNg.out] at h
       rw [hH.out, hx.out] at h
       exact h
    ·have hc' := hid hc
     clear hc
     have hB := hid (show decide (lk s (p + 1) = 46 ∨ lk s (p + 1) = 46) = false by simpa using hc'.out)
     go_wp2_with fail
     refine Calls.mono (isD_calls s (p + 1) _ (by omega) 46 46 (by decide) (by decide) false hB _) ?_
     rintro e' w_45 ⟨rfl, hw⟩
     rw [← hw] at hP
     clear hw
     try clear c0 c1 c2 c3 f0 f1 f2 f3 d0 d1 d2 d3 g0 g1 g2 g3
     clear hB
     have hnp := hid (show ¬ lk s (scB s p) = 46 by rw [hB.out]; exact hc'.out)
     clear hc'
     have hC := hid (show scC s p = p + 1 by rw [scC, if_neg hnp.out, hB.out])
     have hn2 := hid (show ¬ (lk s (scB s p) = 46 ∧ dgB (lk s (scB s p + 1)) = false) from fun h => hnp.out h.1)
     have hbe := hid (show (⟨#[]⟩ : ByteArray) = scBe s p by rw [scBe, if_neg hnp.out])
     by_cases hc : lk s (p + 1) = 101 ∨ lk s (p + 1) = 69
     ·have hc' := hid hc
      clear hc
      have hB := hid (show decide (lk s (p + 1) = 101 ∨ lk s (p + 1) = 69) = true by simpa using hc'.out)
      go_wp2_with fail
      refine Calls.mono (isD_calls s (p + 1) _ (by omega) 101 69 (by decide) (by decide) true hB _) ?_
      rintro e' w_46 ⟨rfl, hw⟩
      rw [← hw] at hP
      clear hw
      try clear c0 c1 c2 c3 f0 f1 f2 f3 d0 d1 d2 d3 g0 g1 g2 g3
      clear hB
      have hX := hid (show scX s p = true by rw [scX, hC.out]; simpa using hc'.out)
      have hCl := lk_in (s := s) (i := p + 1) (by have := hc'.out; omega)
      clear hc'
      by_cases hc : lk s (p + 1 + 1) = 43 ∨ lk s (p + 1 + 1) = 45
      ·have hc' := hid hc
       clear hc
       have hB := hid (show decide (lk s (p + 1 + 1) = 43 ∨ lk s (p + 1 + 1) = 45) = true by simpa using hc'.out)
       go_wp2_with fail
       refine Calls.mono (isD_calls s (p + 1 + 1) _ (by omega) 43 45 (by decide) (by decide) true hB _) ?_
       rintro e' w_47 ⟨rfl, hw⟩
       rw [← hw] at hP
       clear hw
       try clear c0 c1 c2 c3 f0 f1 f2 f3 d0 d1 d2 d3 g0 g1 g2 g3
       clear hB
       have hF := hid (show scF s p = p + 1 + 2 by rw [scF, hC.out, if_pos hc'.out])
       have hFl : p + 1 + 2 ≤ s.size := by rw [← hF.out]; exact scF_le s p hX.out
       obtain ⟨E3, hE3⟩ : ∃ QQ, Hid (rn s (p + 1 + 2) = QQ) := ⟨_, rfl⟩
       have hE3l : E3 ≤ s.size := by rw [← hE3.out]; exact rn_le s _ hFl
       have hE3g : p + 1 + 2 ≤ E3 := by rw [← hE3.out]; exact rn_ge s _
       have hH := hid (show scH s p = E3 by rw [scH, if_pos hX.out, hF.out, hE3.out])
       go_wp2_with fail
       refine Calls.mono (digits_calls s hs (p + 1 + 2) _ (by omega) hFl E3 hE3 _) ?_
       rintro e' w_48 ⟨rfl, hw⟩
       rw [← hw] at hP
       clear hw
       try clear c0 c1 c2 c3 f0 f1 f2 f3 d0 d1 d2 d3 g0 g1 g2 g3
       by_cases hq : E3 = p + 1 + 2
       ·have e3 : (((E3 : Nat) : Int) == ((p + 1 : Nat) : Int) + 1 + 1) = true := by simp; omega
        try simp only [Int.natCast_add, Int.natCast_one] at e3
        have hnd := hid (show dgB (lk s (scF s p)) = false by have h1 := rn_end s (p + 1 + 2); rw [hE3.out, hq] at h1; rw [hF.out]; exact h1)
        have hq' := hid hq
        clear hq
        obtain ⟨⟨c0, c1, c2, c3⟩, ⟨f0, f1, f2, f3⟩, ⟨d0, d1, d2, d3⟩, g0, g1, g2, g3⟩ := hP.out.facts
        go_wp2
        refine ret_rp rfl rfl hP.out.out.1 rfl ⟨⟨_, _, _, _, _, _, rfl, ?_⟩, hP.out.out.2⟩
        refine RsT.no ?_
        rw [scanS, if_neg (by rw [hdA.out]; decide), if_neg hn2.out, if_pos ⟨hX.out, hnd.out⟩, hF.out, hq'.out]
       ·have e3 : (((E3 : Nat) : Int) == ((p + 1 : Nat) : Int) + 1 + 1) = false := beq_eq_false_iff_ne.2 (by omega)
        try simp only [Int.natCast_add, Int.natCast_one] at e3
        have hdg3 := hid (show dgB (lk s (scF s p)) = true by rw [hF.out]; exact rn_dig s (p + 1 + 2) (p + 1 + 2) (Nat.le_refl _) (by rw [hE3.out]; omega))
        have hn3 := hid (show ¬ (scX s p = true ∧ dgB (lk s (scF s p)) = false) from fun h => by rw [hdg3.out] at h; exact Bool.noConfusion h.2)
        obtain ⟨⟨c0, c1, c2, c3⟩, ⟨f0, f1, f2, f3⟩, ⟨d0, d1, d2, d3⟩, g0, g1, g2, g3⟩ := hP.out.facts
        have hx := hid (show scEx s p = s.extract (p + 1 + 1) E3 by rw [scEx, if_pos hX.out, hC.out, hH.out])
        replace hP := hid (hP.out.set3 (s.extract (p + 1 + 1) E3))
        clear hq
        go_upto_region 28 with fail
        generalize World.setCell _ ⟨w.heap.size + 1, 3, none⟩ _ = wz at hP ⊢
        clear c0 c1 c2 c3 f0 f1 f2 f3 d0 d1 d2 d3 g0 g1 g2 g3
        obtain ⟨⟨c0, c1, c2, c3⟩, ⟨f0, f1, f2, f3⟩, ⟨d0, d1, d2, d3⟩, g0, g1, g2, g3⟩ := hP.out.facts
        go_wp2
        refine ret_rp rfl rfl hP.out.out.1 rfl ⟨⟨_, _, _, _, _, _, rfl, ?_⟩, hP.out.out.2⟩
        have h := RsT.yes hdA.out hn2.out hn3.out
        rw [← hex.out, ← hbe.out, hNg.out] at h
        rw [hH.out, hx.out] at h
        exact h
      ·have hc' := hid hc
       clear hc
       have hB := hid (show decide (lk s (p + 1 + 1) = 43 ∨ lk s (p + 1 + 1) = 45) = false by simpa using hc'.out)
       go_wp2_with fail
       refine Calls.mono (isD_calls s (p + 1 + 1) _ (by omega) 43 45 (by decide) (by decide) false hB _) ?_
       rintro e' w_49 ⟨rfl, hw⟩
       rw [← hw] at hP
       clear hw
       try clear c0 c1 c2 c3 f0 f1 f2 f3 d0 d1 d2 d3 g0 g1 g2 g3
       clear hB
       have hF := hid (show scF s p = p + 1 + 1 by rw [scF, hC.out, if_neg hc'.out])
       have hFl : p + 1 + 1 ≤ s.size := by rw [← hF.out]; exact scF_le s p hX.out
       obtain ⟨E3, hE3⟩ : ∃ QQ, Hid (rn s (p + 1 + 1) = QQ) := ⟨_, rfl⟩
       have hE3l : E3 ≤ s.size := by rw [← hE3.out]; exact rn_le s _ hFl
       have hE3g : p + 1 + 1 ≤ E3 := by rw [← hE3.out]; exact rn_ge s _
       have hH := hid (show scH s p = E3 by rw [scH, if_pos hX.out, hF.out, hE3.out])
       go_wp2_with fail
       refine Calls.mono (digits_calls s hs (p + 1 + 1) _ (by omega) hFl E3 hE3 _) ?_
       rintro e' w_50 ⟨rfl, hw⟩
       rw [← hw] at hP
       clear hw
       try clear c0 c1 c2 c3 f0 f1 f2 f3 d0 d1 d2 d3 g0 g1 g2 g3
       by_cases hq : E3 = p + 1 + 1
       ·have e3 : (((E3 : Nat) : Int) == ((p + 1 : Nat) : Int) + 1) = true := by simp; omega
        try simp only [Int.natCast_add, Int.natCast_one] at e3
        have hnd := hid (show dgB (lk s (scF s p)) = false by have h1 := rn_end s (p + 1 + 1); rw [hE3.out, hq] at h1; rw [hF.out]; exact h1)
        have hq' := hid hq
        clear hq
        obtain ⟨⟨c0, c1, c2, c3⟩, ⟨f0, f1, f2, f3⟩, ⟨d0, d1, d2, d3⟩, g0, g1, g2, g3⟩ := hP.out.facts
        go_wp2
        refine ret_rp rfl rfl hP.out.out.1 rfl ⟨⟨_, _, _, _, _, _, rfl, ?_⟩, hP.out.out.2⟩
        refine RsT.no ?_
        rw [scanS, if_neg (by rw [hdA.out]; decide), if_neg hn2.out, if_pos ⟨hX.out, hnd.out⟩, hF.out, hq'.out]
       ·have e3 : (((E3 : Nat) : Int) == ((p + 1 : Nat) : Int) + 1) = false := beq_eq_false_iff_ne.2 (by omega)
        try simp only [Int.natCast_add, Int.natCast_one] at e3
        have hdg3 := hid (show dgB (lk s (scF s p)) = true by rw [hF.out]; exact rn_dig s (p + 1 + 1) (p + 1 + 1) (Nat.le_refl _) (by rw [hE3.out]; omega))
        have hn3 := hid (show ¬ (scX s p = true ∧ dgB (lk s (scF s p)) = false) from fun h => by rw [hdg3.out] at h; exact Bool.noConfusion h.2)
        obtain ⟨⟨c0, c1, c2, c3⟩, ⟨f0, f1, f2, f3⟩, ⟨d0, d1, d2, d3⟩, g0, g1, g2, g3⟩ := hP.out.facts
        have hx := hid (show scEx s p = s.extract (p + 1 + 1) E3 by rw [scEx, if_pos hX.out, hC.out, hH.out])
        replace hP := hid (hP.out.set3 (s.extract (p + 1 + 1) E3))
        clear hq
        go_upto_region 28 with fail
        generalize World.setCell _ ⟨w.heap.size + 1, 3, none⟩ _ = wz at hP ⊢
        clear c0 c1 c2 c3 f0 f1 f2 f3 d0 d1 d2 d3 g0 g1 g2 g3
        obtain ⟨⟨c0, c1, c2, c3⟩, ⟨f0, f1, f2, f3⟩, ⟨d0, d1, d2, d3⟩, g0, g1, g2, g3⟩ := hP.out.facts
        go_wp2
        refine ret_rp rfl rfl hP.out.out.1 rfl ⟨⟨_, _, _, _, _, _, rfl, ?_⟩, hP.out.out.2⟩
        have h := RsT.yes hdA.out hn2.out hn3.out
        rw [← hex.out, ← hbe.out, hNg.out] at h
        rw [hH.out, hx.out] at h
        exact h
     ·have hc' := hid hc
      clear hc
      have hB := hid (show decide (lk s (p + 1) = 101 ∨ lk s (p + 1) = 69) = false by simpa using hc'.out)
      go_wp2_with fail
      refine Calls.mono (isD_calls s (p + 1) _ (by omega) 101 69 (by decide) (by decide) false hB _) ?_
      rintro e' w_51 ⟨rfl, hw⟩
      rw [← hw] at hP
      clear hw
      try clear c0 c1 c2 c3 f0 f1 f2 f3 d0 d1 d2 d3 g0 g1 g2 g3
      clear hB
      have hX := hid (show scX s p = false by rw [scX, hC.out]; simpa using hc'.out)
      clear hc'
      have hn3 := hid (show ¬ (scX s p = true ∧ dgB (lk s (scF s p)) = false) from fun h => by rw [hX.out] at h; exact Bool.noConfusion h.1)
      have hH := hid (show scH s p = p + 1 by rw [scH, if_neg (by rw [hX.out]; decide), hC.out])
      have hx := hid (show scEx s p = ⟨#[]⟩ by rw [scEx, if_neg (by rw [hX.out]; decide)])
      obtain ⟨⟨c0, c1, c2, c3⟩, ⟨f0, f1, f2, f3⟩, ⟨d0, d1, d2, d3⟩, g0, g1, g2, g3⟩ := hP.out.facts
      go_wp2
      refine ret_rp rfl rfl hP.out.out.1 rfl ⟨⟨_, _, _, _, _, _, rfl, ?_⟩, hP.out.out.2⟩
      have h := RsT.yes hdA.out hn2.out hn3.out
      rw [← hex.out, ← hbe.out, hNg.out] at h
      rw [hH.out, hx.out] at h
      exact h
   ·have g48 : ((y : Int) == 48) = false := beq_eq_false_iff_ne.2 (by omega)
    have hB := hid (show scB s p = E by rw [scB, hA.out, hly.out, if_neg h48, hE.out])
    clear h48
    obtain ⟨⟨c0, c1, c2, c3⟩, ⟨f0, f1, f2, f3⟩, ⟨d0, d1, d2, d3⟩, g0, g1, g2, g3⟩ := hP.out.facts
    have hex := hid (show s.extract (p) (E) = s.extract (scA s p) (scB s p) by rw [hA.out, hB.out])
    replace hP := hid (hP.out.set1 (s.extract (p) (E)))
    have hBl : E ≤ s.size := by omega
    by_cases hc : lk s (E) = 46
    ·have hc' := hid hc
     clear hc
     have hB := hid (show decide (lk s (E) = 46 ∨ lk s (E) = 46) = true by simpa using hc'.out)
     go_wp2_with fail
     refine Calls.mono (isD_calls s (E) _ (by omega) 46 46 (by decide) (by decide) true hB _) ?_
     rintro e' w_52 ⟨rfl, hw⟩
     rw [← hw] at hP
     clear hw
     try clear c0 c1 c2 c3 f0 f1 f2 f3 d0 d1 d2 d3 g0 g1 g2 g3
     clear hB
     have hpt := hid (show lk s (scB s p) = 46 by rw [hB.out]; exact hc'.out)
     have hBl2 := lk_in (s := s) (i := E) (by rw [hc'.out]; decide)
     clear hc'
     obtain ⟨E2, hE2⟩ : ∃ QQ, Hid (rn s (E + 1) = QQ) := ⟨_, rfl⟩
     have hE2l : E2 ≤ s.size := by rw [← hE2.out]; exact rn_le s _ (by omega)
     have hE2g : E + 1 ≤ E2 := by rw [← hE2.out]; exact rn_ge s _
     have hC := hid (show scC s p = E2 by rw [scC, if_pos hpt.out, hB.out, hE2.out])
     go_wp2_with fail
     refine Calls.mono (digits_calls s hs (E + 1) _ (by omega) (by omega) E2 hE2 _) ?_
     rintro e' w_53 ⟨rfl, hw⟩
     rw [← hw] at hP
     clear hw
     try clear c0 c1 c2 c3 f0 f1 f2 f3 d0 d1 d2 d3 g0 g1 g2 g3
     by_cases hq : E2 = E + 1
     ·have e2 : (((E2 : Nat) : Int) == ((E + 1 : Nat) : Int)) = true := by simp [hq]
      try simp only [Int.natCast_add, Int.natCast_one] at e2
      have hnd := hid (show dgB (lk s (scB s p + 1)) = false by have h1 := rn_end s (E + 1); rw [hE2.out, hq] at h1; rw [hB.out]; exact h1)
      have hq' := hid hq
      clear hq
      obtain ⟨⟨c0, c1, c2, c3⟩, ⟨f0, f1, f2, f3⟩, ⟨d0, d1, d2, d3⟩, g0, g1, g2, g3⟩ := hP.out.facts
      go_wp2
      refine ret_rp rfl rfl hP.out.out.1 rfl ⟨⟨_, _, _, _, _, _, rfl, ?_⟩, hP.out.out.2⟩
      refine RsT.no ?_
      rw [scanS, if_neg (by rw [hdA.out]; decide), if_pos ⟨hpt.out, hnd.out⟩, hB.out, hq'.out]
     ·have e2 : (((E2 : Nat) : Int) == ((E + 1 : Nat) : Int)) = false := beq_eq_false_iff_ne.2 (by omega)
      try simp only [Int.natCast_add, Int.natCast_one] at e2
      have hdg := hid (show dgB (lk s (scB s p + 1)) = true by rw [hB.out]; exact rn_dig s (E + 1) (E + 1) (Nat.le_refl _) (by rw [hE2.out]; omega))
      obtain ⟨⟨c0, c1, c2, c3⟩, ⟨f0, f1, f2, f3⟩, ⟨d0, d1, d2, d3⟩, g0, g1, g2, g3⟩ := hP.out.facts
      have hn2 := hid (show ¬ (lk s (scB s p) = 46 ∧ dgB (lk s (scB s p + 1)) = false) from fun h => by rw [hdg.out] at h; exact Bool.noConfusion h.2)
      have hbe := hid (show s.extract (E + 1) E2 = scBe s p by rw [scBe, if_pos hpt.out, hB.out, hC.out])
      replace hP := hid (hP.out.set2 (s.extract (E + 1) E2))
      clear hq
      by_cases hc : lk s (E2) = 101 ∨ lk s (E2) = 69
      ·have hc' := hid hc
       clear hc
       have hB := hid (show decide (lk s (E2) = 101 ∨ lk s (E2) = 69) = true by simpa using hc'.out)
       go_wp2_with fail
       refine Calls.mono (isD_calls s (E2) _ (by omega) 101 69 (by decide) (by decide) true hB _) ?_
       rintro e' w_54 ⟨rfl, hw⟩
       rw [← hw] at hP
       clear hw
       try clear c0 c1 c2 c3 f0 f1 f2 f3 d0 d1 d2 d3 g0 g1 g2 g3
       clear hB
       have hX := hid (show scX s p = true by rw [scX, hC.out]; simpa using hc'.out)
       have hCl := lk_in (s := s) (i := E2) (by have := hc'.out; omega)
       clear hc'
       by_cases hc : lk s (E2 + 1) = 43 ∨ lk s (E2 + 1) = 45
       ·have hc' := hid hc
        clear hc
        have hB := hid (show decide (lk s (E2 + 1) = 43 ∨ lk s (E2 + 1) = 45) = true by simpa using hc'.out)
        go_wp2_with fail
        refine Calls.mono (isD_calls s (E2 + 1) _ (by omega) 43 45 (by decide) (by decide) true hB _) ?_
        rintro e' w_55 ⟨rfl, hw⟩
        rw [← hw] at hP
        clear hw
        try clear c0 c1 c2 c3 f0 f1 f2 f3 d0 d1 d2 d3 g0 g1 g2 g3
        clear hB
        have hF := hid (show scF s p = E2 + 2 by rw [scF, hC.out, if_pos hc'.out])
        have hFl : E2 + 2 ≤ s.size := by rw [← hF.out]; exact scF_le s p hX.out
        obtain ⟨E3, hE3⟩ : ∃ QQ, Hid (rn s (E2 + 2) = QQ) := ⟨_, rfl⟩
        have hE3l : E3 ≤ s.size := by rw [← hE3.out]; exact rn_le s _ hFl
        have hE3g : E2 + 2 ≤ E3 := by rw [← hE3.out]; exact rn_ge s _
        have hH := hid (show scH s p = E3 by rw [scH, if_pos hX.out, hF.out, hE3.out])
        go_wp2_with fail
        refine Calls.mono (digits_calls s hs (E2 + 2) _ (by omega) hFl E3 hE3 _) ?_
        rintro e' w_56 ⟨rfl, hw⟩
        rw [← hw] at hP
        clear hw
        try clear c0 c1 c2 c3 f0 f1 f2 f3 d0 d1 d2 d3 g0 g1 g2 g3
        by_cases hq : E3 = E2 + 2
        ·have e3 : (((E3 : Nat) : Int) == ((E2 : Nat) : Int) + 1 + 1) = true := by simp; omega
         try simp only [Int.natCast_add, Int.natCast_one] at e3
         have hnd := hid (show dgB (lk s (scF s p)) = false by have h1 := rn_end s (E2 + 2); rw [hE3.out, hq] at h1; rw [hF.out]; exact h1)
         have hq' := hid hq
         clear hq
         obtain ⟨⟨c0, c1, c2, c3⟩, ⟨f0, f1, f2, f3⟩, ⟨d0, d1, d2, d3⟩, g0, g1, g2, g3⟩ := hP.out.facts
         go_wp2
         refine ret_rp rfl rfl hP.out.out.1 rfl ⟨⟨_, _, _, _, _, _, rfl, ?_⟩, hP.out.out.2⟩
         refine RsT.no ?_
         rw [scanS, if_neg (by rw [hdA.out]; decide), if_neg hn2.out, if_pos ⟨hX.out, hnd.out⟩, hF.out, hq'.out]
        ·have e3 : (((E3 : Nat) : Int) == ((E2 : Nat) : Int) + 1 + 1) = false := beq_eq_false_iff_ne.2 (by omega)
         try simp only [Int.natCast_add, Int.natCast_one] at e3
         have hdg3 := hid (show dgB (lk s (scF s p)) = true by rw [hF.out]; exact rn_dig s (E2 + 2) (E2 + 2) (Nat.le_refl _) (by rw [hE3.out]; omega))
         have hn3 := hid (show ¬ (scX s p = true ∧ dgB (lk s (scF s p)) = false) from fun h => by rw [hdg3.out] at h; exact Bool.noConfusion h.2)
         obtain ⟨⟨c0, c1, c2, c3⟩, ⟨f0, f1, f2, f3⟩, ⟨d0, d1, d2, d3⟩, g0, g1, g2, g3⟩ := hP.out.facts
         have hx := hid (show scEx s p = s.extract (E2 + 1) E3 by rw [scEx, if_pos hX.out, hC.out, hH.out])
         replace hP := hid (hP.out.set3 (s.extract (E2 + 1) E3))
         clear hq
         go_upto_region 28 with fail
         generalize World.setCell _ ⟨w.heap.size + 1, 3, none⟩ _ = wz at hP ⊢
         clear c0 c1 c2 c3 f0 f1 f2 f3 d0 d1 d2 d3 g0 g1 g2 g3
         obtain ⟨⟨c0, c1, c2, c3⟩, ⟨f0, f1, f2, f3⟩, ⟨d0, d1, d2, d3⟩, g0, g1, g2, g3⟩ := hP.out.facts
         go_wp2
         refine ret_rp rfl rfl hP.out.out.1 rfl ⟨⟨_, _, _, _, _, _, rfl, ?_⟩, hP.out.out.2⟩
         have h := RsT.yes hdA.out hn2.out hn3.out
         rw [← hex.out, ← hbe.out, hNg.out] at h
         rw [hH.out, hx.out] at h
         exact h
       ·have hc' := hid hc
        clear hc
        have hB := hid (show decide (lk s (E2 + 1) = 43 ∨ lk s (E2 + 1) = 45) = false by simpa using hc'.out)
        go_wp2_with fail
        refine Calls.mono (isD_calls s (E2 + 1) _ (by omega) 43 45 (by decide) (by decide) false hB _) ?_
        rintro e' w_57 ⟨rfl, hw⟩
        rw [← hw] at hP
        clear hw
        try clear c0 c1 c2 c3 f0 f1 f2 f3 d0 d1 d2 d3 g0 g1 g2 g3
        clear hB
        have hF := hid (show scF s p = E2 + 1 by rw [scF, hC.out, if_neg hc'.out])
        have hFl : E2 + 1 ≤ s.size := by rw [← hF.out]; exact scF_le s p hX.out
        obtain ⟨E3, hE3⟩ : ∃ QQ, Hid (rn s (E2 + 1) = QQ) := ⟨_, rfl⟩
        have hE3l : E3 ≤ s.size := by rw [← hE3.out]; exact rn_le s _ hFl
        have hE3g : E2 + 1 ≤ E3 := by rw [← hE3.out]; exact rn_ge s _
        have hH := hid (show scH s p = E3 by rw [scH, if_pos hX.out, hF.out, hE3.out])
        go_wp2_with fail
        refine Calls.mono (digits_calls s hs (E2 + 1) _ (by omega) hFl E3 hE3 _) ?_
        rintro e' w_58 ⟨rfl, hw⟩
        rw [← hw] at hP
        clear hw
        try clear c0 c1 c2 c3 f0 f1 f2 f3 d0 d1 d2 d3 g0 g1 g2 g3
        by_cases hq : E3 = E2 + 1
        ·have e3 : (((E3 : Nat) : Int) == ((E2 : Nat) : Int) + 1) = true := by simp; omega
         try simp only [Int.natCast_add, Int.natCast_one] at e3
         have hnd := hid (show dgB (lk s (scF s p)) = false by have h1 := rn_end s (E2 + 1); rw [hE3.out, hq] at h1; rw [hF.out]; exact h1)
         have hq' := hid hq
         clear hq
         obtain ⟨⟨c0, c1, c2, c3⟩, ⟨f0, f1, f2, f3⟩, ⟨d0, d1, d2, d3⟩, g0, g1, g2, g3⟩ := hP.out.facts
         go_wp2
         refine ret_rp rfl rfl hP.out.out.1 rfl ⟨⟨_, _, _, _, _, _, rfl, ?_⟩, hP.out.out.2⟩
         refine RsT.no ?_
         rw [scanS, if_neg (by rw [hdA.out]; decide), if_neg hn2.out, if_pos ⟨hX.out, hnd.out⟩, hF.out, hq'.out]
        ·have e3 : (((E3 : Nat) : Int) == ((E2 : Nat) : Int) + 1) = false := beq_eq_false_iff_ne.2 (by omega)
         try simp only [Int.natCast_add, Int.natCast_one] at e3
         have hdg3 := hid (show dgB (lk s (scF s p)) = true by rw [hF.out]; exact rn_dig s (E2 + 1) (E2 + 1) (Nat.le_refl _) (by rw [hE3.out]; omega))
         have hn3 := hid (show ¬ (scX s p = true ∧ dgB (lk s (scF s p)) = false) from fun h => by rw [hdg3.out] at h; exact Bool.noConfusion h.2)
         obtain ⟨⟨c0, c1, c2, c3⟩, ⟨f0, f1, f2, f3⟩, ⟨d0, d1, d2, d3⟩, g0, g1, g2, g3⟩ := hP.out.facts
         have hx := hid (show scEx s p = s.extract (E2 + 1) E3 by rw [scEx, if_pos hX.out, hC.out, hH.out])
         replace hP := hid (hP.out.set3 (s.extract (E2 + 1) E3))
         clear hq
         go_upto_region 28 with fail
         generalize World.setCell _ ⟨w.heap.size + 1, 3, none⟩ _ = wz at hP ⊢
         clear c0 c1 c2 c3 f0 f1 f2 f3 d0 d1 d2 d3 g0 g1 g2 g3
         obtain ⟨⟨c0, c1, c2, c3⟩, ⟨f0, f1, f2, f3⟩, ⟨d0, d1, d2, d3⟩, g0, g1, g2, g3⟩ := hP.out.facts
         go_wp2
         refine ret_rp rfl rfl hP.out.out.1 rfl ⟨⟨_, _, _, _, _, _, rfl, ?_⟩, hP.out.out.2⟩
         have h := RsT.yes hdA.out hn2.out hn3.out
         rw [← hex.out, ← hbe.out, hNg.out] at h
         rw [hH.out, hx.out] at h
         exact h
      ·have hc' := hid hc
       clear hc
       have hB := hid (show decide (lk s (E2) = 101 ∨ lk s (E2) = 69) = false by simpa using hc'.out)
       go_wp2_with fail
       refine Calls.mono (isD_calls s (E2) _ (by omega) 101 69 (by decide) (by decide) false hB _) ?_
       rintro e' w_59 ⟨rfl, hw⟩
       rw [← hw] at hP
       clear hw
       try clear c0 c1 c2 c3 f0 f1 f2 f3 d0 d1 d2 d3 g0 g1 g2 g3
       clear hB
       have hX := hid (show scX s p = false by rw [scX, hC.out]; simpa using hc'.out)
       clear hc'
       have hn3 := hid (show ¬ (scX s p = true ∧ dgB (lk s (scF s p)) = false) from fun h => by rw [hX.out] at h; exact Bool.noConfusion h.1)
       have hH := hid (show scH s p = E2 by rw [scH, if_neg (by rw [hX.out]; decide), hC.out])
       have hx := hid (show scEx s p = ⟨#[]⟩ by rw [scEx, if_neg (by rw [hX.out]; decide)])
       obtain ⟨⟨c0, c1, c2, c3⟩, ⟨f0, f1, f2, f3⟩, ⟨d0, d1, d2, d3⟩, g0, g1, g2, g3⟩ := hP.out.facts
       go_wp2
       refine ret_rp rfl rfl hP.out.out.1 rfl ⟨⟨_, _, _, _, _, _, rfl, ?_⟩, hP.out.out.2⟩
       have h := RsT.yes hdA.out hn2.out hn3.out
       rw [← hex.out, ← hbe.out, hNg.out] at h
       rw [hH.out, hx.out] at h
       exact h
    ·have hc' := hid hc
     clear hc
     have hB := hid (show decide (lk s (E) = 46 ∨ lk s (E) = 46) = false by simpa using hc'.out)
     go_wp2_with fail
     refine Calls.mono (isD_calls s (E) _ (by omega) 46 46 (by decide) (by decide) false hB _) ?_
     rintro e' w_60 ⟨rfl, hw⟩
     rw [← hw] at hP
     clear hw
     try clear c0 c1 c2 c3 f0 f1 f2 f3 d0 d1 d2 d3 g0 g1 g2 g3
     clear hB
     have hnp := hid (show ¬ lk s (scB s p) = 46 by rw [hB.out]; exact hc'.out)
     clear hc'
     have hC := hid (show scC s p = E by rw [scC, if_neg hnp.out, hB.out])
     have hn2 := hid (show ¬ (lk s (scB s p) = 46 ∧ dgB (lk s (scB s p + 1)) = false) from fun h => hnp.out h.1)
     have hbe := hid (show (⟨#[]⟩ : ByteArray) = scBe s p by rw [scBe, if_neg hnp.out])
     by_cases hc : lk s (E) = 101 ∨ lk s (E) = 69
     ·have hc' := hid hc
      clear hc
      have hB := hid (show decide (lk s (E) = 101 ∨ lk s (E) = 69) = true by simpa using hc'.out)
      go_wp2_with fail
      refine Calls.mono (isD_calls s (E) _ (by omega) 101 69 (by decide) (by decide) true hB _) ?_
      rintro e' w_61 ⟨rfl, hw⟩
      rw [← hw] at hP
      clear hw
      try clear c0 c1 c2 c3 f0 f1 f2 f3 d0 d1 d2 d3 g0 g1 g2 g3
      clear hB
      have hX := hid (show scX s p = true by rw [scX, hC.out]; simpa using hc'.out)
      have hCl := lk_in (s := s) (i := E) (by have := hc'.out; omega)
      clear hc'
      by_cases hc : lk s (E + 1) = 43 ∨ lk s (E + 1) = 45
      ·have hc' := hid hc
       clear hc
       have hB := hid (show decide (lk s (E + 1) = 43 ∨ lk s (E + 1) = 45) = true by simpa using hc'.out)
       go_wp2_with fail
       refine Calls.mono (isD_calls s (E + 1) _ (by omega) 43 45 (by decide) (by decide) true hB _) ?_
       rintro e' w_62 ⟨rfl, hw⟩
       rw [← hw] at hP
       clear hw
       try clear c0 c1 c2 c3 f0 f1 f2 f3 d0 d1 d2 d3 g0 g1 g2 g3
       clear hB
       have hF := hid (show scF s p = E + 2 by rw [scF, hC.out, if_pos hc'.out])
       have hFl : E + 2 ≤ s.size := by rw [← hF.out]; exact scF_le s p hX.out
       obtain ⟨E3, hE3⟩ : ∃ QQ, Hid (rn s (E + 2) = QQ) := ⟨_, rfl⟩
       have hE3l : E3 ≤ s.size := by rw [← hE3.out]; exact rn_le s _ hFl
       have hE3g : E + 2 ≤ E3 := by rw [← hE3.out]; exact rn_ge s _
       have hH := hid (show scH s p = E3 by rw [scH, if_pos hX.out, hF.out, hE3.out])
       go_wp2_with fail
       refine Calls.mono (digits_calls s hs (E + 2) _ (by omega) hFl E3 hE3 _) ?_
       rintro e' w_63 ⟨rfl, hw⟩
       rw [← hw] at hP
       clear hw
       try clear c0 c1 c2 c3 f0 f1 f2 f3 d0 d1 d2 d3 g0 g1 g2 g3
       by_cases hq : E3 = E + 2
       ·have e3 : (((E3 : Nat) : Int) == ((E : Nat) : Int) + 1 + 1) = true := by simp; omega
        try simp only [Int.natCast_add, Int.natCast_one] at e3
        have hnd := hid (show dgB (lk s (scF s p)) = false by have h1 := rn_end s (E + 2); rw [hE3.out, hq] at h1; rw [hF.out]; exact h1)
        have hq' := hid hq
        clear hq
        obtain ⟨⟨c0, c1, c2, c3⟩, ⟨f0, f1, f2, f3⟩, ⟨d0, d1, d2, d3⟩, g0, g1, g2, g3⟩ := hP.out.facts
        go_wp2
        refine ret_rp rfl rfl hP.out.out.1 rfl ⟨⟨_, _, _, _, _, _, rfl, ?_⟩, hP.out.out.2⟩
        refine RsT.no ?_
        rw [scanS, if_neg (by rw [hdA.out]; decide), if_neg hn2.out, if_pos ⟨hX.out, hnd.out⟩, hF.out, hq'.out]
       ·have e3 : (((E3 : Nat) : Int) == ((E : Nat) : Int) + 1 + 1) = false := beq_eq_false_iff_ne.2 (by omega)
        try simp only [Int.natCast_add, Int.natCast_one] at e3
        have hdg3 := hid (show dgB (lk s (scF s p)) = true by rw [hF.out]; exact rn_dig s (E + 2) (E + 2) (Nat.le_refl _) (by rw [hE3.out]; omega))
        have hn3 := hid (show ¬ (scX s p = true ∧ dgB (lk s (scF s p)) = false) from fun h => by rw [hdg3.out] at h; exact Bool.noConfusion h.2)
        obtain ⟨⟨c0, c1, c2, c3⟩, ⟨f0, f1, f2, f3⟩, ⟨d0, d1, d2, d3⟩, g0, g1, g2, g3⟩ := hP.out.facts
        have hx := hid (show scEx s p = s.extract (E + 1) E3 by rw [scEx, if_pos hX.out, hC.out, hH.out])
        replace hP := hid (hP.out.set3 (s.extract (E + 1) E3))
        clear hq
        go_upto_region 28 with fail
        generalize World.setCell _ ⟨w.heap.size + 1, 3, none⟩ _ = wz at hP ⊢
        clear c0 c1 c2 c3 f0 f1 f2 f3 d0 d1 d2 d3 g0 g1 g2 g3
        obtain ⟨⟨c0, c1, c2, c3⟩, ⟨f0, f1, f2, f3⟩, ⟨d0, d1, d2, d3⟩, g0, g1, g2, g3⟩ := hP.out.facts
        go_wp2
        refine ret_rp rfl rfl hP.out.out.1 rfl ⟨⟨_, _, _, _, _, _, rfl, ?_⟩, hP.out.out.2⟩
        have h := RsT.yes hdA.out hn2.out hn3.out
        rw [← hex.out, ← hbe.out, hNg.out] at h
        rw [hH.out, hx.out] at h
        exact h
      ·have hc' := hid hc
       clear hc
       have hB := hid (show decide (lk s (E + 1) = 43 ∨ lk s (E + 1) = 45) = false by simpa using hc'.out)
       go_wp2_with fail
       refine Calls.mono (isD_calls s (E + 1) _ (by omega) 43 45 (by decide) (by decide) false hB _) ?_
       rintro e' w_64 ⟨rfl, hw⟩
       rw [← hw] at hP
       clear hw
       try clear c0 c1 c2 c3 f0 f1 f2 f3 d0 d1 d2 d3 g0 g1 g2 g3
       clear hB
       have hF := hid (show scF s p = E + 1 by rw [scF, hC.out, if_neg hc'.out])
       have hFl : E + 1 ≤ s.size := by rw [← hF.out]; exact scF_le s p hX.out
       obtain ⟨E3, hE3⟩ : ∃ QQ, Hid (rn s (E + 1) = QQ) := ⟨_, rfl⟩
       have hE3l : E3 ≤ s.size := by rw [← hE3.out]; exact rn_le s _ hFl
       have hE3g : E + 1 ≤ E3 := by rw [← hE3.out]; exact rn_ge s _
       have hH := hid (show scH s p = E3 by rw [scH, if_pos hX.out, hF.out, hE3.out])
       go_wp2_with fail
       refine Calls.mono (digits_calls s hs (E + 1) _ (by omega) hFl E3 hE3 _) ?_
       rintro e' w_65 ⟨rfl, hw⟩
       rw [← hw] at hP
       clear hw
       try clear c0 c1 c2 c3 f0 f1 f2 f3 d0 d1 d2 d3 g0 g1 g2 g3
       by_cases hq : E3 = E + 1
       ·have e3 : (((E3 : Nat) : Int) == ((E : Nat) : Int) + 1) = true := by simp; omega
        try simp only [Int.natCast_add, Int.natCast_one] at e3
        have hnd := hid (show dgB (lk s (scF s p)) = false by have h1 := rn_end s (E + 1); rw [hE3.out, hq] at h1; rw [hF.out]; exact h1)
        have hq' := hid hq
        clear hq
        obtain ⟨⟨c0, c1, c2, c3⟩, ⟨f0, f1, f2, f3⟩, ⟨d0, d1, d2, d3⟩, g0, g1, g2, g3⟩ := hP.out.facts
        go_wp2
        refine ret_rp rfl rfl hP.out.out.1 rfl ⟨⟨_, _, _, _, _, _, rfl, ?_⟩, hP.out.out.2⟩
        refine RsT.no ?_
        rw [scanS, if_neg (by rw [hdA.out]; decide), if_neg hn2.out, if_pos ⟨hX.out, hnd.out⟩, hF.out, hq'.out]
       ·have e3 : (((E3 : Nat) : Int) == ((E : Nat) : Int) + 1) = false := beq_eq_false_iff_ne.2 (by omega)
        try simp only [Int.natCast_add, Int.natCast_one] at e3
        have hdg3 := hid (show dgB (lk s (scF s p)) = true by rw [hF.out]; exact rn_dig s (E + 1) (E + 1) (Nat.le_refl _) (by rw [hE3.out]; omega))
        have hn3 := hid (show ¬ (scX s p = true ∧ dgB (lk s (scF s p)) = false) from fun h => by rw [hdg3.out] at h; exact Bool.noConfusion h.2)
        obtain ⟨⟨c0, c1, c2, c3⟩, ⟨f0, f1, f2, f3⟩, ⟨d0, d1, d2, d3⟩, g0, g1, g2, g3⟩ := hP.out.facts
        have hx := hid (show scEx s p = s.extract (E + 1) E3 by rw [scEx, if_pos hX.out, hC.out, hH.out])
        replace hP := hid (hP.out.set3 (s.extract (E + 1) E3))
        clear hq
        go_upto_region 28 with fail
        generalize World.setCell _ ⟨w.heap.size + 1, 3, none⟩ _ = wz at hP ⊢
        clear c0 c1 c2 c3 f0 f1 f2 f3 d0 d1 d2 d3 g0 g1 g2 g3
        obtain ⟨⟨c0, c1, c2, c3⟩, ⟨f0, f1, f2, f3⟩, ⟨d0, d1, d2, d3⟩, g0, g1, g2, g3⟩ := hP.out.facts
        go_wp2
        refine ret_rp rfl rfl hP.out.out.1 rfl ⟨⟨_, _, _, _, _, _, rfl, ?_⟩, hP.out.out.2⟩
        have h := RsT.yes hdA.out hn2.out hn3.out
        rw [← hex.out, ← hbe.out, hNg.out] at h
        rw [hH.out, hx.out] at h
        exact h
     ·have hc' := hid hc
      clear hc
      have hB := hid (show decide (lk s (E) = 101 ∨ lk s (E) = 69) = false by simpa using hc'.out)
      go_wp2_with fail
      refine Calls.mono (isD_calls s (E) _ (by omega) 101 69 (by decide) (by decide) false hB _) ?_
      rintro e' w_66 ⟨rfl, hw⟩
      rw [← hw] at hP
      clear hw
      try clear c0 c1 c2 c3 f0 f1 f2 f3 d0 d1 d2 d3 g0 g1 g2 g3
      clear hB
      have hX := hid (show scX s p = false by rw [scX, hC.out]; simpa using hc'.out)
      clear hc'
      have hn3 := hid (show ¬ (scX s p = true ∧ dgB (lk s (scF s p)) = false) from fun h => by rw [hX.out] at h; exact Bool.noConfusion h.1)
      have hH := hid (show scH s p = E by rw [scH, if_neg (by rw [hX.out]; decide), hC.out])
      have hx := hid (show scEx s p = ⟨#[]⟩ by rw [scEx, if_neg (by rw [hX.out]; decide)])
      obtain ⟨⟨c0, c1, c2, c3⟩, ⟨f0, f1, f2, f3⟩, ⟨d0, d1, d2, d3⟩, g0, g1, g2, g3⟩ := hP.out.facts
      go_wp2
      refine ret_rp rfl rfl hP.out.out.1 rfl ⟨⟨_, _, _, _, _, _, rfl, ?_⟩, hP.out.out.2⟩
      have h := RsT.yes hdA.out hn2.out hn3.out
      rw [← hex.out, ← hbe.out, hNg.out] at h
      rw [hH.out, hx.out] at h
      exact h
end Go.Proofs.YtlmjiocdhobopaaGreatDoor
