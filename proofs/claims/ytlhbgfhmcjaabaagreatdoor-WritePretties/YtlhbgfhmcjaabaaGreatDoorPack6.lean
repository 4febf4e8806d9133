/-
  Texts of mine that others lean on, one behind the other.
-/
import Derived.Test.YtlhbgfhmcjaabaaGreatDoorPack3
import Derived.Test.YtlhbgfhmcjaabaaGreatDoorPack2
import Derived.Test.YtlhbgfhmcjaabaaGreatDoorPack4
import Derived.Test.YtlhbgfhmcjaabaaGreatDoorPack5
/-
 What the reference's scan answers.
-/
namespace Go.Proofs.YtlhbgfhmcjaabaaGreatDoor
open Go.RowKit Go.Shelf
theorem sizeRp : (Tryz.prog.info? 141).map (·.size) = some 4 := by kernel_rfl
theorem load_rp {w : World} {b : Nat} {x0 x1 x2 x3 : Value} (h : At w b #[x0, x1, x2, x3] 141) : (loadVar 141 ⟨b, 0, none⟩).run Tryz.prog w = .ok (.agg #[x0, x1, x2, x3]) w :=
 run_loadVar_row (P := Tryz.prog) w b 141 141 #[x0, x1, x2, x3] (0, 0) _ h Tryz.underlying141 rfl sizeRp
theorem ret_rp {fn : Func} {p u v : Tmp} {R : Ending → World → Prop} {a : Act} {w : World} {b : Nat} {x0 x1 x2 x3 : Value} (hres : fn.results = #[.cell p 141, .tmp u, .tmp v]) (hp : a.tmps.getD p undef = .pointer (some ⟨b, 0, none⟩))
  (h : At w b #[x0, x1, x2, x3] 141) (hd : a.defers = []) (hR : R (.returned (.tuple #[.agg #[x0, x1, x2, x3], a.tmps.getD u undef, a.tmps.getD v undef])) w) : bodyPost Tryz.prog fn R .ret a w := by
 refine bodyPost_ret (v := .tuple #[.agg #[x0, x1, x2, x3], a.tmps.getD u undef, a.tmps.getD v undef]) ?_ hd hR
 rw [results_ctt hres, hp]
 simp [asAddr, load_rp h]
/-- The parts in the making, and the answer's own place ahead of them. -/
def Rp (w0 : World) (n : Bool) (t1 t2 t3 : ByteArray) (w : World) : Prop := At w w0.heap.size #[.bool false, .string ⟨#[]⟩, .string ⟨#[]⟩, .string ⟨#[]⟩] 141 ∧ At w (w0.heap.size + 1) #[.bool n, .string t1, .string t2, .string t3] 141 ∧ Below w0.heap.size w0 w
section
variable {w0 : World} {n : Bool} {t1 t2 t3 : ByteArray} {w : World}
theorem Rp.new : Rp w0 false ⟨#[]⟩ ⟨#[]⟩ ⟨#[]⟩ ((w0.alloc (.cells #[.bool false, .string ⟨#[]⟩, .string ⟨#[]⟩, .string ⟨#[]⟩] 141)).alloc (.cells #[.bool false, .string ⟨#[]⟩, .string ⟨#[]⟩, .string ⟨#[]⟩] 141)) := by
 refine ⟨(At.new w0 _ _).alloc _, ?_, by repeat (first | with_reducible exact Below.refl _ _ | with_reducible refine Below.setCell ?_ (by first | (simp; done) | (simp; omega)) _ | with_reducible refine below_drewN ?_ _ | with_reducible refine Below.alloc ?_ (by first | (simp; done) | (simp; omega)) _ | with_reducible refine Below.drew ?_)⟩
 have := At.new (w0.alloc (.cells #[.bool false, .string ⟨#[]⟩, .string ⟨#[]⟩, .string ⟨#[]⟩] 141)) #[.bool false, .string ⟨#[]⟩, .string ⟨#[]⟩, .string ⟨#[]⟩] 141
 simpa using this
theorem Rp.facts (h : Rp w0 n t1 t2 t3 w) : (w.cell? ⟨w0.heap.size + 1, 0, none⟩ = some (.bool n) ∧ w.cell? ⟨w0.heap.size + 1, 1, none⟩ = some (.string t1) ∧ w.cell? ⟨w0.heap.size + 1, 2, none⟩ = some (.string t2) ∧ w.cell? ⟨w0.heap.size + 1, 3, none⟩ = some (.string t3)) ∧
  (w.frozen? ⟨w0.heap.size + 1, 0, none⟩ = false ∧ w.frozen? ⟨w0.heap.size + 1, 1, none⟩ = false ∧ w.frozen? ⟨w0.heap.size + 1, 2, none⟩ = false ∧ w.frozen? ⟨w0.heap.size + 1, 3, none⟩ = false) ∧
  (w.cell? ⟨w0.heap.size, 0, none⟩ = some (.bool false) ∧ w.cell? ⟨w0.heap.size, 1, none⟩ = some (.string ⟨#[]⟩) ∧ w.cell? ⟨w0.heap.size, 2, none⟩ = some (.string ⟨#[]⟩) ∧ w.cell? ⟨w0.heap.size, 3, none⟩ = some (.string ⟨#[]⟩)) ∧
  (w.frozen? ⟨w0.heap.size, 0, none⟩ = false ∧ w.frozen? ⟨w0.heap.size, 1, none⟩ = false ∧ w.frozen? ⟨w0.heap.size, 2, none⟩ = false ∧ w.frozen? ⟨w0.heap.size, 3, none⟩ = false) :=
 ⟨⟨h.2.1.cell 0, h.2.1.cell 1, h.2.1.cell 2, h.2.1.cell 3⟩, ⟨h.2.1.frozen 0, h.2.1.frozen 1, h.2.1.frozen 2, h.2.1.frozen 3⟩, ⟨h.1.cell 0, h.1.cell 1, h.1.cell 2, h.1.cell 3⟩, h.1.frozen 0, h.1.frozen 1, h.1.frozen 2, h.1.frozen 3⟩
theorem Rp.set0 (h : Rp w0 n t1 t2 t3 w) (n' : Bool) : Rp w0 n' t1 t2 t3 (w.setCell ⟨w0.heap.size + 1, 0, none⟩ (.bool n')) := ⟨h.1.other (by simp) _, by have := h.2.1.set 0 (.bool n'); simpa using this, h.2.2.setCell (p := ⟨w0.heap.size + 1, 0, none⟩) (Nat.le_succ _) _⟩
theorem Rp.set1 (h : Rp w0 n t1 t2 t3 w) (t' : ByteArray) : Rp w0 n t' t2 t3 (w.setCell ⟨w0.heap.size + 1, 1, none⟩ (.string t')) := ⟨h.1.other (by simp) _, by have := h.2.1.set 1 (.string t'); simpa using this, h.2.2.setCell (p := ⟨w0.heap.size + 1, 1, none⟩) (Nat.le_succ _) _⟩
theorem Rp.set2 (h : Rp w0 n t1 t2 t3 w) (t' : ByteArray) : Rp w0 n t1 t' t3 (w.setCell ⟨w0.heap.size + 1, 2, none⟩ (.string t')) := ⟨h.1.other (by simp) _, by have := h.2.1.set 2 (.string t'); simpa using this, h.2.2.setCell (p := ⟨w0.heap.size + 1, 2, none⟩) (Nat.le_succ _) _⟩
theorem Rp.set3 (h : Rp w0 n t1 t2 t3 w) (t' : ByteArray) : Rp w0 n t1 t2 t' (w.setCell ⟨w0.heap.size + 1, 3, none⟩ (.string t')) := ⟨h.1.other (by simp) _, by have := h.2.1.set 3 (.string t'); simpa using this, h.2.2.setCell (p := ⟨w0.heap.size + 1, 3, none⟩) (Nat.le_succ _) _⟩
theorem Rp.out (h : Rp w0 n t1 t2 t3 w) : At ((((w.setCell ⟨w0.heap.size, 0, none⟩ (.bool n)).setCell ⟨w0.heap.size, 1, none⟩ (.string t1)).setCell ⟨w0.heap.size, 2, none⟩ (.string t2)).setCell ⟨w0.heap.size, 3, none⟩ (.string t3)) w0.heap.size #[.bool n, .string t1, .string t2, .string t3] 141 ∧
  Below w0.heap.size w0 ((((w.setCell ⟨w0.heap.size, 0, none⟩ (.bool n)).setCell ⟨w0.heap.size, 1, none⟩ (.string t1)).setCell ⟨w0.heap.size, 2, none⟩ (.string t2)).setCell ⟨w0.heap.size, 3, none⟩ (.string t3)) := by
 constructor
 ·have := (((h.1.set 0 (.bool n)).set 1 (.string t1)).set 2 (.string t2)).set 3 (.string t3)
  simpa using this
 ·exact (((h.2.2.setCell (p := ⟨w0.heap.size, 0, none⟩) (Nat.le_refl _) _).setCell (p := ⟨w0.heap.size, 1, none⟩) (Nat.le_refl _) _).setCell (p := ⟨w0.heap.size, 2, none⟩) (Nat.le_refl _) _).setCell (p := ⟨w0.heap.size, 3, none⟩) (Nat.le_refl _) _
end
/-- The exponent with its sign. -/
def scEx (s : ByteArray) (p : Nat) : ByteArray := if scX s p then s.extract (scC s p + 1) (scH s p) else ⟨#[]⟩
/-- What the reference's scan tells. -/
def RsT (s : ByteArray) (p : Nat) (n : Bool) (t1 t2 t3 : ByteArray) (en : Nat) (ok : Bool) : Prop :=
 en = (scanS s p).2 ∧ (ok = false → (scanS s p).1 = none) ∧ (ok = true → ∃ N, (scanS s p).1 = some N ∧ n = N.neg ∧ t1 = N.wh ∧ t2 = N.be ∧ t3 = scEx s p)
theorem RsT.no {s : ByteArray} {p : Nat} {n : Bool} {t1 t2 t3 : ByteArray} {en : Nat} (h : scanS s p = (none, en)) : RsT s p n t1 t2 t3 en false := by
 exact ⟨by rw [h], (fun _ => by rw [h]), (fun h => by cases h)⟩
theorem RsT.yes {s : ByteArray} {p : Nat} (h1 : dgB (lk s (scA s p)) = true) (h2 : ¬ (lk s (scB s p) = 46 ∧ dgB (lk s (scB s p + 1)) = false)) (h3 : ¬ (scX s p = true ∧ dgB (lk s (scF s p)) = false)) :
  RsT s p (scNeg s p) (s.extract (scA s p) (scB s p)) (scBe s p) (scEx s p) (scH s p) true := by
 have h : scanS s p = (some ⟨scNeg s p, s.extract (scA s p) (scB s p), scBe s p, scDn s p, scPw s p⟩, scH s p) := by
  rw [scanS, if_neg (by rw [h1]; decide), if_neg h2, if_neg h3]
 exact ⟨by rw [h], (fun h => by cases h), fun _ => ⟨_, by rw [h], rfl, rfl, rfl, rfl⟩⟩
set_option linter.unusedVariables false in
set_option maxRecDepth 20000 in
set_option maxHeartbeats 16000000 in
theorem refScan_calls (s : ByteArray) (p : Nat) (hs : s.size ≤ 4611686018427387904) (hp : p ≤ s.size) (w : World) :
  Calls Tryz.prog 112 #[.string s, .int .i64 (p : Int)] w fun e w' => (∃ n t1 t2 t3 en ok, e = .returned (.tuple #[.agg #[.bool n, .string t1, .string t2, .string t3], .int .i64 ((en : Nat) : Int), .bool ok]) ∧ Hid (RsT s p n t1 t2 t3 en ok)) ∧ Below w.heap.size w w' := by
 have hP := hid (Rp.new (w0 := w))
 go_enter Tryz.func112, Tryz.ntmps112
 obtain ⟨⟨c0, c1, c2, c3⟩, ⟨f0, f1, f2, f3⟩, ⟨d0, d1, d2, d3⟩, g0, g1, g2, g3⟩ := hP.out.facts
 by_cases hc : lk s (p) = 45
 ·have hc' := hid hc
  clear hc
  have hB := hid (show decide (lk s (p) = 45 ∨ lk s (p) = 45) = true by simpa using hc'.out)
  go_wp2_with fail
  refine Calls.mono (isD_calls s (p) _ (by omega) 45 45 (by decide) (by decide) true hB _) ?_
  rintro e' w_1 ⟨rfl, hw⟩
  rw [← hw] at hP
  clear hw
  try clear c0 c1 c2 c3 f0 f1 f2 f3 d0 d1 d2 d3 g0 g1 g2 g3
  clear hB
  have hN := hid hc'.out
  clear hc'
  have hA := hid (show scA s p = p + 1 by rw [scA, if_pos hN.out])
  have hNg := hid (show scNeg s p = true by rw [scNeg, hN.out]; rfl)
  have hpl := lk_in (s := s) (i := p) (by rw [hN.out]; decide)
  obtain ⟨⟨c0, c1, c2, c3⟩, ⟨f0, f1, f2, f3⟩, ⟨d0, d1, d2, d3⟩, g0, g1, g2, g3⟩ := hP.out.facts
  replace hP := hid (hP.out.set0 true)
  obtain ⟨D1, hD1⟩ : ∃ D, Hid (dgB (lk s (p + 1)) = D) := ⟨_, rfl⟩
  have hcD := hid (fun w1 => refDig_calls s (p + 1) D1 hD1 w1)
  try (rw [show (((p + 1 : Nat)) : Int) = (p : Int) + 1 from rfl] at hcD)
  go_wp2_with fail
  refine Calls.mono (hcD.out _) ?_
  rintro e' w_2 ⟨rfl, hw⟩
  rw [← hw] at hP
  clear hw hcD
  try clear c0 c1 c2 c3 f0 f1 f2 f3 d0 d1 d2 d3 g0 g1 g2 g3
  cases D1 with
  | false =>
   obtain ⟨⟨c0, c1, c2, c3⟩, ⟨f0, f1, f2, f3⟩, ⟨d0, d1, d2, d3⟩, g0, g1, g2, g3⟩ := hP.out.facts
   go_wp2
   refine ret_rp rfl rfl hP.out.out.1 rfl ⟨⟨_, _, _, _, _, _, rfl, ?_⟩, hP.out.out.2⟩
   refine RsT.no ?_
   rw [scanS, if_pos (by rw [hA.out, hD1.out]), hA.out]
  | true =>
   have hAl := dg_in hD1.out
   obtain ⟨E, hE⟩ : ∃ QQ, Hid (rn s (p + 1) = QQ) := ⟨_, rfl⟩
   have hEl : E ≤ s.size := by rw [← hE.out]; exact rn_le s _ (by omega)
   have hEg : p + 1 < E := by rw [← hE.out]; exact rn_lt s _ hD1.out
   have hdA := hid (show dgB (lk s (scA s p)) = true by rw [hA.out, hD1.out])
   go_wp2_with fail
   refine Calls.mono (digits_calls s hs (p + 1) _ (by omega) (by omega) E hE _) ?_
   rintro e' w_3 ⟨rfl, hw⟩
   rw [← hw] at hP
   clear hw
   try clear c0 c1 c2 c3 f0 f1 f2 f3 d0 d1 d2 d3 g0 g1 g2 g3
   obtain ⟨y, hy⟩ : ∃ y, (s[p + 1]'hAl).toNat = y := ⟨_, rfl⟩
   have hly := hid (show lk s (p + 1) = y by rw [lk_at s _ hAl, hy])
   have hAI : ((p + 1 : Nat) : Int) < (s.size : Int) := by omega
   try (have hAI2 : (p : Int) + 1 < (s.size : Int) := by omega)
   by_cases h48 : y = 48
   ·have g48 : ((y : Int) == 48) = true := by simp [h48]
    have hB := hid (show scB s p = p + 1 + 1 by rw [scB, hA.out, hly.out, if_pos h48])
    clear h48
    obtain ⟨⟨c0, c1, c2, c3⟩, ⟨f0, f1, f2, f3⟩, ⟨d0, d1, d2, d3⟩, g0, g1, g2, g3⟩ := hP.out.facts
    have hex := hid (show s.extract (p + 1) (p + 1 + 1) = s.extract (scA s p) (scB s p) by rw [hA.out, hB.out])
    replace hP := hid (hP.out.set1 (s.extract (p + 1) (p + 1 + 1)))
    have hBl : p + 1 + 1 ≤ s.size := by omega
    by_cases hc : lk s (p + 1 + 1) = 46
    ·have hc' := hid hc
     clear hc
     have hB := hid (show decide (lk s (p + 1 + 1) = 46 ∨ lk s (p + 1 + 1) = 46) = true by simpa using hc'.out)
     go_wp2_with fail
     refine Calls.mono (isD_calls s (p + 1 + 1) _ (by omega) 46 46 (by decide) (by decide) true hB _) ?_
     rintro e' w_4 ⟨rfl, hw⟩
     rw [← hw] at hP
     clear hw
     try clear c0 c1 c2 c3 f0 f1 f2 f3 d0 d1 d2 d3 g0 g1 g2 g3
     clear hB
     have hpt := hid (show lk s (scB s p) = 46 by rw [hB.out]; exact hc'.out)
     have hBl2 := lk_in (s := s) (i := p + 1 + 1) (by rw [hc'.out]; decide)
     clear hc'
     obtain ⟨E2, hE2⟩ : ∃ QQ, Hid (rn s (p + 1 + 1 + 1) = QQ) := ⟨_, rfl⟩
     have hE2l : E2 ≤ s.size := by rw [← hE2.out]; exact rn_le s _ (by omega)
     have hE2g : p + 1 + 1 + 1 ≤ E2 := by rw [← hE2.out]; exact rn_ge s _
     have hC := hid (show scC s p = E2 by rw [scC, if_pos hpt.out, hB.out, hE2.out])
     go_wp2_with fail
     refine Calls.mono (digits_calls s hs (p + 1 + 1 + 1) _ (by omega) (by omega) E2 hE2 _) ?_
     rintro e' w_5 ⟨rfl, hw⟩
     rw [← hw] at hP
     clear hw
     try clear c0 c1 c2 c3 f0 f1 f2 f3 d0 d1 d2 d3 g0 g1 g2 g3
     by_cases hq : E2 = p + 1 + 1 + 1
     ·have e2 : (((E2 : Nat) : Int) == ((p + 1 + 1 + 1 : Nat) : Int)) = true := by simp [hq]
      try simp only [Int.natCast_add, Int.natCast_one] at e2
      have hnd := hid (show dgB (lk s (scB s p + 1)) = false by have h1 := rn_end s (p + 1 + 1 + 1); rw [hE2.out, hq] at h1; rw [hB.out]; exact h1)
      have hq' := hid hq
      clear hq
      obtain ⟨⟨c0, c1, c2, c3⟩, ⟨f0, f1, f2, f3⟩, ⟨d0, d1, d2, d3⟩, g0, g1, g2, g3⟩ := hP.out.facts
      go_wp2
      refine ret_rp rfl rfl hP.out.out.1 rfl ⟨⟨_, _, _, _, _, _, rfl, ?_⟩, hP.out.out.2⟩
      refine RsT.no ?_
      rw [scanS, if_neg (by rw [hdA.out]; decide), if_pos ⟨hpt.out, hnd.out⟩, hB.out, hq'.out]
     ·have e2 : (((E2 : Nat) : Int) == ((p + 1 + 1 + 1 : Nat) : Int)) = false := beq_eq_false_iff_ne.2 (by omega)
      try simp only [Int.natCast_add, Int.natCast_one] at e2
      have hdg := hid (show dgB (lk s (scB s p + 1)) = true by rw [hB.out]; exact rn_dig s (p + 1 + 1 + 1) (p + 1 + 1 + 1) (Nat.le_refl _) (by rw [hE2.out]; omega))
      obtain ⟨⟨c0, c1, c2, c3⟩, ⟨f0, f1, f2, f3⟩, ⟨d0, d1, d2, d3⟩, g0, g1, g2, g3⟩ := hP.out.facts
      have hn2 := hid (show ¬ (lk s (scB s p) = 46 ∧ dgB (lk s (scB s p + 1)) = false) from fun h => by rw [hdg.out] at h; exact Bool.noConfusion h.2)
      have hbe := hid (show s.extract (p + 1 + 1 + 1) E2 = scBe s p by rw [scBe, if_pos hpt.out, hB.out, hC.out])
      replace hP := hid (hP.out.set2 (s.extract (p + 1 + 1 + 1) E2))
      clear hq
      by_cases hc : lk s (E2) = 101 ∨ lk s (E2) = 69
      ·have hc' := hid hc
       clear hc
       have hB := hid (show decide (lk s (E2) = 101 ∨ lk s (E2) = 69) = true by simpa using hc'.out)
       go_wp2_with fail
       refine Calls.mono (isD_calls s (E2) _ (by omega) 101 69 (by decide) (by decide) true hB _) ?_
       rintro e' w_6 ⟨rfl, hw⟩
       rw [← hw] at hP
       clear hw
       try clear c0 c1 c2 c3 f0 f1 f2 f3 d0 d1 d2 d3 g0 g1 g2 g3
       clear hB
       have hX := hid (show scX s p = true by rw [scX, hC.out]; simpa using hc'.out)
       have hCl := lk_in (s := s) (i := E2) (by have := hc'.out; omega)
       clear hc'
       by_cases hc : lk s (E2 + 1) = 43 ∨ lk s (E2 + 1) = 45
       ·have hc' := hid hc
        clear hc
        have hB := hid (show decide (lk s (E2 + 1) = 43 ∨ lk s (E2 + 1) = 45) = true by simpa using hc'.out)
        go_wp2_with fail
        refine Calls.mono (isD_calls s (E2 + 1) _ (by omega) 43 45 (by decide) (by decide) true hB _) ?_
        rintro e' w_7 ⟨rfl, hw⟩
        rw [← hw] at hP
        clear hw
        try clear c0 c1 c2 c3 f0 f1 f2 f3 d0 d1 d2 d3 g0 g1 g2 g3
        clear hB
        have hF := hid (show scF s p = E2 + 2 by rw [scF, hC.out, if_pos hc'.out])
        have hFl : E2 + 2 ≤ s.size := by rw [← hF.out]; exact scF_le s p hX.out
        obtain ⟨E3, hE3⟩ : ∃ QQ, Hid (rn s (E2 + 2) = QQ) := ⟨_, rfl⟩
        have hE3l : E3 ≤ s.size := by rw [← hE3.out]; exact rn_le s _ hFl
        have hE3g : E2 + 2 ≤ E3 := by rw [← hE3.out]; exact rn_ge s _
        have hH := hid (show scH s p = E3 by rw [scH, if_pos hX.out, hF.out, hE3.out])
        go_wp2_with fail
        refine Calls.mono (digits_calls s hs (E2 + 2) _ (by omega) hFl E3 hE3 _) ?_
        rintro e' w_8 ⟨rfl, hw⟩
        rw [← hw] at hP
        clear hw
        try clear c0 c1 c2 c3 f0 f1 f2 f3 d0 d1 d2 d3 g0 g1 g2 g3
        by_cases hq : E3 = E2 + 2
        ·have e3 : (((E3 : Nat) : Int) == ((E2 : Nat) : Int) + 1 + 1) = true := by simp; omega
         try simp only [Int.natCast_add, Int.natCast_one] at e3
         have hnd := hid (show dgB (lk s (scF s p)) = false by have h1 := rn_end s (E2 + 2); rw [hE3.out, hq] at h1; rw [hF.out]; exact h1)
         have hq' := hid hq
         clear hq
         obtain ⟨⟨c0, c1, c2, c3⟩, ⟨f0, f1, f2, f3⟩, ⟨d0, d1, d2, d3⟩, g0, g1, g2, g3⟩ := hP.out.facts
         go_wp2
         refine ret_rp rfl rfl hP.out.out.1 rfl ⟨⟨_, _, _, _, _, _, rfl, ?_⟩, hP.out.out.2⟩
         refine RsT.no ?_
         rw [scanS, if_neg (by rw [hdA.out]; decide), if_neg hn2.out, if_pos ⟨hX.out, hnd.out⟩, hF.out, hq'.out]
        ·have e3 : (((E3 : Nat) : Int) == ((E2 : Nat) : Int) + 1 + 1) = false := beq_eq_false_iff_ne.2 (by omega)
         try simp only [Int.natCast_add, Int.natCast_one] at e3
         have hdg3 := hid (show dgB (lk s (scF s p)) = true by rw [hF.out]; exact rn_dig s (E2 + 2) (E2 + 2) (Nat.le_refl _) (by rw [hE3.out]; omega))
         have hn3 := hid (show ¬ (scX s p = true ∧ dgB (lk s (scF s p)) = false) from fun h => by rw [hdg3.out] at h; exact Bool.noConfusion h.2)
         obtain ⟨⟨c0, c1, c2, c3⟩, ⟨f0, f1, f2, f3⟩, ⟨d0, d1, d2, d3⟩, g0, g1, g2, g3⟩ := hP.out.facts
         have hx := hid (show scEx s p = s.extract (E2 + 1) E3 by rw [scEx, if_pos hX.out, hC.out, hH.out])
         replace hP := hid (hP.out.set3 (s.extract (E2 + 1) E3))
         clear hq
         go_upto_region 28 with fail
         generalize World.setCell _ ⟨w.heap.size + 1, 3, none⟩ _ = wz at hP ⊢
         clear c0 c1 c2 c3 f0 f1 f2 f3 d0 d1 d2 d3 g0 g1 g2 g3
         obtain ⟨⟨c0, c1, c2, c3⟩, ⟨f0, f1, f2, f3⟩, ⟨d0, d1, d2, d3⟩, g0, g1, g2, g3⟩ := hP.out.facts
         go_wp2
         refine ret_rp rfl rfl hP.out.out.1 rfl ⟨⟨_, _, _, _, _, _, rfl, ?_⟩, hP.out.out.2⟩
         have h := RsT.yes hdA.out hn2.out hn3.out
         rw [← hex.out, ← hbe.out, hNg.out] at h
         rw [hH.out, hx.out] at h
         exact h
       ·have hc' := hid hc
        clear hc
        have hB := hid (show decide (lk s (E2 + 1) = 43 ∨ lk s (E2 + 1) = 45) = false by simpa using hc'.out)
        go_wp2_with fail
        refine Calls.mono (isD_calls s (E2 + 1) _ (by omega) 43 45 (by decide) (by decide) false hB _) ?_
        rintro e' w_9 ⟨rfl, hw⟩
        rw [← hw] at hP
        clear hw
        try clear c0 c1 c2 c3 f0 f1 f2 f3 d0 d1 d2 d3 g0 g1 g2 g3
        clear hB
        have hF := hid (show scF s p = E2 + 1 by rw [scF, hC.out, if_neg hc'.out])
        have hFl : E2 + 1 ≤ s.size := by rw [← hF.out]; exact scF_le s p hX.out
        obtain ⟨E3, hE3⟩ : ∃ QQ, Hid (rn s (E2 + 1) = QQ) := ⟨_, rfl⟩
        have hE3l : E3 ≤ s.size := by rw [← hE3.out]; exact rn_le s _ hFl
        have hE3g : E2 + 1 ≤ E3 := by rw [← hE3.out]; exact rn_ge s _
        have hH := hid (show scH s p = E3 by rw [scH, if_pos hX.out, hF.out, hE3.out])
        go_wp2_with fail
        refine Calls.mono (digits_calls s hs (E2 + 1) _ (by omega) hFl E3 hE3 _) ?_
        rintro e' w_10 ⟨rfl, hw⟩
        rw [← hw] at hP
        clear hw
        try clear c0 c1 c2 c3 f0 f1 f2 f3 d0 d1 d2 d3 g0 g1 g2 g3
        by_cases hq : E3 = E2 + 1
        ·have e3 : (((E3 : Nat) : Int) == ((E2 : Nat) : Int) + 1) = true := by simp; omega
         try simp only [Int.natCast_add, Int.natCast_one] at e3
         have hnd := hid (show dgB (lk s (scF s p)) = false by have h1 := rn_end s (E2 + 1); rw [hE3.out, hq] at h1; rw [hF.out]; exact h1)
         have hq' := hid hq
         clear hq
         obtain ⟨⟨c0, c1, c2, c3⟩, ⟨f0, f1, f2, f3⟩, ⟨d0, d1, d2, d3⟩, g0, g1, g2, g3⟩ := hP.out.facts
         go_wp2
         refine ret_rp rfl rfl hP.out.out.1 rfl ⟨⟨_, _, _, _, _, _, rfl, ?_⟩, hP.out.out.2⟩
         refine RsT.no ?_
         rw [scanS, if_neg (by rw [hdA.out]; decide), if_neg hn2.out, if_pos ⟨hX.out, hnd.out⟩, hF.out, hq'.out]
        ·have e3 : (((E3 : Nat) : Int) == ((E2 : Nat) : Int) + 1) = false := beq_eq_false_iff_ne.2 (by omega)
         try simp only [Int.natCast_add, Int.natCast_one] at e3
         have hdg3 := hid (show dgB (lk s (scF s p)) = true by rw [hF.out]; exact rn_dig s (E2 + 1) (E2 + 1) (Nat.le_refl _) (by rw [hE3.out]; omega))
         have hn3 := hid (show ¬ (scX s p = true ∧ dgB (lk s (scF s p)) = false) from fun h => by rw [hdg3.out] at h; exact Bool.noConfusion h.2)
         obtain ⟨⟨c0, c1, c2, c3⟩, ⟨f0, f1, f2, f3⟩, ⟨d0, d1, d2, d3⟩, g0, g1, g2, g3⟩ := hP.out.facts
         have hx := hid (show scEx s p = s.extract (E2 + 1) E3 by rw [scEx, if_pos hX.out, hC.out, hH.out])
         replace hP := hid (hP.out.set3 (s.extract (E2 + 1) E3))
         clear hq
         go_upto_region 28 with fail
         generalize World.setCell _ ⟨w.heap.size + 1, 3, none⟩ _ = wz at hP ⊢
         clear c0 c1 c2 c3 f0 f1 f2 f3 d0 d1 d2 d3 g0 g1 g2 g3
         obtain ⟨⟨c0, c1, c2, c3⟩, ⟨f0, f1, f2, f3⟩, ⟨d0, d1, d2, d3⟩, g0, g1, g2, g3⟩ := hP.out.facts
         go_wp2
         refine ret_rp rfl rfl hP.out.out.1 rfl ⟨⟨_, _, _, _, _, _, rfl, ?_⟩, hP.out.out.2⟩
         have h := RsT.yes hdA.out hn2.out hn3.out
         rw [← hex.out, ← hbe.out, hNg.out] at h
         rw [hH.out, hx.out] at h
         exact h
      ·have hc' := hid hc
       clear hc
       have hB := hid (show decide (lk s (E2) = 101 ∨ lk s (E2) = 69) = false by simpa using hc'.out)
       go_wp2_with fail
       refine Calls.mono (isD_calls s (E2) _ (by omega) 101 69 (by decide) (by decide) false hB _) ?_
       rintro e' w_11 ⟨rfl, hw⟩
       rw [← hw] at hP
       clear hw
       try clear c0 c1 c2 c3 f0 f1 f2 f3 d0 d1 d2 d3 g0 g1 g2 g3
       clear hB
       have hX := hid (show scX s p = false by rw [scX, hC.out]; simpa using hc'.out)
       clear hc'
       have hn3 := hid (show ¬ (scX s p = true ∧ dgB (lk s (scF s p)) = false) from fun h => by rw [hX.out] at h; exact Bool.noConfusion h.1)
       have hH := hid (show scH s p = E2 by rw [scH, if_neg (by rw [hX.out]; decide), hC.out])
       have hx := hid (show scEx s p = ⟨#[]⟩ by rw [scEx, if_neg (by rw [hX.out]; decide)])
       obtain ⟨⟨c0, c1, c2, c3⟩, ⟨f0, f1, f2, f3⟩, ⟨d0, d1, d2, d3⟩, g0, g1, g2, g3⟩ := hP.out.facts
       go_wp2
       refine ret_rp rfl rfl hP.out.out.1 rfl ⟨⟨_, _, _, _, _, _, rfl, ?_⟩, hP.out.out.2⟩
       have h := RsT.yes hdA.out hn2.out hn3.out
       rw [← hex.out, ← hbe.out, hNg.out] at h
       rw [hH.out, hx.out] at h
       exact h
    ·have hc' := hid hc
     clear hc
     have hB := hid (show decide (lk s (p + 1 + 1) = 46 ∨ lk s (p + 1 + 1) = 46) = false by simpa using hc'.out)
     go_wp2_with fail
     refine Calls.mono (isD_calls s (p + 1 + 1) _ (by omega) 46 46 (by decide) (by decide) false hB _) ?_
     rintro e' w_12 ⟨rfl, hw⟩
     rw [← hw] at hP
     clear hw
     try clear c0 c1 c2 c3 f0 f1 f2 f3 d0 d1 d2 d3 g0 g1 g2 g3
     clear hB
     have hnp := hid (show ¬ lk s (scB s p) = 46 by rw [hB.out]; exact hc'.out)
     clear hc'
     have hC := hid (show scC s p = p + 1 + 1 by rw [scC, if_neg hnp.out, hB.out])
     have hn2 := hid (show ¬ (lk s (scB s p) = 46 ∧ dgB (lk s (scB s p + 1)) = false) from fun h => hnp.out h.1)
     have hbe := hid (show (⟨#[]⟩ : ByteArray) = scBe s p by rw [scBe, if_neg hnp.out])
     by_cases hc : lk s (p + 1 + 1) = 101 ∨ lk s (p + 1 + 1) = 69
     ·have hc' := hid hc
      clear hc
      have hB := hid (show decide (lk s (p + 1 + 1) = 101 ∨ lk s (p + 1 + 1) = 69) = true by simpa using hc'.out)
      go_wp2_with fail
      refine Calls.mono (isD_calls s (p + 1 + 1) _ (by omega) 101 69 (by decide) (by decide) true hB _) ?_
      rintro e' w_13 ⟨rfl, hw⟩
      rw [← hw] at hP
      clear hw
      try clear c0 c1 c2 c3 f0 f1 f2 f3 d0 d1 d2 d3 g0 g1 g2 g3
      clear hB
      have hX := hid (show scX s p = true by rw [scX, hC.out]; simpa using hc'.out)
      have hCl := lk_in (s := s) (i := p + 1 + 1) (by have := hc'.out; omega)
      clear hc'
      by_cases hc : lk s (p + 1 + 1 + 1) = 43 ∨ lk s (p + 1 + 1 + 1) = 45
      ·have hc' := hid hc
       clear hc
       have hB := hid (show decide (lk s (p + 1 + 1 + 1) = 43 ∨ lk s (p + 1 + 1 + 1) = 45) = true by simpa using hc'.out)
       go_wp2_with fail
       refine Calls.mono (isD_calls s (p + 1 + 1 + 1) _ (by omega) 43 45 (by decide) (by decide) true hB _) ?_
       rintro e' w_14 ⟨rfl, hw⟩
       rw [← hw] at hP
       clear hw
       try clear c0 c1 c2 c3 f0 f1 f2 f3 d0 d1 d2 d3 g0 g1 g2 g3
       clear hB
       have hF := hid (show scF s p = p + 1 + 1 + 2 by rw [scF, hC.out, if_pos hc'.out])
       have hFl : p + 1 + 1 + 2 ≤ s.size := by rw [← hF.out]; exact scF_le s p hX.out
       obtain ⟨E3, hE3⟩ : ∃ QQ, Hid (rn s (p + 1 + 1 + 2) = QQ) := ⟨_, rfl⟩
       have hE3l : E3 ≤ s.size := by rw [← hE3.out]; exact rn_le s _ hFl
       have hE3g : p + 1 + 1 + 2 ≤ E3 := by rw [← hE3.out]; exact rn_ge s _
       have hH := hid (show scH s p = E3 by rw [scH, if_pos hX.out, hF.out, hE3.out])
       go_wp2_with fail
       refine Calls.mono (digits_calls s hs (p + 1 + 1 + 2) _ (by omega) hFl E3 hE3 _) ?_
       rintro e' w_15 ⟨rfl, hw⟩
       rw [← hw] at hP
       clear hw
       try clear c0 c1 c2 c3 f0 f1 f2 f3 d0 d1 d2 d3 g0 g1 g2 g3
       by_cases hq : E3 = p + 1 + 1 + 2
       ·have e3 : (((E3 : Nat) : Int) == ((p + 1 + 1 : Nat) : Int) + 1 + 1) = true := by simp; omega
        try simp only [Int.natCast_add, Int.natCast_one] at e3
        have hnd := hid (show dgB (lk s (scF s p)) = false by have h1 := rn_end s (p + 1 + 1 + 2); rw [hE3.out, hq] at h1; rw [hF.out]; exact h1)
        have hq' := hid hq
        clear hq
        obtain ⟨⟨c0, c1, c2, c3⟩, ⟨f0, f1, f2, f3⟩, ⟨d0, d1, d2, d3⟩, g0, g1, g2, g3⟩ := hP.out.facts
        go_wp2
        refine ret_rp rfl rfl hP.out.out.1 rfl ⟨⟨_, _, _, _, _, _, rfl, ?_⟩, hP.out.out.2⟩
        refine RsT.no ?_
        rw [scanS, if_neg (by rw [hdA.out]; decide), if_neg hn2.out, if_pos ⟨hX.out, hnd.out⟩, hF.out, hq'.out]
       ·have e3 : (((E3 : Nat) : Int) == ((p + 1 + 1 : Nat) : Int) + 1 + 1) = false := beq_eq_false_iff_ne.2 (by omega)
        try simp only [Int.natCast_add, Int.natCast_one] at e3
        have hdg3 := hid (show dgB (lk s (scF s p)) = true by rw [hF.out]; exact rn_dig s (p + 1 + 1 + 2) (p + 1 + 1 + 2) (Nat.le_refl _) (by rw [hE3.out]; omega))
        have hn3 := hid (show ¬ (scX s p = true ∧ dgB (lk s (scF s p)) = false) from fun h => by rw [hdg3.out] at h; exact Bool.noConfusion h.2)
        obtain ⟨⟨c0, c1, c2, c3⟩, ⟨f0, f1, f2, f3⟩, ⟨d0, d1, d2, d3⟩, g0, g1, g2, g3⟩ := hP.out.facts
        have hx := hid (show scEx s p = s.extract (p + 1 + 1 + 1) E3 by rw [scEx, if_pos hX.out, hC.out, hH.out])
        replace hP := hid (hP.out.set3 (s.extract (p + 1 + 1 + 1) E3))
        clear hq
        go_upto_region 28 with fail
        generalize World.setCell _ ⟨w.heap.size + 1, 3, none⟩ _ = wz at hP ⊢
        clear c0 c1 c2 c3 f0 f1 f2 f3 d0 d1 d2 d3 g0 g1 g2 g3
        obtain ⟨⟨c0, c1, c2, c3⟩, ⟨f0, f1, f2, f3⟩, ⟨d0, d1, d2, d3⟩, g0, g1, g2, g3⟩ := hP.out.facts
        go_wp2
        refine ret_rp rfl rfl hP.out.out.1 rfl ⟨⟨_, _, _, _, _, _, rfl, ?_⟩, hP.out.out.2⟩
        have h := RsT.yes hdA.out hn2.out hn3.out
        rw [← hex.out, ← hbe.out, hNg.out] at h
        rw [hH.out, hx.out] at h
        exact h
      ·have hc' := hid hc
       clear hc
       have hB := hid (show decide (lk s (p + 1 + 1 + 1) = 43 ∨ lk s (p + 1 + 1 + 1) = 45) = false by simpa using hc'.out)
       go_wp2_with fail
       refine Calls.mono (isD_calls s (p + 1 + 1 + 1) _ (by omega) 43 45 (by decide) (by decide) false hB _) ?_
       rintro e' w_16 ⟨rfl, hw⟩
       rw [← hw] at hP
       clear hw
       try clear c0 c1 c2 c3 f0 f1 f2 f3 d0 d1 d2 d3 g0 g1 g2 g3
       clear hB
       have hF := hid (show scF s p = p + 1 + 1 + 1 by rw [scF, hC.out, if_neg hc'.out])
       have hFl : p + 1 + 1 + 1 ≤ s.size := by rw [← hF.out]; exact scF_le s p hX.out
       obtain ⟨E3, hE3⟩ : ∃ QQ, Hid (rn s (p + 1 + 1 + 1) = QQ) := ⟨_, rfl⟩
       have hE3l : E3 ≤ s.size := by rw [← hE3.out]; exact rn_le s _ hFl
       have hE3g : p + 1 + 1 + 1 ≤ E3 := by rw [← hE3.out]; exact rn_ge s _
       have hH := hid (show scH s p = E3 by rw [scH, if_pos hX.out, hF.out, hE3.out])
       go_wp2_with fail
       refine Calls.mono (digits_calls s hs (p + 1 + 1 + 1) _ (by omega) hFl E3 hE3 _) ?_
       rintro e' w_17 ⟨rfl, hw⟩
       rw [← hw] at hP
       clear hw
       try clear c0 c1 c2 c3 f0 f1 f2 f3 d0 d1 d2 d3 g0 g1 g2 g3
       by_cases hq : E3 = p + 1 + 1 + 1
       ·have e3 : (((E3 : Nat) : Int) == ((p + 1 + 1 : Nat) : Int) + 1) = true := by simp; omega
        try simp only [Int.natCast_add, Int.natCast_one] at e3
        have hnd := hid (show dgB (lk s (scF s p)) = false by have h1 := rn_end s (p + 1 + 1 + 1); rw [hE3.out, hq] at h1; rw [hF.out]; exact h1)
        have hq' := hid hq
        clear hq
        obtain ⟨⟨c0, c1, c2, c3⟩, ⟨f0, f1, f2, f3⟩, ⟨d0, d1, d2, d3⟩, g0, g1, g2, g3⟩ := hP.out.facts
        go_wp2
        refine ret_rp rfl rfl hP.out.out.1 rfl ⟨⟨_, _, _, _, _, _, rfl, ?_⟩, hP.out.out.2⟩
        refine RsT.no ?_
        rw [scanS, if_neg (by rw [hdA.out]; decide), if_neg hn2.out, if_pos ⟨hX.out, hnd.out⟩, hF.out, hq'.out]
       ·have e3 : (((E3 : Nat) : Int) == ((p + 1 + 1 : Nat) : Int) + 1) = false := beq_eq_false_iff_ne.2 (by omega)
        try simp only [Int.natCast_add, Int.natCast_one] at e3
        have hdg3 := hid (show dgB (lk s (scF s p)) = true by rw [hF.out]; exact rn_dig s (p + 1 + 1 + 1) (p + 1 + 1 + 1) (Nat.le_refl _) (by rw [hE3.out]; omega))
        have hn3 := hid (show ¬ (scX s p = true ∧ dgB (lk s (scF s p)) = false) from fun h => by rw [hdg3.out] at h; exact Bool.noConfusion h.2)
        obtain ⟨⟨c0, c1, c2, c3⟩, ⟨f0, f1, f2, f3⟩, ⟨d0, d1, d2, d3⟩, g0, g1, g2, g3⟩ := hP.out.facts
        have hx := hid (show scEx s p = s.extract (p + 1 + 1 + 1) E3 by rw [scEx, if_pos hX.out, hC.out, hH.out])
        replace hP := hid (hP.out.set3 (s.extract (p + 1 + 1 + 1) E3))
        clear hq
        go_upto_region 28 with fail
        generalize World.setCell _ ⟨w.heap.size + 1, 3, none⟩ _ = wz at hP ⊢
        clear c0 c1 c2 c3 f0 f1 f2 f3 d0 d1 d2 d3 g0 g1 g2 g3
        obtain ⟨⟨c0, c1, c2, c3⟩, ⟨f0, f1, f2, f3⟩, ⟨d0, d1, d2, d3⟩, g0, g1, g2, g3⟩ := hP.out.facts
        go_wp2
        refine ret_rp rfl rfl hP.out.out.1 rfl ⟨⟨_, _, _, _, _, _, rfl, ?_⟩, hP.out.out.2⟩
        have h := RsT.yes hdA.out hn2.out hn3.out
        rw [← hex.out, ← hbe.out, hNg.out] at h
        rw [hH.out, hx.out] at h
        exact h
     ·have hc' := hid hc
      clear hc
      have hB := hid (show decide (lk s (p + 1 + 1) = 101 ∨ lk s (p + 1 + 1) = 69) = false by simpa using hc'.out)
      go_wp2_with fail
      refine Calls.mono (isD_calls s (p + 1 + 1) _ (by omega) 101 69 (by decide) (by decide) false hB _) ?_
      rintro e' w_18 ⟨rfl, hw⟩
      rw [← hw] at hP
      clear hw
      try clear c0 c1 c2 c3 f0 f1 f2 f3 d0 d1 d2 d3 g0 g1 g2 g3
      clear hB
      have hX := hid (show scX s p = false by rw [scX, hC.out]; simpa using hc'.out)
      clear hc'
      have hn3 := hid (show ¬ (scX s p = true ∧ dgB (lk s (scF s p)) = false) from fun h => by rw [hX.out] at h; exact Bool.noConfusion h.1)
      have hH := hid (show scH s p = p + 1 + 1 by rw [scH, if_neg (by rw [hX.out]; decide), hC.out])
      have hx := hid (show scEx s p = ⟨#[]⟩ by rw [scEx, if_neg (by rw [hX.out]; decide)])
      obtain ⟨⟨c0, c1, c2, c3⟩, ⟨f0, f1, f2, f3⟩, ⟨d0, d1, d2, d3⟩, g0, g1, g2, g3⟩ := hP.out.facts
      go_wp2
      refine ret_rp rfl rfl hP.out.out.1 rfl ⟨⟨_, _, _, _, _, _, rfl, ?_⟩, hP.out.out.2⟩
      have h := RsT.yes hdA.out hn2.out hn3.out
      rw [← hex.out, ← hbe.out, hNg.out] at h
      rw [hH.out, hx.out] at h
      exact h
   ·have g48 : ((y : Int) == 48) = false := beq_eq_false_iff_ne.2 (by omega)
    have hB := hid (show scB s p = E by rw [scB, hA.out, hly.out, if_neg h48, hE.out])
    clear h48
    obtain ⟨⟨c0, c1, c2, c3⟩, ⟨f0, f1, f2, f3⟩, ⟨d0, d1, d2, d3⟩, g0, g1, g2, g3⟩ := hP.out.facts
    have hex := hid (show s.extract (p + 1) (E) = s.extract (scA s p) (scB s p) by rw [hA.out, hB.out])
    replace hP := hid (hP.out.set1 (s.extract (p + 1) (E)))
    have hBl : E ≤ s.size := by omega
    by_cases hc : lk s (E) = 46
    ·have hc' := hid hc
     clear hc
     have hB := hid (show decide (lk s (E) = 46 ∨ lk s (E) = 46) = true by simpa using hc'.out)
     go_wp2_with fail
     refine Calls.mono (isD_calls s (E) _ (by omega) 46 46 (by decide) (by decide) true hB _) ?_
     rintro e' w_19 ⟨rfl, hw⟩
     rw [← hw] at hP
     clear hw
     try clear c0 c1 c2 c3 f0 f1 f2 f3 d0 d1 d2 d3 g0 g1 g2 g3
     clear hB
     have hpt := hid (show lk s (scB s p) = 46 by rw [hB.out]; exact hc'.out)
     have hBl2 := lk_in (s := s) (i := E) (by rw [hc'.out]; decide)
     clear hc'
     obtain ⟨E2, hE2⟩ : ∃ QQ, Hid (rn s (E + 1) = QQ) := ⟨_, rfl⟩
     have hE2l : E2 ≤ s.size := by rw [← hE2.out]; exact rn_le s _ (by omega)
     have hE2g : E + 1 ≤ E2 := by rw [← hE2.out]; exact rn_ge s _
     have hC := hid (show scC s p = E2 by rw [scC, if_pos hpt.out, hB.out, hE2.out])
     go_wp2_with fail
     refine Calls.mono (digits_calls s hs (E + 1) _ (by omega) (by omega) E2 hE2 _) ?_
     rintro e' w_20 ⟨rfl, hw⟩
     rw [← hw] at hP
     clear hw
     try clear c0 c1 c2 c3 f0 f1 f2 f3 d0 d1 d2 d3 g0 g1 g2 g3
     by_cases hq : E2 = E + 1
     ·have e2 : (((E2 : Nat) : Int) == ((E + 1 : Nat) : Int)) = true := by simp [hq]
      try simp only [Int.natCast_add, Int.natCast_one] at e2
      have hnd := hid (show dgB (lk s (scB s p + 1)) = false by have h1 := rn_end s (E + 1); rw [hE2.out, hq] at h1; rw [hB.out]; exact h1)
      have hq' := hid hq
      clear hq
      obtain ⟨⟨c0, c1, c2, c3⟩, ⟨f0, f1, f2, f3⟩, ⟨d0, d1, d2, d3⟩, g0, g1, g2, g3⟩ := hP.out.facts
      go_wp2
      refine ret_rp rfl rfl hP.out.out.1 rfl ⟨⟨_, _, _, _, _, _, rfl, ?_⟩, hP.out.out.2⟩
      refine RsT.no ?_
      rw [scanS, if_neg (by rw [hdA.out]; decide), if_pos ⟨hpt.out, hnd.out⟩, hB.out, hq'.out]
     ·have e2 : (((E2 : Nat) : Int) == ((E + 1 : Nat) : Int)) = false := beq_eq_false_iff_ne.2 (by omega)
      try simp only [Int.natCast_add, Int.natCast_one] at e2
      have hdg := hid (show dgB (lk s (scB s p + 1)) = true by rw [hB.out]; exact rn_dig s (E + 1) (E + 1) (Nat.le_refl _) (by rw [hE2.out]; omega))
      obtain ⟨⟨c0, c1, c2, c3⟩, ⟨f0, f1, f2, f3⟩, ⟨d0, d1, d2, d3⟩, g0, g1, g2, g3⟩ := hP.out.facts
      have hn2 := hid (show ¬ (lk s (scB s p) = 46 ∧ dgB (lk s (scB s p + 1)) = false) from fun h => by rw [hdg.out] at h; exact Bool.noConfusion h.2)
      have hbe := hid (show s.extract (E + 1) E2 = scBe s p by rw [scBe, if_pos hpt.out, hB.out, hC.out])
      replace hP := hid (hP.out.set2 (s.extract (E + 1) E2))
      clear hq
      by_cases hc : lk s (E2) = 101 ∨ lk s (E2) = 69
      ·have hc' := hid hc
       clear hc
       have hB := hid (show decide (lk s (E2) = 101 ∨ lk s (E2) = 69) = true by simpa using hc'.out)
       go_wp2_with fail
       refine Calls.mono (isD_calls s (E2) _ (by omega) 101 69 (by decide) (by decide) true hB _) ?_
       rintro e' w_21 ⟨rfl, hw⟩
       rw [← hw] at hP
       clear hw
       try clear c0 c1 c2 c3 f0 f1 f2 f3 d0 d1 d2 d3 g0 g1 g2 g3
       clear hB
       have hX := hid (show scX s p = true by rw [scX, hC.out]; simpa using hc'.out)
       have hCl := lk_in (s := s) (i := E2) (by have := hc'.out; omega)
       clear hc'
       by_cases hc : lk s (E2 + 1) = 43 ∨ lk s (E2 + 1) = 45
       ·have hc' := hid hc
        clear hc
        have hB := hid (show decide (lk s (E2 + 1) = 43 ∨ lk s (E2 + 1) = 45) = true by simpa using hc'.out)
        go_wp2_with fail
        refine Calls.mono (isD_calls s (E2 + 1) _ (by omega) 43 45 (by decide) (by decide) true hB _) ?_
        rintro e' w_22 ⟨rfl, hw⟩
        rw [← hw] at hP
        clear hw
        try clear c0 c1 c2 c3 f0 f1 f2 f3 d0 d1 d2 d3 g0 g1 g2 g3
        clear hB
        have hF := hid (show scF s p = E2 + 2 by rw [scF, hC.out, if_pos hc'.out])
        have hFl : E2 + 2 ≤ s.size := by rw [← hF.out]; exact scF_le s p hX.out
        obtain ⟨E3, hE3⟩ : ∃ QQ, Hid (rn s (E2 + 2) = QQ) := ⟨_, rfl⟩
        have hE3l : E3 ≤ s.size := by rw [← hE3.out]; exact rn_le s _ hFl
        have hE3g : E2 + 2 ≤ E3 := by rw [← hE3.out]; exact rn_ge s _
        have hH := hid (show scH s p = E3 by rw [scH, if_pos hX.out, hF.out, hE3.out])
        go_wp2_with fail
        refine Calls.mono (digits_calls s hs (E2 + 2) _ (by omega) hFl E3 hE3 _) ?_
        rintro e' w_23 ⟨rfl, hw⟩
        rw [← hw] at hP
        clear hw
        try clear c0 c1 c2 c3 f0 f1 f2 f3 d0 d1 d2 d3 g0 g1 g2 g3
        by_cases hq : E3 = E2 + 2
        ·have e3 : (((E3 : Nat) : Int) == ((E2 : Nat) : Int) + 1 + 1) = true := by simp; omega
         try simp only [Int.natCast_add, Int.natCast_one] at e3
         have hnd := hid (show dgB (lk s (scF s p)) = false by have h1 := rn_end s (E2 + 2); rw [hE3.out, hq] at h1; rw [hF.out]; exact h1)
         have hq' := hid hq
         clear hq
         obtain ⟨⟨c0, c1, c2, c3⟩, ⟨f0, f1, f2, f3⟩, ⟨d0, d1, d2, d3⟩, g0, g1, g2, g3⟩ := hP.out.facts
         go_wp2
         refine ret_rp rfl rfl hP.out.out.1 rfl ⟨⟨_, _, _, _, _, _, rfl, ?_⟩, hP.out.out.2⟩
         refine RsT.no ?_
         rw [scanS, if_neg (by rw [hdA.out]; decide), if_neg hn2.out, if_pos ⟨hX.out, hnd.out⟩, hF.out, hq'.out]
        ·have e3 : (((E3 : Nat) : Int) == ((E2 : Nat) : Int) + 1 + 1) = false := beq_eq_false_iff_ne.2 (by omega)
         try simp only [Int.natCast_add, Int.natCast_one] at e3
         have hdg3 := hid (show dgB (lk s (scF s p)) = true by rw [hF.out]; exact rn_dig s (E2 + 2) (E2 + 2) (Nat.le_refl _) (by rw [hE3.out]; omega))
         have hn3 := hid (show ¬ (scX s p = true ∧ dgB (lk s (scF s p)) = false) from fun h => by rw [hdg3.out] at h; exact Bool.noConfusion h.2)
         obtain ⟨⟨c0, c1, c2, c3⟩, ⟨f0, f1, f2, f3⟩, ⟨d0, d1, d2, d3⟩, g0, g1, g2, g3⟩ := hP.out.facts
         have hx := hid (show scEx s p = s.extract (E2 + 1) E3 by rw [scEx, if_pos hX.out, hC.out, hH.out])
         replace hP := hid (hP.out.set3 (s.extract (E2 + 1) E3))
         clear hq
         go_upto_region 28 with fail
         generalize World.setCell _ ⟨w.heap.size + 1, 3, none⟩ _ = wz at hP ⊢
         clear c0 c1 c2 c3 f0 f1 f2 f3 d0 d1 d2 d3 g0 g1 g2 g3
         obtain ⟨⟨c0, c1, c2, c3⟩, ⟨f0, f1, f2, f3⟩, ⟨d0, d1, d2, d3⟩, g0, g1, g2, g3⟩ := hP.out.facts
         go_wp2
         refine ret_rp rfl rfl hP.out.out.1 rfl ⟨⟨_, _, _, _, _, _, rfl, ?_⟩, hP.out.out.2⟩
         have h := RsT.yes hdA.out hn2.out hn3.out
         rw [← hex.out, ← hbe.out, hNg.out] at h
         rw [hH.out, hx.out] at h
         exact h
       ·have hc' := hid hc
        clear hc
        have hB := hid (show decide (lk s (E2 + 1) = 43 ∨ lk s (E2 + 1) = 45) = false by simpa using hc'.out)
        go_wp2_with fail
        refine Calls.mono (isD_calls s (E2 + 1) _ (by omega) 43 45 (by decide) (by decide) false hB _) ?_
        rintro e' w_24 ⟨rfl, hw⟩
        rw [← hw] at hP
        clear hw
        try clear c0 c1 c2 c3 f0 f1 f2 f3 d0 d1 d2 d3 g0 g1 g2 g3
        clear hB
        have hF := hid (show scF s p = E2 + 1 by rw [scF, hC.out, if_neg hc'.out])
        have hFl : E2 + 1 ≤ s.size := by rw [← hF.out]; exact scF_le s p hX.out
        obtain ⟨E3, hE3⟩ : ∃ QQ, Hid (rn s (E2 + 1) = QQ) := ⟨_, rfl⟩
        have hE3l : E3 ≤ s.size := by rw [← hE3.out]; exact rn_le s _ hFl
        have hE3g : E2 + 1 ≤ E3 := by rw [← hE3.out]; exact rn_ge s _
        have hH := hid (show scH s p = E3 by rw [scH, if_pos hX.out, hF.out, hE3.out])
        go_wp2_with fail
        refine Calls.mono (digits_calls s hs (E2 + 1) _ (by omega) hFl E3 hE3 _) ?_
        rintro e' w_25 ⟨rfl, hw⟩
        rw [← hw] at hP
        clear hw
        try clear c0 c1 c2 c3 f0 f1 f2 f3 d0 d1 d2 d3 g0 g1 g2 g3
        by_cases hq : E3 = E2 + 1
        ·have e3 : (((E3 : Nat) : Int) == ((E2 : Nat) : Int) + 1) = true := by simp; omega
         try simp only [Int.natCast_add, Int.natCast_one] at e3
         have hnd := hid (show dgB (lk s (scF s p)) = false by have h1 := rn_end s (E2 + 1); rw [hE3.out, hq] at h1; rw [hF.out]; exact h1)
         have hq' := hid hq
         clear hq
         obtain ⟨⟨c0, c1, c2, c3⟩, ⟨f0, f1, f2, f3⟩, ⟨d0, d1, d2, d3⟩, g0, g1, g2, g3⟩ := hP.out.facts
         go_wp2
         refine ret_rp rfl rfl hP.out.out.1 rfl ⟨⟨_, _, _, _, _, _, rfl, ?_⟩, hP.out.out.2⟩
         refine RsT.no ?_
         rw [scanS, if_neg (by rw [hdA.out]; decide), if_neg hn2.out, if_pos ⟨hX.out, hnd.out⟩, hF.out, hq'.out]
        ·have e3 : (((E3 : Nat) : Int) == ((E2 : Nat) : Int) + 1) = false := beq_eq_false_iff_ne.2 (by omega)
         try simp only [Int.natCast_add, Int.natCast_one] at e3
         have hdg3 := hid (show dgB (lk s (scF s p)) = true by rw [hF.out]; exact rn_dig s (E2 + 1) (E2 + 1) (Nat.le_refl _) (by rw [hE3.out]; omega))
         have hn3 := hid (show ¬ (scX s p = true ∧ dgB (lk s (scF s p)) = false) from fun h => by rw [hdg3.out] at h; exact Bool.noConfusion h.2)
         obtain ⟨⟨c0, c1, c2, c3⟩, ⟨f0, f1, f2, f3⟩, ⟨d0, d1, d2, d3⟩, g0, g1, g2, g3⟩ := hP.out.facts
         have hx := hid (show scEx s p = s.extract (E2 + 1) E3 by rw [scEx, if_pos hX.out, hC.out, hH.out])
         replace hP := hid (hP.out.set3 (s.extract (E2 + 1) E3))
         clear hq
         go_upto_region 28 with fail
         generalize World.setCell _ ⟨w.heap.size + 1, 3, none⟩ _ = wz at hP ⊢
         clear c0 c1 c2 c3 f0 f1 f2 f3 d0 d1 d2 d3 g0 g1 g2 g3
         obtain ⟨⟨c0, c1, c2, c3⟩, ⟨f0, f1, f2, f3⟩, ⟨d0, d1, d2, d3⟩, g0, g1, g2, g3⟩ := hP.out.facts
         go_wp2
         refine ret_rp rfl rfl hP.out.out.1 rfl ⟨⟨_, _, _, _, _, _, rfl, ?_⟩, hP.out.out.2⟩
         have h := RsT.yes hdA.out hn2.out hn3.out
         rw [← hex.out, ← hbe.out, hNg.out] at h
         rw [hH.out, hx.out] at h
         exact h
      ·have hc' := hid hc
       clear hc
       have hB := hid (show decide (lk s (E2) = 101 ∨ lk s (E2) = 69) = false by simpa using hc'.out)
       go_wp2_with fail
       refine Calls.mono (isD_calls s (E2) _ (by omega) 101 69 (by decide) (by decide) false hB _) ?_
       rintro e' w_26 ⟨rfl, hw⟩
       rw [← hw] at hP
       clear hw
       try clear c0 c1 c2 c3 f0 f1 f2 f3 d0 d1 d2 d3 g0 g1 g2 g3
       clear hB
       have hX := hid (show scX s p = false by rw [scX, hC.out]; simpa using hc'.out)
       clear hc'
       have hn3 := hid (show ¬ (scX s p = true ∧ dgB (lk s (scF s p)) = false) from fun h => by rw [hX.out] at h; exact Bool.noConfusion h.1)
       have hH := hid (show scH s p = E2 by rw [scH, if_neg (by rw [hX.out]; decide), hC.out])
       have hx := hid (show scEx s p = ⟨#[]⟩ by rw [scEx, if_neg (by rw [hX.out]; decide)])
       obtain ⟨⟨c0, c1, c2, c3⟩, ⟨f0, f1, f2, f3⟩, ⟨d0, d1, d2, d3⟩, g0, g1, g2, g3⟩ := hP.out.facts
       go_wp2
       refine ret_rp rfl rfl hP.out.out.1 rfl ⟨⟨_, _, _, _, _, _, rfl, ?_⟩, hP.out.out.2⟩
       have h := RsT.yes hdA.out hn2.out hn3.out
       rw [← hex.out, ← hbe.out, hNg.out] at h
       rw [hH.out, hx.out] at h
       exact h
    ·have hc' := hid hc
     clear hc
     have hB := hid (show decide (lk s (E) = 46 ∨ lk s (E) = 46) = false by simpa using hc'.out)
     go_wp2_with fail
     refine Calls.mono (isD_calls s (E) _ (by omega) 46 46 (by decide) (by decide) false hB _) ?_
     rintro e' w_27 ⟨rfl, hw⟩
     rw [← hw] at hP
     clear hw
     try clear c0 c1 c2 c3 f0 f1 f2 f3 d0 d1 d2 d3 g0 g1 g2 g3
     clear hB
     have hnp := hid (show ¬ lk s (scB s p) = 46 by rw [hB.out]; exact hc'.out)
     clear hc'
     have hC := hid (show scC s p = E by rw [scC, if_neg hnp.out, hB.out])
     have hn2 := hid (show ¬ (lk s (scB s p) = 46 ∧ dgB (lk s (scB s p + 1)) = false) from fun h => hnp.out h.1)
     have hbe := hid (show (⟨#[]⟩ : ByteArray) = scBe s p by rw [scBe, if_neg hnp.out])
     by_cases hc : lk s (E) = 101 ∨ lk s (E) = 69
     ·have hc' := hid hc
      clear hc
      have hB := hid (show decide (lk s (E) = 101 ∨ lk s (E) = 69) = true by simpa using hc'.out)
      go_wp2_with fail
      refine Calls.mono (isD_calls s (E) _ (by omega) 101 69 (by decide) (by decide) true hB _) ?_
      rintro e' w_28 ⟨rfl, hw⟩
      rw [← hw] at hP
      clear hw
      try clear c0 c1 c2 c3 f0 f1 f2 f3 d0 d1 d2 d3 g0 g1 g2 g3
      clear hB
      have hX := hid (show scX s p = true by rw [scX, hC.out]; simpa using hc'.out)
      have hCl := lk_in (s := s) (i := E) (by have := hc'.out; omega)
      clear hc'
      by_cases hc : lk s (E + 1) = 43 ∨ lk s (E + 1) = 45
      ·have hc' := hid hc
       clear hc
       have hB := hid (show decide (lk s (E + 1) = 43 ∨ lk s (E + 1) = 45) = true by simpa using hc'.out)
       go_wp2_with fail
       refine Calls.mono (isD_calls s (E + 1) _ (by omega) 43 45 (by decide) (by decide) true hB _) ?_
       rintro e' w_29 ⟨rfl, hw⟩
       rw [← hw] at hP
       clear hw
       try clear c0 c1 c2 c3 f0 f1 f2 f3 d0 d1 d2 d3 g0 g1 g2 g3
       clear hB
       have hF := hid (show scF s p = E + 2 by rw [scF, hC.out, if_pos hc'.out])
       have hFl : E + 2 ≤ s.size := by rw [← hF.out]; exact scF_le s p hX.out
       obtain ⟨E3, hE3⟩ : ∃ QQ, Hid (rn s (E + 2) = QQ) := ⟨_, rfl⟩
       have hE3l : E3 ≤ s.size := by rw [← hE3.out]; exact rn_le s _ hFl
       have hE3g : E + 2 ≤ E3 := by rw [← hE3.out]; exact rn_ge s _
       have hH := hid (show scH s p = E3 by rw [scH, if_pos hX.out, hF.out, hE3.out])
       go_wp2_with fail
       refine Calls.mono (digits_calls s hs (E + 2) _ (by omega) hFl E3 hE3 _) ?_
       rintro e' w_30 ⟨rfl, hw⟩
       rw [← hw] at hP
       clear hw
       try clear c0 c1 c2 c3 f0 f1 f2 f3 d0 d1 d2 d3 g0 g1 g2 g3
       by_cases hq : E3 = E + 2
       ·have e3 : (((E3 : Nat) : Int) == ((E : Nat) : Int) + 1 + 1) = true := by simp; omega
        try simp only [Int.natCast_add, Int.natCast_one] at e3
        have hnd := hid (show dgB (lk s (scF s p)) = false by have h1 := rn_end s (E + 2); rw [hE3.out, hq] at h1; rw [hF.out]; exact h1)
        have hq' := hid hq
        clear hq
        obtain ⟨⟨c0, c1, c2, c3⟩, ⟨f0, f1, f2, f3⟩, ⟨d0, d1, d2, d3⟩, g0, g1, g2, g3⟩ := hP.out.facts
        go_wp2
        refine ret_rp rfl rfl hP.out.out.1 rfl ⟨⟨_, _, _, _, _, _, rfl, ?_⟩, hP.out.out.2⟩
        refine RsT.no ?_
        rw [scanS, if_neg (by rw [hdA.out]; decide), if_neg hn2.out, if_pos ⟨hX.out, hnd.out⟩, hF.out, hq'.out]
       ·have e3 : (((E3 : Nat) : Int) == ((E : Nat) : Int) + 1 + 1) = false := beq_eq_false_iff_ne.2 (by omega)
        try simp only [Int.natCast_add, Int.natCast_one] at e3
        have hdg3 := hid (show dgB (lk s (scF s p)) = true by rw [hF.out]; exact rn_dig s (E + 2) (E + 2) (Nat.le_refl _) (by rw [hE3.out]; omega))
        have hn3 := hid (show ¬ (scX s p = true ∧ dgB (lk s (scF s p)) = false) from fun h => by rw [hdg3.out] at h; exact Bool.noConfusion h.2)
        obtain ⟨⟨c0, c1, c2, c3⟩, ⟨f0, f1, f2, f3⟩, ⟨d0, d1, d2, d3⟩, g0, g1, g2, g3⟩ := hP.out.facts
        have hx := hid (show scEx s p = s.extract (E + 1) E3 by rw [scEx, if_pos hX.out, hC.out, hH.out])
        replace hP := hid (hP.out.set3 (s.extract (E + 1) E3))
        clear hq
        go_upto_region 28 with fail
        generalize World.setCell _ ⟨w.heap.size + 1, 3, none⟩ _ = wz at hP ⊢
        clear c0 c1 c2 c3 f0 f1 f2 f3 d0 d1 d2 d3 g0 g1 g2 g3
        obtain ⟨⟨c0, c1, c2, c3⟩, ⟨f0, f1, f2, f3⟩, ⟨d0, d1, d2, d3⟩, g0, g1, g2, g3⟩ := hP.out.facts
        go_wp2
        refine ret_rp rfl rfl hP.out.out.1 rfl ⟨⟨_, _, _, _, _, _, rfl, ?_⟩, hP.out.out.2⟩
        have h := RsT.yes hdA.out hn2.out hn3.out
        rw [← hex.out, ← hbe.out, hNg.out] at h
        rw [hH.out, hx.out] at h
        exact h
      ·have hc' := hid hc
       clear hc
       have hB := hid (show decide (lk s (E + 1) = 43 ∨ lk s (E + 1) = 45) = false by simpa using hc'.out)
       go_wp2_with fail
       refine Calls.mono (isD_calls s (E + 1) _ (by omega) 43 45 (by decide) (by decide) false hB _) ?_
       rintro e' w_31 ⟨rfl, hw⟩
       rw [← hw] at hP
       clear hw
       try clear c0 c1 c2 c3 f0 f1 f2 f3 d0 d1 d2 d3 g0 g1 g2 g3
       clear hB
       have hF := hid (show scF s p = E + 1 by rw [scF, hC.out, if_neg hc'.out])
       have hFl : E + 1 ≤ s.size := by rw [← hF.out]; exact scF_le s p hX.out
       obtain ⟨E3, hE3⟩ : ∃ QQ, Hid (rn s (E + 1) = QQ) := ⟨_, rfl⟩
       have hE3l : E3 ≤ s.size := by rw [← hE3.out]; exact rn_le s _ hFl
       have hE3g : E + 1 ≤ E3 := by rw [← hE3.out]; exact rn_ge s _
       have hH := hid (show scH s p = E3 by rw [scH, if_pos hX.out, hF.out, hE3.out])
       go_wp2_with fail
       refine Calls.mono (digits_calls s hs (E + 1) _ (by omega) hFl E3 hE3 _) ?_
       rintro e' w_32 ⟨rfl, hw⟩
       rw [← hw] at hP
       clear hw
       try clear c0 c1 c2 c3 f0 f1 f2 f3 d0 d1 d2 d3 g0 g1 g2 g3
       by_cases hq : E3 = E + 1
       ·have e3 : (((E3 : Nat) : Int) == ((E : Nat) : Int) + 1) = true := by simp; omega
        try simp only [Int.natCast_add, Int.natCast_one] at e3
        have hnd := hid (show dgB (lk s (scF s p)) = false by have h1 := rn_end s (E + 1); rw [hE3.out, hq] at h1; rw [hF.out]; exact h1)
        have hq' := hid hq
        clear hq
        obtain ⟨⟨c0, c1, c2, c3⟩, ⟨f0, f1, f2, f3⟩, ⟨d0, d1, d2, d3⟩, g0, g1, g2, g3⟩ := hP.out.facts
        go_wp2
        refine ret_rp rfl rfl hP.out.out.1 rfl ⟨⟨_, _, _, _, _, _, rfl, ?_⟩, hP.out.out.2⟩
        refine RsT.no ?_
        rw [scanS, if_neg (by rw [hdA.out]; decide), if_neg hn2.out, if_pos ⟨hX.out, hnd.out⟩, hF.out, hq'.out]
       ·have e3 : (((E3 : Nat) : Int) == ((E : Nat) : Int) + 1) = false := beq_eq_false_iff_ne.2 (by omega)
        try simp only [Int.natCast_add, Int.natCast_one] at e3
        have hdg3 := hid (show dgB (lk s (scF s p)) = true by rw [hF.out]; exact rn_dig s (E + 1) (E + 1) (Nat.le_refl _) (by rw [hE3.out]; omega))
        have hn3 := hid (show ¬ (scX s p = true ∧ dgB (lk s (scF s p)) = false) from fun h => by rw [hdg3.out] at h; exact Bool.noConfusion h.2)
        obtain ⟨⟨c0, c1, c2, c3⟩, ⟨f0, f1, f2, f3⟩, ⟨d0, d1, d2, d3⟩, g0, g1, g2, g3⟩ := hP.out.facts
        have hx := hid (show scEx s p = s.extract (E + 1) E3 by rw [scEx, if_pos hX.out, hC.out, hH.out])
        replace hP := hid (hP.out.set3 (s.extract (E + 1) E3))
        clear hq
        go_upto_region 28 with fail
        generalize World.setCell _ ⟨w.heap.size + 1, 3, none⟩ _ = wz at hP ⊢
        clear c0 c1 c2 c3 f0 f1 f2 f3 d0 d1 d2 d3 g0 g1 g2 g3
        obtain ⟨⟨c0, c1, c2, c3⟩, ⟨f0, f1, f2, f3⟩, ⟨d0, d1, d2, d3⟩, g0, g1, g2, g3⟩ := hP.out.facts
        go_wp2
        refine ret_rp rfl rfl hP.out.out.1 rfl ⟨⟨_, _, _, _, _, _, rfl, ?_⟩, hP.out.out.2⟩
        have h := RsT.yes hdA.out hn2.out hn3.out
        rw [← hex.out, ← hbe.out, hNg.out] at h
        rw [hH.out, hx.out] at h
        exact h
     ·have hc' := hid hc
      clear hc
      have hB := hid (show decide (lk s (E) = 101 ∨ lk s (E) = 69) = false by simpa using hc'.out)
      go_wp2_with fail
      refine Calls.mono (isD_calls s (E) _ (by omega) 101 69 (by decide) (by decide) false hB _) ?_
      rintro e' w_33 ⟨rfl, hw⟩
      rw [← hw] at hP
      clear hw
      try clear c0 c1 c2 c3 f0 f1 f2 f3 d0 d1 d2 d3 g0 g1 g2 g3
      clear hB
      have hX := hid (show scX s p = false by rw [scX, hC.out]; simpa using hc'.out)
      clear hc'
      have hn3 := hid (show ¬ (scX s p = true ∧ dgB (lk s (scF s p)) = false) from fun h => by rw [hX.out] at h; exact Bool.noConfusion h.1)
      have hH := hid (show scH s p = E by rw [scH, if_neg (by rw [hX.out]; decide), hC.out])
      have hx := hid (show scEx s p = ⟨#[]⟩ by rw [scEx, if_neg (by rw [hX.out]; decide)])
      obtain ⟨⟨c0, c1, c2, c3⟩, ⟨f0, f1, f2, f3⟩, ⟨d0, d1, d2, d3⟩, g0, g1, g2, g3⟩ := hP.out.facts
      go_wp2
      refine ret_rp rfl rfl hP.out.out.1 rfl ⟨⟨_, _, _, _, _, _, rfl, ?_⟩, hP.out.out.2⟩
      have h := RsT.yes hdA.out hn2.out hn3.out
      rw [← hex.out, ← hbe.out, hNg.out] at h
      rw [hH.out, hx.out] at h
      exact h
 ·have hc' := hid hc
  clear hc
  have hB := hid (show decide (lk s (p) = 45 ∨ lk s (p) = 45) = false by simpa using hc'.out)
  go_wp2_with fail
  refine Calls.mono (isD_calls s (p) _ (by omega) 45 45 (by decide) (by decide) false hB _) ?_
  rintro e' w_34 ⟨rfl, hw⟩
  rw [← hw] at hP
  clear hw
  try clear c0 c1 c2 c3 f0 f1 f2 f3 d0 d1 d2 d3 g0 g1 g2 g3
  clear hB
  have hN := hid hc'.out
  clear hc'
  have hA := hid (show scA s p = p by rw [scA, if_neg hN.out])
  have hNg := hid (show scNeg s p = false by rw [scNeg]; simpa using hN.out)
  obtain ⟨D1, hD1⟩ : ∃ D, Hid (dgB (lk s (p)) = D) := ⟨_, rfl⟩
  have hcD := hid (fun w1 => refDig_calls s (p) D1 hD1 w1)
  try (rw [show (((p + 1 : Nat)) : Int) = (p : Int) + 1 from rfl] at hcD)
  go_wp2_with fail
  refine Calls.mono (hcD.out _) ?_
  rintro e' w_35 ⟨rfl, hw⟩
  rw [← hw] at hP
  clear hw hcD
  try clear c0 c1 c2 c3 f0 f1 f2 f3 d0 d1 d2 d3 g0 g1 g2 g3
  cases D1 with
  | false =>
   obtain ⟨⟨c0, c1, c2, c3⟩, ⟨f0, f1, f2, f3⟩, ⟨d0, d1, d2, d3⟩, g0, g1, g2, g3⟩ := hP.out.facts
   go_wp2
   refine ret_rp rfl rfl hP.out.out.1 rfl ⟨⟨_, _, _, _, _, _, rfl, ?_⟩, hP.out.out.2⟩
   refine RsT.no ?_
   rw [scanS, if_pos (by rw [hA.out, hD1.out]), hA.out]
  | true =>
   have hAl := dg_in hD1.out
   obtain ⟨E, hE⟩ : ∃ QQ, Hid (rn s (p) = QQ) := ⟨_, rfl⟩
   have hEl : E ≤ s.size := by rw [← hE.out]; exact rn_le s _ (by omega)
   have hEg : p < E := by rw [← hE.out]; exact rn_lt s _ hD1.out
   have hdA := hid (show dgB (lk s (scA s p)) = true by rw [hA.out, hD1.out])
   go_wp2_with fail
   refine Calls.mono (digits_calls s hs (p) _ (by omega) (by omega) E hE _) ?_
   rintro e' w_36 ⟨rfl, hw⟩
   rw [← hw] at hP
   clear hw
   try clear c0 c1 c2 c3 f0 f1 f2 f3 d0 d1 d2 d3 g0 g1 g2 g3
   obtain ⟨y, hy⟩ : ∃ y, (s[p]'hAl).toNat = y := ⟨_, rfl⟩
   have hly := hid (show lk s (p) = y by rw [lk_at s _ hAl, hy])
   have hAI : ((p : Nat) : Int) < (s.size : Int) := by omega
   try (have hAI2 : (p : Int) + 1 < (s.size : Int) := by omega)
   by_cases h48 : y = 48
   ·have g48 : ((y : Int) == 48) = true := by simp [h48]
    have hB := hid (show scB s p = p + 1 by rw [scB, hA.out, hly.out, if_pos h48])
    clear h48
    obtain ⟨⟨c0, c1, c2, c3⟩, ⟨f0, f1, f2, f3⟩, ⟨d0, d1, d2, d3⟩, g0, g1, g2, g3⟩ := hP.out.facts
    have hex := hid (show s.extract (p) (p + 1) = s.extract (scA s p) (scB s p) by rw [hA.out, hB.out])
    replace hP := hid (hP.out.set1 (s.extract (p) (p + 1)))
    have hBl : p + 1 ≤ s.size := by omega
    by_cases hc : lk s (p + 1) = 46
    ·have hc' := hid hc
     clear hc
     have hB := hid (show decide (lk s (p + 1) = 46 ∨ lk s (p + 1) = 46) = true by simpa using hc'.out)
     go_wp2_with fail
     refine Calls.mono (isD_calls s (p + 1) _ (by omega) 46 46 (by decide) (by decide) true hB _) ?_
     rintro e' w_37 ⟨rfl, hw⟩
     rw [← hw] at hP
     clear hw
     try clear c0 c1 c2 c3 f0 f1 f2 f3 d0 d1 d2 d3 g0 g1 g2 g3
     clear hB
     have hpt := hid (show lk s (scB s p) = 46 by rw [hB.out]; exact hc'.out)
     have hBl2 := lk_in (s := s) (i := p + 1) (by rw [hc'.out]; decide)
     clear hc'
     obtain ⟨E2, hE2⟩ : ∃ QQ, Hid (rn s (p + 1 + 1) = QQ) := ⟨_, rfl⟩
     have hE2l : E2 ≤ s.size := by rw [← hE2.out]; exact rn_le s _ (by omega)
     have hE2g : p + 1 + 1 ≤ E2 := by rw [← hE2.out]; exact rn_ge s _
     have hC := hid (show scC s p = E2 by rw [scC, if_pos hpt.out, hB.out, hE2.out])
     go_wp2_with fail
     refine Calls.mono (digits_calls s hs (p + 1 + 1) _ (by omega) (by omega) E2 hE2 _) ?_
     rintro e' w_38 ⟨rfl, hw⟩
     rw [← hw] at hP
     clear hw
     try clear c0 c1 c2 c3 f0 f1 f2 f3 d0 d1 d2 d3 g0 g1 g2 g3
     by_cases hq : E2 = p + 1 + 1
     ·have e2 : (((E2 : Nat) : Int) == ((p + 1 + 1 : Nat) : Int)) = true := by simp [hq]
      try simp only [Int.natCast_add, Int.natCast_one] at e2
      have hnd := hid (show dgB (lk s (scB s p + 1)) = false by have h1 := rn_end s (p + 1 + 1); rw [hE2.out, hq] at h1; rw [hB.out]; exact h1)
      have hq' := hid hq
      clear hq
      obtain ⟨⟨c0, c1, c2, c3⟩, ⟨f0, f1, f2, f3⟩, ⟨d0, d1, d2, d3⟩, g0, g1, g2, g3⟩ := hP.out.facts
      go_wp2
      refine ret_rp rfl rfl hP.out.out.1 rfl ⟨⟨_, _, _, _, _, _, rfl, ?_⟩, hP.out.out.2⟩
      refine RsT.no ?_
      rw [scanS, if_neg (by rw [hdA.out]; decide), if_pos ⟨hpt.out, hnd.out⟩, hB.out, hq'.out]
     ·have e2 : (((E2 : Nat) : Int) == ((p + 1 + 1 : Nat) : Int)) = false := beq_eq_false_iff_ne.2 (by omega)
      try simp only [Int.natCast_add, Int.natCast_one] at e2
      have hdg := hid (show dgB (lk s (scB s p + 1)) = true by rw [hB.out]; exact rn_dig s (p + 1 + 1) (p + 1 + 1) (Nat.le_refl _) (by rw [hE2.out]; omega))
      obtain ⟨⟨c0, c1, c2, c3⟩, ⟨f0, f1, f2, f3⟩, ⟨d0, d1, d2, d3⟩, g0, g1, g2, g3⟩ := hP.out.facts
      have hn2 := hid (show ¬ (lk s (scB s p) = 46 ∧ dgB (lk s (scB s p + 1)) = false) from fun h => by rw [hdg.out] at h; exact Bool.noConfusion h.2)
      have hbe := hid (show s.extract (p + 1 + 1) E2 = scBe s p by rw [scBe, if_pos hpt.out, hB.out, hC.out])
      replace hP := hid (hP.out.set2 (s.extract (p + 1 + 1) E2))
      clear hq
      by_cases hc : lk s (E2) = 101 ∨ lk s (E2) = 69
      ·have hc' := hid hc
       clear hc
       have hB := hid (show decide (lk s (E2) = 101 ∨ lk s (E2) = 69) = true by simpa using hc'.out)
       go_wp2_with fail
       refine Calls.mono (isD_calls s (E2) _ (by omega) 101 69 (by decide) (by decide) true hB _) ?_
       rintro e' w_39 ⟨rfl, hw⟩
       rw [← hw] at hP
       clear hw
       try clear c0 c1 c2 c3 f0 f1 f2 f3 d0 d1 d2 d3 g0 g1 g2 g3
       clear hB
       have hX := hid (show scX s p = true by rw [scX, hC.out]; simpa using hc'.out)
       have hCl := lk_in (s := s) (i := E2) (by have := hc'.out; omega)
       clear hc'
       by_cases hc : lk s (E2 + 1) = 43 ∨ lk s (E2 + 1) = 45
       ·have hc' := hid hc
        clear hc
        have hB := hid (show decide (lk s (E2 + 1) = 43 ∨ lk s (E2 + 1) = 45) = true by simpa using hc'.out)
        go_wp2_with fail
        refine Calls.mono (isD_calls s (E2 + 1) _ (by omega) 43 45 (by decide) (by decide) true hB _) ?_
        rintro e' w_40 ⟨rfl, hw⟩
        rw [← hw] at hP
        clear hw
        try clear c0 c1 c2 c3 f0 f1 f2 f3 d0 d1 d2 d3 g0 g1 g2 g3
        clear hB
        have hF := hid (show scF s p = E2 + 2 by rw [scF, hC.out, if_pos hc'.out])
        have hFl : E2 + 2 ≤ s.size := by rw [← hF.out]; exact scF_le s p hX.out
        obtain ⟨E3, hE3⟩ : ∃ QQ, Hid (rn s (E2 + 2) = QQ) := ⟨_, rfl⟩
        have hE3l : E3 ≤ s.size := by rw [← hE3.out]; exact rn_le s _ hFl
        have hE3g : E2 + 2 ≤ E3 := by rw [← hE3.out]; exact rn_ge s _
        have hH := hid (show scH s p = E3 by rw [scH, if_pos hX.out, hF.out, hE3.out])
        go_wp2_with fail
        refine Calls.mono (digits_calls s hs (E2 + 2) _ (by omega) hFl E3 hE3 _) ?_
        rintro e' w_41 ⟨rfl, hw⟩
        rw [← hw] at hP
        clear hw
        try clear c0 c1 c2 c3 f0 f1 f2 f3 d0 d1 d2 d3 g0 g1 g2 g3
        by_cases hq : E3 = E2 + 2
        ·have e3 : (((E3 : Nat) : Int) == ((E2 : Nat) : Int) + 1 + 1) = true := by simp; omega
         try simp only [Int.natCast_add, Int.natCast_one] at e3
         have hnd := hid (show dgB (lk s (scF s p)) = false by have h1 := rn_end s (E2 + 2); rw [hE3.out, hq] at h1; rw [hF.out]; exact h1)
         have hq' := hid hq
         clear hq
         obtain ⟨⟨c0, c1, c2, c3⟩, ⟨f0, f1, f2, f3⟩, ⟨d0, d1, d2, d3⟩, g0, g1, g2, g3⟩ := hP.out.facts
         go_wp2
         refine ret_rp rfl rfl hP.out.out.1 rfl ⟨⟨_, _, _, _, _, _, rfl, ?_⟩, hP.out.out.2⟩
         refine RsT.no ?_
         rw [scanS, if_neg (by rw [hdA.out]; decide), if_neg hn2.out, if_pos ⟨hX.out, hnd.out⟩, hF.out, hq'.out]
        ·have e3 : (((E3 : Nat) : Int) == ((E2 : Nat) : Int) + 1 + 1) = false := beq_eq_false_iff_ne.2 (by omega)
         try simp only [Int.natCast_add, Int.natCast_one] at e3
         have hdg3 := hid (show dgB (lk s (scF s p)) = true by rw [hF.out]; exact rn_dig s (E2 + 2) (E2 + 2) (Nat.le_refl _) (by rw [hE3.out]; omega))
         have hn3 := hid (show ¬ (scX s p = true ∧ dgB (lk s (scF s p)) = false) from fun h => by rw [hdg3.out] at h; exact Bool.noConfusion h.2)
         obtain ⟨⟨c0, c1, c2, c3⟩, ⟨f0, f1, f2, f3⟩, ⟨d0, d1, d2, d3⟩, g0, g1, g2, g3⟩ := hP.out.facts
         have hx := hid (show scEx s p = s.extract (E2 + 1) E3 by rw [scEx, if_pos hX.out, hC.out, hH.out])
         replace hP := hid (hP.out.set3 (s.extract (E2 + 1) E3))
         clear hq
         go_upto_region 28 with fail
         generalize World.setCell _ ⟨w.heap.size + 1, 3, none⟩ _ = wz at hP ⊢
         clear c0 c1 c2 c3 f0 f1 f2 f3 d0 d1 d2 d3 g0 g1 g2 g3
         obtain ⟨⟨c0, c1, c2, c3⟩, ⟨f0, f1, f2, f3⟩, ⟨d0, d1, d2, d3⟩, g0, g1, g2, g3⟩ := hP.out.facts
         go_wp2
         refine ret_rp rfl rfl hP.out.out.1 rfl ⟨⟨_, _, _, _, _, _, rfl, ?_⟩, hP.out.out.2⟩
         have h := RsT.yes hdA.out hn2.out hn3.out
         rw [← hex.out, ← hbe.out, hNg.out] at h
         rw [hH.out, hx.out] at h
         exact h
       ·have hc' := hid hc
        clear hc
        have hB := hid (show decide (lk s (E2 + 1) = 43 ∨ lk s (E2 + 1) = 45) = false by simpa using hc'.out)
        go_wp2_with fail
        refine Calls.mono (isD_calls s (E2 + 1) _ (by omega) 43 45 (by decide) (by decide) false hB _) ?_
        rintro e' w_42 ⟨rfl, hw⟩
        rw [← hw] at hP
        clear hw
        try clear c0 c1 c2 c3 f0 f1 f2 f3 d0 d1 d2 d3 g0 g1 g2 g3
        clear hB
        have hF := hid (show scF s p = E2 + 1 by rw [scF, hC.out, if_neg hc'.out])
        have hFl : E2 + 1 ≤ s.size := by rw [← hF.out]; exact scF_le s p hX.out
        obtain ⟨E3, hE3⟩ : ∃ QQ, Hid (rn s (E2 + 1) = QQ) := ⟨_, rfl⟩
        have hE3l : E3 ≤ s.size := by rw [← hE3.out]; exact rn_le s _ hFl
        have hE3g : E2 + 1 ≤ E3 := by rw [← hE3.out]; exact rn_ge s _
        have hH := hid (show scH s p = E3 by rw [scH, if_pos hX.out, hF.out, hE3.out])
        go_wp2_with fail
        refine Calls.mono (digits_calls s hs (E2 + 1) _ (by omega) hFl E3 hE3 _) ?_
        rintro e' w_43 ⟨rfl, hw⟩
        rw [← hw] at hP
        clear hw
        try clear c0 c1 c2 c3 f0 f1 f2 f3 d0 d1 d2 d3 g0 g1 g2 g3
        by_cases hq : E3 = E2 + 1
        ·have e3 : (((E3 : Nat) : Int) == ((E2 : Nat) : Int) + 1) = true := by simp; omega
         try simp only [Int.natCast_add, Int.natCast_one] at e3
         have hnd := hid (show dgB (lk s (scF s p)) = false by have h1 := rn_end s (E2 + 1); rw [hE3.out, hq] at h1; rw [hF.out]; exact h1)
         have hq' := hid hq
         clear hq
         obtain ⟨⟨c0, c1, c2, c3⟩, ⟨f0, f1, f2, f3⟩, ⟨d0, d1, d2, d3⟩, g0, g1, g2, g3⟩ := hP.out.facts
         go_wp2
         refine ret_rp rfl rfl hP.out.out.1 rfl ⟨⟨_, _, _, _, _, _, rfl, ?_⟩, hP.out.out.2⟩
         refine RsT.no ?_
         rw [scanS, if_neg (by rw [hdA.out]; decide), if_neg hn2.out, if_pos ⟨hX.out, hnd.out⟩, hF.out, hq'.out]
        ·have e3 : (((E3 : Nat) : Int) == ((E2 : Nat) : Int) + 1) = false := beq_eq_false_iff_ne.2 (by omega)
         try simp only [Int.natCast_add, Int.natCast_one] at e3
         have hdg3 := hid (show dgB (lk s (scF s p)) = true by rw [hF.out]; exact rn_dig s (E2 + 1) (E2 + 1) (Nat.le_refl _) (by rw [hE3.out]; omega))
         have hn3 := hid (show ¬ (scX s p = true ∧ dgB (lk s (scF s p)) = false) from fun h => by rw [hdg3.out] at h; exact Bool.noConfusion h.2)
         obtain ⟨⟨c0, c1, c2, c3⟩, ⟨f0, f1, f2, f3⟩, ⟨d0, d1, d2, d3⟩, g0, g1, g2, g3⟩ := hP.out.facts
         have hx := hid (show scEx s p = s.extract (E2 + 1) E3 by rw [scEx, if_pos hX.out, hC.out, hH.out])
         replace hP := hid (hP.out.set3 (s.extract (E2 + 1) E3))
         clear hq
         go_upto_region 28 with fail
         generalize World.setCell _ ⟨w.heap.size + 1, 3, none⟩ _ = wz at hP ⊢
         clear c0 c1 c2 c3 f0 f1 f2 f3 d0 d1 d2 d3 g0 g1 g2 g3
         obtain ⟨⟨c0, c1, c2, c3⟩, ⟨f0, f1, f2, f3⟩, ⟨d0, d1, d2, d3⟩, g0, g1, g2, g3⟩ := hP.out.facts
         go_wp2
         refine ret_rp rfl rfl hP.out.out.1 rfl ⟨⟨_, _, _, _, _, _, rfl, ?_⟩, hP.out.out.2⟩
         have h := RsT.yes hdA.out hn2.out hn3.out
         rw [← hex.out, ← hbe.out, hNg.out] at h
         rw [hH.out, hx.out] at h
         exact h
      ·have hc' := hid hc
       clear hc
       have hB := hid (show decide (lk s (E2) = 101 ∨ lk s (E2) = 69) = false by simpa using hc'.out)
       go_wp2_with fail
       refine Calls.mono (isD_calls s (E2) _ (by omega) 101 69 (by decide) (by decide) false hB _) ?_
       rintro e' w_44 ⟨rfl, hw⟩
       rw [← hw] at hP
       clear hw
       try clear c0 c1 c2 c3 f0 f1 f2 f3 d0 d1 d2 d3 g0 g1 g2 g3
       clear hB
       have hX := hid (show scX s p = false by rw [scX, hC.out]; simpa using hc'.out)
       clear hc'
       have hn3 := hid (show ¬ (scX s p = true ∧ dgB (lk s (scF s p)) = false) from fun h => by rw [hX.out] at h; exact Bool.noConfusion h.1)
       have hH := hid (show scH s p = E2 by rw [scH, if_neg (by rw [hX.out]; decide), hC.out])
       have hx := hid (show scEx s p = ⟨#[]⟩ by rw [scEx, if_neg (by rw [hX.out]; decide)])
       obtain ⟨⟨c0, c1, c2, c3⟩, ⟨f0, f1, f2, f3⟩, ⟨d0, d1, d2, d3⟩, g0, g1, g2, g3⟩ := hP.out.facts
       go_wp2
       refine ret_rp rfl rfl hP.out.out.1 rfl ⟨⟨_, _, _, _, _, _, rfl, ?_⟩, hP.out.out.2⟩
       have h := RsT.yes hdA.out hn2.out hn3.out
       rw [← hex.out, ← hbe.out, hNg.out] at h
       rw [hH.out, hx.out] at h
       exact h
    ·have hc' := hid hc
     clear hc
     have hB := hid (show decide (lk s (p + 1) = 46 ∨ lk s (p + 1) = 46) = false by simpa using hc'.out)
     go_wp2_with fail
     refine Calls.mono (isD_calls s (p + 1) _ (by omega) 46 46 (by decide) (by decide) false hB _) ?_
     rintro e' w_45 ⟨rfl, hw⟩
     rw [← hw] at hP
     clear hw
     try clear c0 c1 c2 c3 f0 f1 f2 f3 d0 d1 d2 d3 g0 g1 g2 g3
     clear hB
     have hnp := hid (show ¬ lk s (scB s p) = 46 by rw [hB.out]; exact hc'.out)
     clear hc'
     have hC := hid (show scC s p = p + 1 by rw [scC, if_neg hnp.out, hB.out])
     have hn2 := hid (show ¬ (lk s (scB s p) = 46 ∧ dgB (lk s (scB s p + 1)) = false) from fun h => hnp.out h.1)
     have hbe := hid (show (⟨#[]⟩ : ByteArray) = scBe s p by rw [scBe, if_neg hnp.out])
     by_cases hc : lk s (p + 1) = 101 ∨ lk s (p + 1) = 69
     ·have hc' := hid hc
      clear hc
      have hB := hid (show decide (lk s (p + 1) = 101 ∨ lk s (p + 1) = 69) = true by simpa using hc'.out)
      go_wp2_with fail
      refine Calls.mono (isD_calls s (p + 1) _ (by omega) 101 69 (by decide) (by decide) true hB _) ?_
      rintro e' w_46 ⟨rfl, hw⟩
      rw [← hw] at hP
      clear hw
      try clear c0 c1 c2 c3 f0 f1 f2 f3 d0 d1 d2 d3 g0 g1 g2 g3
      clear hB
      have hX := hid (show scX s p = true by rw [scX, hC.out]; simpa using hc'.out)
      have hCl := lk_in (s := s) (i := p + 1) (by have := hc'.out; omega)
      clear hc'
      by_cases hc : lk s (p + 1 + 1) = 43 ∨ lk s (p + 1 + 1) = 45
      ·have hc' := hid hc
       clear hc
       have hB := hid (show decide (lk s (p + 1 + 1) = 43 ∨ lk s (p + 1 + 1) = 45) = true by simpa using hc'.out)
       go_wp2_with fail
       refine Calls.mono (isD_calls s (p + 1 + 1) _ (by omega) 43 45 (by decide) (by decide) true hB _) ?_
       rintro e' w_47 ⟨rfl, hw⟩
       rw [← hw] at hP
       clear hw
       try clear c0 c1 c2 c3 f0 f1 f2 f3 d0 d1 d2 d3 g0 g1 g2 g3
       clear hB
       have hF := hid (show scF s p = p + 1 + 2 by rw [scF, hC.out, if_pos hc'.out])
       have hFl : p + 1 + 2 ≤ s.size := by rw [← hF.out]; exact scF_le s p hX.out
       obtain ⟨E3, hE3⟩ : ∃ QQ, Hid (rn s (p + 1 + 2) = QQ) := ⟨_, rfl⟩
       have hE3l : E3 ≤ s.size := by rw [← hE3.out]; exact rn_le s _ hFl
       have hE3g : p + 1 + 2 ≤ E3 := by rw [← hE3.out]; exact rn_ge s _
       have hH := hid (show scH s p = E3 by rw [scH, if_pos hX.out, hF.out, hE3.out])
       go_wp2_with fail
       refine Calls.mono (digits_calls s hs (p + 1 + 2) _ (by omega) hFl E3 hE3 _) ?_
       rintro e' w_48 ⟨rfl, hw⟩
       rw [← hw] at hP
       clear hw
       try clear c0 c1 c2 c3 f0 f1 f2 f3 d0 d1 d2 d3 g0 g1 g2 g3
       by_cases hq : E3 = p + 1 + 2
       ·have e3 : (((E3 : Nat) : Int) == ((p + 1 : Nat) : Int) + 1 + 1) = true := by simp; omega
        try simp only [Int.natCast_add, Int.natCast_one] at e3
        have hnd := hid (show dgB (lk s (scF s p)) = false by have h1 := rn_end s (p + 1 + 2); rw [hE3.out, hq] at h1; rw [hF.out]; exact h1)
        have hq' := hid hq
        clear hq
        obtain ⟨⟨c0, c1, c2, c3⟩, ⟨f0, f1, f2, f3⟩, ⟨d0, d1, d2, d3⟩, g0, g1, g2, g3⟩ := hP.out.facts
        go_wp2
        refine ret_rp rfl rfl hP.out.out.1 rfl ⟨⟨_, _, _, _, _, _, rfl, ?_⟩, hP.out.out.2⟩
        refine RsT.no ?_
        rw [scanS, if_neg (by rw [hdA.out]; decide), if_neg hn2.out, if_pos ⟨hX.out, hnd.out⟩, hF.out, hq'.out]
       ·have e3 : (((E3 : Nat) : Int) == ((p + 1 : Nat) : Int) + 1 + 1) = false := beq_eq_false_iff_ne.2 (by omega)
        try simp only [Int.natCast_add, Int.natCast_one] at e3
        have hdg3 := hid (show dgB (lk s (scF s p)) = true by rw [hF.out]; exact rn_dig s (p + 1 + 2) (p + 1 + 2) (Nat.le_refl _) (by rw [hE3.out]; omega))
        have hn3 := hid (show ¬ (scX s p = true ∧ dgB (lk s (scF s p)) = false) from fun h => by rw [hdg3.out] at h; exact Bool.noConfusion h.2)
        obtain ⟨⟨c0, c1, c2, c3⟩, ⟨f0, f1, f2, f3⟩, ⟨d0, d1, d2, d3⟩, g0, g1, g2, g3⟩ := hP.out.facts
        have hx := hid (show scEx s p = s.extract (p + 1 + 1) E3 by rw [scEx, if_pos hX.out, hC.out, hH.out])
        replace hP := hid (hP.out.set3 (s.extract (p + 1 + 1) E3))
        clear hq
        go_upto_region 28 with fail
        generalize World.setCell _ ⟨w.heap.size + 1, 3, none⟩ _ = wz at hP ⊢
        clear c0 c1 c2 c3 f0 f1 f2 f3 d0 d1 d2 d3 g0 g1 g2 g3
        obtain ⟨⟨c0, c1, c2, c3⟩, ⟨f0, f1, f2, f3⟩, ⟨d0, d1, d2, d3⟩, g0, g1, g2, g3⟩ := hP.out.facts
        go_wp2
        refine ret_rp rfl rfl hP.out.out.1 rfl ⟨⟨_, _, _, _, _, _, rfl, ?_⟩, hP.out.out.2⟩
        have h := RsT.yes hdA.out hn2.out hn3.out
        rw [← hex.out, ← hbe.out, hNg.out] at h
        rw [hH.out, hx.out] at h
        exact h
      ·have hc' := hid hc
       clear hc
       have hB := hid (show decide (lk s (p + 1 + 1) = 43 ∨ lk s (p + 1 + 1) = 45) = false by simpa using hc'.out)
       go_wp2_with fail
       refine Calls.mono (isD_calls s (p + 1 + 1) _ (by omega) 43 45 (by decide) (by decide) false hB _) ?_
       rintro e' w_49 ⟨rfl, hw⟩
       rw [← hw] at hP
       clear hw
       try clear c0 c1 c2 c3 f0 f1 f2 f3 d0 d1 d2 d3 g0 g1 g2 g3
       clear hB
       have hF := hid (show scF s p = p + 1 + 1 by rw [scF, hC.out, if_neg hc'.out])
       have hFl : p + 1 + 1 ≤ s.size := by rw [← hF.out]; exact scF_le s p hX.out
       obtain ⟨E3, hE3⟩ : ∃ QQ, Hid (rn s (p + 1 + 1) = QQ) := ⟨_, rfl⟩
       have hE3l : E3 ≤ s.size := by rw [← hE3.out]; exact rn_le s _ hFl
       have hE3g : p + 1 + 1 ≤ E3 := by rw [← hE3.out]; exact rn_ge s _
       have hH := hid (show scH s p = E3 by rw [scH, if_pos hX.out, hF.out, hE3.out])
       go_wp2_with fail
       refine Calls.mono (digits_calls s hs (p + 1 + 1) _ (by omega) hFl E3 hE3 _) ?_
       rintro e' w_50 ⟨rfl, hw⟩
       rw [← hw] at hP
       clear hw
       try clear c0 c1 c2 c3 f0 f1 f2 f3 d0 d1 d2 d3 g0 g1 g2 g3
       by_cases hq : E3 = p + 1 + 1
       ·have e3 : (((E3 : Nat) : Int) == ((p + 1 : Nat) : Int) + 1) = true := by simp; omega
        try simp only [Int.natCast_add, Int.natCast_one] at e3
        have hnd := hid (show dgB (lk s (scF s p)) = false by have h1 := rn_end s (p + 1 + 1); rw [hE3.out, hq] at h1; rw [hF.out]; exact h1)
        have hq' := hid hq
        clear hq
        obtain ⟨⟨c0, c1, c2, c3⟩, ⟨f0, f1, f2, f3⟩, ⟨d0, d1, d2, d3⟩, g0, g1, g2, g3⟩ := hP.out.facts
        go_wp2
        refine ret_rp rfl rfl hP.out.out.1 rfl ⟨⟨_, _, _, _, _, _, rfl, ?_⟩, hP.out.out.2⟩
        refine RsT.no ?_
        rw [scanS, if_neg (by rw [hdA.out]; decide), if_neg hn2.out, if_pos ⟨hX.out, hnd.out⟩, hF.out, hq'.out]
       ·have e3 : (((E3 : Nat) : Int) == ((p + 1 : Nat) : Int) + 1) = false := beq_eq_false_iff_ne.2 (by omega)
        try simp only [Int.natCast_add, Int.natCast_one] at e3
        have hdg3 := hid (show dgB (lk s (scF s p)) = true by rw [hF.out]; exact rn_dig s (p + 1 + 1) (p + 1 + 1) (Nat.le_refl _) (by rw [hE3.out]; omega))
        have hn3 := hid (show ¬ (scX s p = true ∧ dgB (lk s (scF s p)) = false) from fun h => by rw [hdg3.out] at h; exact Bool.noConfusion h.2)
        obtain ⟨⟨c0, c1, c2, c3⟩, ⟨f0, f1, f2, f3⟩, ⟨d0, d1, d2, d3⟩, g0, g1, g2, g3⟩ := hP.out.facts
        have hx := hid (show scEx s p = s.extract (p + 1 + 1) E3 by rw [scEx, if_pos hX.out, hC.out, hH.out])
        replace hP := hid (hP.out.set3 (s.extract (p + 1 + 1) E3))
        clear hq
        go_upto_region 28 with fail
        generalize World.setCell _ ⟨w.heap.size + 1, 3, none⟩ _ = wz at hP ⊢
        clear c0 c1 c2 c3 f0 f1 f2 f3 d0 d1 d2 d3 g0 g1 g2 g3
        obtain ⟨⟨c0, c1, c2, c3⟩, ⟨f0, f1, f2, f3⟩, ⟨d0, d1, d2, d3⟩, g0, g1, g2, g3⟩ := hP.out.facts
        go_wp2
        refine ret_rp rfl rfl hP.out.out.1 rfl ⟨⟨_, _, _, _, _, _, rfl, ?_⟩, hP.out.out.2⟩
        have h := RsT.yes hdA.out hn2.out hn3.out
        rw [← hex.out, ← hbe.out, hNg.out] at h
        rw [hH.out, hx.out] at h
        exact h
     ·have hc' := hid hc
      clear hc
      have hB := hid (show decide (lk s (p + 1) = 101 ∨ lk s (p + 1) = 69) = false by simpa using hc'.out)
      go_wp2_with fail
      refine Calls.mono (isD_calls s (p + 1) _ (by omega) 101 69 (by decide) (by decide) false hB _) ?_
      rintro e' w_51 ⟨rfl, hw⟩
      rw [← hw] at hP
      clear hw
      try clear c0 c1 c2 c3 f0 f1 f2 f3 d0 d1 d2 d3 g0 g1 g2 g3
      clear hB
      have hX := hid (show scX s p = false by rw [scX, hC.out]; simpa using hc'.out)
      clear hc'
      have hn3 := hid (show ¬ (scX s p = true ∧ dgB (lk s (scF s p)) = false) from fun h => by rw [hX.out] at h; exact Bool.noConfusion h.1)
      have hH := hid (show scH s p = p + 1 by rw [scH, if_neg (by rw [hX.out]; decide), hC.out])
      have hx := hid (show scEx s p = ⟨#[]⟩ by rw [scEx, if_neg (by rw [hX.out]; decide)])
      obtain ⟨⟨c0, c1, c2, c3⟩, ⟨f0, f1, f2, f3⟩, ⟨d0, d1, d2, d3⟩, g0, g1, g2, g3⟩ := hP.out.facts
      go_wp2
      refine ret_rp rfl rfl hP.out.out.1 rfl ⟨⟨_, _, _, _, _, _, rfl, ?_⟩, hP.out.out.2⟩
      have h := RsT.yes hdA.out hn2.out hn3.out
      rw [← hex.out, ← hbe.out, hNg.out] at h
      rw [hH.out, hx.out] at h
      exact h
   ·have g48 : ((y : Int) == 48) = false := beq_eq_false_iff_ne.2 (by omega)
    have hB := hid (show scB s p = E by rw [scB, hA.out, hly.out, if_neg h48, hE.out])
    clear h48
    obtain ⟨⟨c0, c1, c2, c3⟩, ⟨f0, f1, f2, f3⟩, ⟨d0, d1, d2, d3⟩, g0, g1, g2, g3⟩ := hP.out.facts
    have hex := hid (show s.extract (p) (E) = s.extract (scA s p) (scB s p) by rw [hA.out, hB.out])
    replace hP := hid (hP.out.set1 (s.extract (p) (E)))
    have hBl : E ≤ s.size := by omega
    by_cases hc : lk s (E) = 46
    ·have hc' := hid hc
     clear hc
     have hB := hid (show decide (lk s (E) = 46 ∨ lk s (E) = 46) = true by simpa using hc'.out)
     go_wp2_with fail
     refine Calls.mono (isD_calls s (E) _ (by omega) 46 46 (by decide) (by decide) true hB _) ?_
     rintro e' w_52 ⟨rfl, hw⟩
     rw [← hw] at hP
     clear hw
     try clear c0 c1 c2 c3 f0 f1 f2 f3 d0 d1 d2 d3 g0 g1 g2 g3
     clear hB
     have hpt := hid (show lk s (scB s p) = 46 by rw [hB.out]; exact hc'.out)
     have hBl2 := lk_in (s := s) (i := E) (by rw [hc'.out]; decide)
     clear hc'
     obtain ⟨E2, hE2⟩ : ∃ QQ, Hid (rn s (E + 1) = QQ) := ⟨_, rfl⟩
     have hE2l : E2 ≤ s.size := by rw [← hE2.out]; exact rn_le s _ (by omega)
     have hE2g : E + 1 ≤ E2 := by rw [← hE2.out]; exact rn_ge s _
     have hC := hid (show scC s p = E2 by rw [scC, if_pos hpt.out, hB.out, hE2.out])
     go_wp2_with fail
     refine Calls.mono (digits_calls s hs (E + 1) _ (by omega) (by omega) E2 hE2 _) ?_
     rintro e' w_53 ⟨rfl, hw⟩
     rw [← hw] at hP
     clear hw
     try clear c0 c1 c2 c3 f0 f1 f2 f3 d0 d1 d2 d3 g0 g1 g2 g3
     by_cases hq : E2 = E + 1
     ·have e2 : (((E2 : Nat) : Int) == ((E + 1 : Nat) : Int)) = true := by simp [hq]
      try simp only [Int.natCast_add, Int.natCast_one] at e2
      have hnd := hid (show dgB (lk s (scB s p + 1)) = false by have h1 := rn_end s (E + 1); rw [hE2.out, hq] at h1; rw [hB.out]; exact h1)
      have hq' := hid hq
      clear hq
      obtain ⟨⟨c0, c1, c2, c3⟩, ⟨f0, f1, f2, f3⟩, ⟨d0, d1, d2, d3⟩, g0, g1, g2, g3⟩ := hP.out.facts
      go_wp2
      refine ret_rp rfl rfl hP.out.out.1 rfl ⟨⟨_, _, _, _, _, _, rfl, ?_⟩, hP.out.out.2⟩
      refine RsT.no ?_
      rw [scanS, if_neg (by rw [hdA.out]; decide), if_pos ⟨hpt.out, hnd.out⟩, hB.out, hq'.out]
     ·have e2 : (((E2 : Nat) : Int) == ((E + 1 : Nat) : Int)) = false := beq_eq_false_iff_ne.2 (by omega)
      try simp only [Int.natCast_add, Int.natCast_one] at e2
      have hdg := hid (show dgB (lk s (scB s p + 1)) = true by rw [hB.out]; exact rn_dig s (E + 1) (E + 1) (Nat.le_refl _) (by rw [hE2.out]; omega))
      obtain ⟨⟨c0, c1, c2, c3⟩, ⟨f0, f1, f2, f3⟩, ⟨d0, d1, d2, d3⟩, g0, g1, g2, g3⟩ := hP.out.facts
      have hn2 := hid (show ¬ (lk s (scB s p) = 46 ∧ dgB (lk s (scB s p + 1)) = false) from fun h => by rw [hdg.out] at h; exact Bool.noConfusion h.2)
      have hbe := hid (show s.extract (E + 1) E2 = scBe s p by rw [scBe, if_pos hpt.out, hB.out, hC.out])
      replace hP := hid (hP.out.set2 (s.extract (E + 1) E2))
      clear hq
      by_cases hc : lk s (E2) = 101 ∨ lk s (E2) = 69
      ·have hc' := hid hc
       clear hc
       have hB := hid (show decide (lk s (E2) = 101 ∨ lk s (E2) = 69) = true by simpa using hc'.out)
       go_wp2_with fail
       refine Calls.mono (isD_calls s (E2) _ (by omega) 101 69 (by decide) (by decide) true hB _) ?_
       rintro e' w_54 ⟨rfl, hw⟩
       rw [← hw] at hP
       clear hw
       try clear c0 c1 c2 c3 f0 f1 f2 f3 d0 d1 d2 d3 g0 g1 g2 g3
       clear hB
       have hX := hid (show scX s p = true by rw [scX, hC.out]; simpa using hc'.out)
       have hCl := lk_in (s := s) (i := E2) (by have := hc'.out; omega)
       clear hc'
       by_cases hc : lk s (E2 + 1) = 43 ∨ lk s (E2 + 1) = 45
       ·have hc' := hid hc
        clear hc
        have hB := hid (show decide (lk s (E2 + 1) = 43 ∨ lk s (E2 + 1) = 45) = true by simpa using hc'.out)
        go_wp2_with fail
        refine Calls.mono (isD_calls s (E2 + 1) _ (by omega) 43 45 (by decide) (by decide) true hB _) ?_
        rintro e' w_55 ⟨rfl, hw⟩
        rw [← hw] at hP
        clear hw
        try clear c0 c1 c2 c3 f0 f1 f2 f3 d0 d1 d2 d3 g0 g1 g2 g3
        clear hB
        have hF := hid (show scF s p = E2 + 2 by rw [scF, hC.out, if_pos hc'.out])
        have hFl : E2 + 2 ≤ s.size := by rw [← hF.out]; exact scF_le s p hX.out
        obtain ⟨E3, hE3⟩ : ∃ QQ, Hid (rn s (E2 + 2) = QQ) := ⟨_, rfl⟩
        have hE3l : E3 ≤ s.size := by rw [← hE3.out]; exact rn_le s _ hFl
        have hE3g : E2 + 2 ≤ E3 := by rw [← hE3.out]; exact rn_ge s _
        have hH := hid (show scH s p = E3 by rw [scH, if_pos hX.out, hF.out, hE3.out])
        go_wp2_with fail
        refine Calls.mono (digits_calls s hs (E2 + 2) _ (by omega) hFl E3 hE3 _) ?_
        rintro e' w_56 ⟨rfl, hw⟩
        rw [← hw] at hP
        clear hw
        try clear c0 c1 c2 c3 f0 f1 f2 f3 d0 d1 d2 d3 g0 g1 g2 g3
        by_cases hq : E3 = E2 + 2
        ·have e3 : (((E3 : Nat) : Int) == ((E2 : Nat) : Int) + 1 + 1) = true := by simp; omega
         try simp only [Int.natCast_add, Int.natCast_one] at e3
         have hnd := hid (show dgB (lk s (scF s p)) = false by have h1 := rn_end s (E2 + 2); rw [hE3.out, hq] at h1; rw [hF.out]; exact h1)
         have hq' := hid hq
         clear hq
         obtain ⟨⟨c0, c1, c2, c3⟩, ⟨f0, f1, f2, f3⟩, ⟨d0, d1, d2, d3⟩, g0, g1, g2, g3⟩ := hP.out.facts
         go_wp2
         refine ret_rp rfl rfl hP.out.out.1 rfl ⟨⟨_, _, _, _, _, _, rfl, ?_⟩, hP.out.out.2⟩
         refine RsT.no ?_
         rw [scanS, if_neg (by rw [hdA.out]; decide), if_neg hn2.out, if_pos ⟨hX.out, hnd.out⟩, hF.out, hq'.out]
        ·have e3 : (((E3 : Nat) : Int) == ((E2 : Nat) : Int) + 1 + 1) = false := beq_eq_false_iff_ne.2 (by omega)
         try simp only [Int.natCast_add, Int.natCast_one] at e3
         have hdg3 := hid (show dgB (lk s (scF s p)) = true by rw [hF.out]; exact rn_dig s (E2 + 2) (E2 + 2) (Nat.le_refl _) (by rw [hE3.out]; omega))
         have hn3 := hid (show ¬ (scX s p = true ∧ dgB (lk s (scF s p)) = false) from fun h => by rw [hdg3.out] at h; exact Bool.noConfusion h.2)
         obtain ⟨⟨c0, c1, c2, c3⟩, ⟨f0, f1, f2, f3⟩, ⟨d0, d1, d2, d3⟩, g0, g1, g2, g3⟩ := hP.out.facts
         have hx := hid (show scEx s p = s.extract (E2 + 1) E3 by rw [scEx, if_pos hX.out, hC.out, hH.out])
         replace hP := hid (hP.out.set3 (s.extract (E2 + 1) E3))
         clear hq
         go_upto_region 28 with fail
         generalize World.setCell _ ⟨w.heap.size + 1, 3, none⟩ _ = wz at hP ⊢
         clear c0 c1 c2 c3 f0 f1 f2 f3 d0 d1 d2 d3 g0 g1 g2 g3
         obtain ⟨⟨c0, c1, c2, c3⟩, ⟨f0, f1, f2, f3⟩, ⟨d0, d1, d2, d3⟩, g0, g1, g2, g3⟩ := hP.out.facts
         go_wp2
         refine ret_rp rfl rfl hP.out.out.1 rfl ⟨⟨_, _, _, _, _, _, rfl, ?_⟩, hP.out.out.2⟩
         have h := RsT.yes hdA.out hn2.out hn3.out
         rw [← hex.out, ← hbe.out, hNg.out] at h
         rw [hH.out, hx.out] at h
         exact h
       ·have hc' := hid hc
        clear hc
        have hB := hid (show decide (lk s (E2 + 1) = 43 ∨ lk s (E2 + 1) = 45) = false by simpa using hc'.out)
        go_wp2_with fail
        refine Calls.mono (isD_calls s (E2 + 1) _ (by omega) 43 45 (by decide) (by decide) false hB _) ?_
        rintro e' w_57 ⟨rfl, hw⟩
        rw [← hw] at hP
        clear hw
        try clear c0 c1 c2 c3 f0 f1 f2 f3 d0 d1 d2 d3 g0 g1 g2 g3
        clear hB
        have hF := hid (show scF s p = E2 + 1 by rw [scF, hC.out, if_neg hc'.out])
        have hFl : E2 + 1 ≤ s.size := by rw [← hF.out]; exact scF_le s p hX.out
        obtain ⟨E3, hE3⟩ : ∃ QQ, Hid (rn s (E2 + 1) = QQ) := ⟨_, rfl⟩
        have hE3l : E3 ≤ s.size := by rw [← hE3.out]; exact rn_le s _ hFl
        have hE3g : E2 + 1 ≤ E3 := by rw [← hE3.out]; exact rn_ge s _
        have hH := hid (show scH s p = E3 by rw [scH, if_pos hX.out, hF.out, hE3.out])
        go_wp2_with fail
        refine Calls.mono (digits_calls s hs (E2 + 1) _ (by omega) hFl E3 hE3 _) ?_
        rintro e' w_58 ⟨rfl, hw⟩
        rw [← hw] at hP
        clear hw
        try clear c0 c1 c2 c3 f0 f1 f2 f3 d0 d1 d2 d3 g0 g1 g2 g3
        by_cases hq : E3 = E2 + 1
        ·have e3 : (((E3 : Nat) : Int) == ((E2 : Nat) : Int) + 1) = true := by simp; omega
         try simp only [Int.natCast_add, Int.natCast_one] at e3
         have hnd := hid (show dgB (lk s (scF s p)) = false by have h1 := rn_end s (E2 + 1); rw [hE3.out, hq] at h1; rw [hF.out]; exact h1)
         have hq' := hid hq
         clear hq
         obtain ⟨⟨c0, c1, c2, c3⟩, ⟨f0, f1, f2, f3⟩, ⟨d0, d1, d2, d3⟩, g0, g1, g2, g3⟩ := hP.out.facts
         go_wp2
         refine ret_rp rfl rfl hP.out.out.1 rfl ⟨⟨_, _, _, _, _, _, rfl, ?_⟩, hP.out.out.2⟩
         refine RsT.no ?_
         rw [scanS, if_neg (by rw [hdA.out]; decide), if_neg hn2.out, if_pos ⟨hX.out, hnd.out⟩, hF.out, hq'.out]
        ·have e3 : (((E3 : Nat) : Int) == ((E2 : Nat) : Int) + 1) = false := beq_eq_false_iff_ne.2 (by omega)
         try simp only [Int.natCast_add, Int.natCast_one] at e3
         have hdg3 := hid (show dgB (lk s (scF s p)) = true by rw [hF.out]; exact rn_dig s (E2 + 1) (E2 + 1) (Nat.le_refl _) (by rw [hE3.out]; omega))
         have hn3 := hid (show ¬ (scX s p = true ∧ dgB (lk s (scF s p)) = false) from fun h => by rw [hdg3.out] at h; exact Bool.noConfusion h.2)
         obtain ⟨⟨c0, c1, c2, c3⟩, ⟨f0, f1, f2, f3⟩, ⟨d0, d1, d2, d3⟩, g0, g1, g2, g3⟩ := hP.out.facts
         have hx := hid (show scEx s p = s.extract (E2 + 1) E3 by rw [scEx, if_pos hX.out, hC.out, hH.out])
         replace hP := hid (hP.out.set3 (s.extract (E2 + 1) E3))
         clear hq
         go_upto_region 28 with fail
         generalize World.setCell _ ⟨w.heap.size + 1, 3, none⟩ _ = wz at hP ⊢
         clear c0 c1 c2 c3 f0 f1 f2 f3 d0 d1 d2 d3 g0 g1 g2 g3
         obtain ⟨⟨c0, c1, c2, c3⟩, ⟨f0, f1, f2, f3⟩, ⟨d0, d1, d2, d3⟩, g0, g1, g2, g3⟩ := hP.out.facts
         go_wp2
         refine ret_rp rfl rfl hP.out.out.1 rfl ⟨⟨_, _, _, _, _, _, rfl, ?_⟩, hP.out.out.2⟩
         have h := RsT.yes hdA.out hn2.out hn3.out
         rw [← hex.out, ← hbe.out, hNg.out] at h
         rw [hH.out, hx.out] at h
         exact h
      ·have hc' := hid hc
       clear hc
       have hB := hid (show decide (lk s (E2) = 101 ∨ lk s (E2) = 69) = false by simpa using hc'.out)
       go_wp2_with fail
       refine Calls.mono (isD_calls s (E2) _ (by omega) 101 69 (by decide) (by decide) false hB _) ?_
       rintro e' w_59 ⟨rfl, hw⟩
       rw [← hw] at hP
       clear hw
       try clear c0 c1 c2 c3 f0 f1 f2 f3 d0 d1 d2 d3 g0 g1 g2 g3
       clear hB
       have hX := hid (show scX s p = false by rw [scX, hC.out]; simpa using hc'.out)
       clear hc'
       have hn3 := hid (show ¬ (scX s p = true ∧ dgB (lk s (scF s p)) = false) from fun h => by rw [hX.out] at h; exact Bool.noConfusion h.1)
       have hH := hid (show scH s p = E2 by rw [scH, if_neg (by rw [hX.out]; decide), hC.out])
       have hx := hid (show scEx s p = ⟨#[]⟩ by rw [scEx, if_neg (by rw [hX.out]; decide)])
       obtain ⟨⟨c0, c1, c2, c3⟩, ⟨f0, f1, f2, f3⟩, ⟨d0, d1, d2, d3⟩, g0, g1, g2, g3⟩ := hP.out.facts
       go_wp2
       refine ret_rp rfl rfl hP.out.out.1 rfl ⟨⟨_, _, _, _, _, _, rfl, ?_⟩, hP.out.out.2⟩
       have h := RsT.yes hdA.out hn2.out hn3.out
       rw [← hex.out, ← hbe.out, hNg.out] at h
       rw [hH.out, hx.out] at h
       exact h
    ·have hc' := hid hc
     clear hc
     have hB := hid (show decide (lk s (E) = 46 ∨ lk s (E) = 46) = false by simpa using hc'.out)
     go_wp2_with fail
     refine Calls.mono (isD_calls s (E) _ (by omega) 46 46 (by decide) (by decide) false hB _) ?_
     rintro e' w_60 ⟨rfl, hw⟩
     rw [← hw] at hP
     clear hw
     try clear c0 c1 c2 c3 f0 f1 f2 f3 d0 d1 d2 d3 g0 g1 g2 g3
     clear hB
     have hnp := hid (show ¬ lk s (scB s p) = 46 by rw [hB.out]; exact hc'.out)
     clear hc'
     have hC := hid (show scC s p = E by rw [scC, if_neg hnp.out, hB.out])
     have hn2 := hid (show ¬ (lk s (scB s p) = 46 ∧ dgB (lk s (scB s p + 1)) = false) from fun h => hnp.out h.1)
     have hbe := hid (show (⟨#[]⟩ : ByteArray) = scBe s p by rw [scBe, if_neg hnp.out])
     by_cases hc : lk s (E) = 101 ∨ lk s (E) = 69
     ·have hc' := hid hc
      clear hc
      have hB := hid (show decide (lk s (E) = 101 ∨ lk s (E) = 69) = true by simpa using hc'.out)
      go_wp2_with fail
      refine Calls.mono (isD_calls s (E) _ (by omega) 101 69 (by decide) (by decide) true hB _) ?_
      rintro e' w_61 ⟨rfl, hw⟩
      rw [← hw] at hP
      clear hw
      try clear c0 c1 c2 c3 f0 f1 f2 f3 d0 d1 d2 d3 g0 g1 g2 g3
      clear hB
      have hX := hid (show scX s p = true by rw [scX, hC.out]; simpa using hc'.out)
      have hCl := lk_in (s := s) (i := E) (by have := hc'.out; omega)
      clear hc'
      by_cases hc : lk s (E + 1) = 43 ∨ lk s (E + 1) = 45
      ·have hc' := hid hc
       clear hc
       have hB := hid (show decide (lk s (E + 1) = 43 ∨ lk s (E + 1) = 45) = true by simpa using hc'.out)
       go_wp2_with fail
       refine Calls.mono (isD_calls s (E + 1) _ (by omega) 43 45 (by decide) (by decide) true hB _) ?_
       rintro e' w_62 ⟨rfl, hw⟩
       rw [← hw] at hP
       clear hw
       try clear c0 c1 c2 c3 f0 f1 f2 f3 d0 d1 d2 d3 g0 g1 g2 g3
       clear hB
       have hF := hid (show scF s p = E + 2 by rw [scF, hC.out, if_pos hc'.out])
       have hFl : E + 2 ≤ s.size := by rw [← hF.out]; exact scF_le s p hX.out
       obtain ⟨E3, hE3⟩ : ∃ QQ, Hid (rn s (E + 2) = QQ) := ⟨_, rfl⟩
       have hE3l : E3 ≤ s.size := by rw [← hE3.out]; exact rn_le s _ hFl
       have hE3g : E + 2 ≤ E3 := by rw [← hE3.out]; exact rn_ge s _
       have hH := hid (show scH s p = E3 by rw [scH, if_pos hX.out, hF.out, hE3.out])
       go_wp2_with fail
       refine Calls.mono (digits_calls s hs (E + 2) _ (by omega) hFl E3 hE3 _) ?_
       rintro e' w_63 ⟨rfl, hw⟩
       rw [← hw] at hP
       clear hw
       try clear c0 c1 c2 c3 f0 f1 f2 f3 d0 d1 d2 d3 g0 g1 g2 g3
       by_cases hq : E3 = E + 2
       ·have e3 : (((E3 : Nat) : Int) == ((E : Nat) : Int) + 1 + 1) = true := by simp; omega
        try simp only [Int.natCast_add, Int.natCast_one] at e3
        have hnd := hid (show dgB (lk s (scF s p)) = false by have h1 := rn_end s (E + 2); rw [hE3.out, hq] at h1; rw [hF.out]; exact h1)
        have hq' := hid hq
        clear hq
        obtain ⟨⟨c0, c1, c2, c3⟩, ⟨f0, f1, f2, f3⟩, ⟨d0, d1, d2, d3⟩, g0, g1, g2, g3⟩ := hP.out.facts
        go_wp2
        refine ret_rp rfl rfl hP.out.out.1 rfl ⟨⟨_, _, _, _, _, _, rfl, ?_⟩, hP.out.out.2⟩
        refine RsT.no ?_
        rw [scanS, if_neg (by rw [hdA.out]; decide), if_neg hn2.out, if_pos ⟨hX.out, hnd.out⟩, hF.out, hq'.out]
       ·have e3 : (((E3 : Nat) : Int) == ((E : Nat) : Int) + 1 + 1) = false := beq_eq_false_iff_ne.2 (by omega)
        try simp only [Int.natCast_add, Int.natCast_one] at e3
        have hdg3 := hid (show dgB (lk s (scF s p)) = true by rw [hF.out]; exact rn_dig s (E + 2) (E + 2) (Nat.le_refl _) (by rw [hE3.out]; omega))
        have hn3 := hid (show ¬ (scX s p = true ∧ dgB (lk s (scF s p)) = false) from fun h => by rw [hdg3.out] at h; exact Bool.noConfusion h.2)
        obtain ⟨⟨c0, c1, c2, c3⟩, ⟨f0, f1, f2, f3⟩, ⟨d0, d1, d2, d3⟩, g0, g1, g2, g3⟩ := hP.out.facts
        have hx := hid (show scEx s p = s.extract (E + 1) E3 by rw [scEx, if_pos hX.out, hC.out, hH.out])
        replace hP := hid (hP.out.set3 (s.extract (E + 1) E3))
        clear hq
        go_upto_region 28 with fail
        generalize World.setCell _ ⟨w.heap.size + 1, 3, none⟩ _ = wz at hP ⊢
        clear c0 c1 c2 c3 f0 f1 f2 f3 d0 d1 d2 d3 g0 g1 g2 g3
        obtain ⟨⟨c0, c1, c2, c3⟩, ⟨f0, f1, f2, f3⟩, ⟨d0, d1, d2, d3⟩, g0, g1, g2, g3⟩ := hP.out.facts
        go_wp2
        refine ret_rp rfl rfl hP.out.out.1 rfl ⟨⟨_, _, _, _, _, _, rfl, ?_⟩, hP.out.out.2⟩
        have h := RsT.yes hdA.out hn2.out hn3.out
        rw [← hex.out, ← hbe.out, hNg.out] at h
        rw [hH.out, hx.out] at h
        exact h
      ·have hc' := hid hc
       clear hc
       have hB := hid (show decide (lk s (E + 1) = 43 ∨ lk s (E + 1) = 45) = false by simpa using hc'.out)
       go_wp2_with fail
       refine Calls.mono (isD_calls s (E + 1) _ (by omega) 43 45 (by decide) (by decide) false hB _) ?_
       rintro e' w_64 ⟨rfl, hw⟩
       rw [← hw] at hP
       clear hw
       try clear c0 c1 c2 c3 f0 f1 f2 f3 d0 d1 d2 d3 g0 g1 g2 g3
       clear hB
       have hF := hid (show scF s p = E + 1 by rw [scF, hC.out, if_neg hc'.out])
       have hFl : E + 1 ≤ s.size := by rw [← hF.out]; exact scF_le s p hX.out
       obtain ⟨E3, hE3⟩ : ∃ QQ, Hid (rn s (E + 1) = QQ) := ⟨_, rfl⟩
       have hE3l : E3 ≤ s.size := by rw [← hE3.out]; exact rn_le s _ hFl
       have hE3g : E + 1 ≤ E3 := by rw [← hE3.out]; exact rn_ge s _
       have hH := hid (show scH s p = E3 by rw [scH, if_pos hX.out, hF.out, hE3.out])
       go_wp2_with fail
       refine Calls.mono (digits_calls s hs (E + 1) _ (by omega) hFl E3 hE3 _) ?_
       rintro e' w_65 ⟨rfl, hw⟩
       rw [← hw] at hP
       clear hw
       try clear c0 c1 c2 c3 f0 f1 f2 f3 d0 d1 d2 d3 g0 g1 g2 g3
       by_cases hq : E3 = E + 1
       ·have e3 : (((E3 : Nat) : Int) == ((E : Nat) : Int) + 1) = true := by simp; omega
        try simp only [Int.natCast_add, Int.natCast_one] at e3
        have hnd := hid (show dgB (lk s (scF s p)) = false by have h1 := rn_end s (E + 1); rw [hE3.out, hq] at h1; rw [hF.out]; exact h1)
        have hq' := hid hq
        clear hq
        obtain ⟨⟨c0, c1, c2, c3⟩, ⟨f0, f1, f2, f3⟩, ⟨d0, d1, d2, d3⟩, g0, g1, g2, g3⟩ := hP.out.facts
        go_wp2
        refine ret_rp rfl rfl hP.out.out.1 rfl ⟨⟨_, _, _, _, _, _, rfl, ?_⟩, hP.out.out.2⟩
        refine RsT.no ?_
        rw [scanS, if_neg (by rw [hdA.out]; decide), if_neg hn2.out, if_pos ⟨hX.out, hnd.out⟩, hF.out, hq'.out]
       ·have e3 : (((E3 : Nat) : Int) == ((E : Nat) : Int) + 1) = false := beq_eq_false_iff_ne.2 (by omega)
        try simp only [Int.natCast_add, Int.natCast_one] at e3
        have hdg3 := hid (show dgB (lk s (scF s p)) = true by rw [hF.out]; exact rn_dig s (E + 1) (E + 1) (Nat.le_refl _) (by rw [hE3.out]; omega))
        have hn3 := hid (show ¬ (scX s p = true ∧ dgB (lk s (scF s p)) = false) from fun h => by rw [hdg3.out] at h; exact Bool.noConfusion h.2)
        obtain ⟨⟨c0, c1, c2, c3⟩, ⟨f0, f1, f2, f3⟩, ⟨d0, d1, d2, d3⟩, g0, g1, g2, g3⟩ := hP.out.facts
        have hx := hid (show scEx s p = s.extract (E + 1) E3 by rw [scEx, if_pos hX.out, hC.out, hH.out])
        replace hP := hid (hP.out.set3 (s.extract (E + 1) E3))
        clear hq
        go_upto_region 28 with fail
        generalize World.setCell _ ⟨w.heap.size + 1, 3, none⟩ _ = wz at hP ⊢
        clear c0 c1 c2 c3 f0 f1 f2 f3 d0 d1 d2 d3 g0 g1 g2 g3
        obtain ⟨⟨c0, c1, c2, c3⟩, ⟨f0, f1, f2, f3⟩, ⟨d0, d1, d2, d3⟩, g0, g1, g2, g3⟩ := hP.out.facts
        go_wp2
        refine ret_rp rfl rfl hP.out.out.1 rfl ⟨⟨_, _, _, _, _, _, rfl, ?_⟩, hP.out.out.2⟩
        have h := RsT.yes hdA.out hn2.out hn3.out
        rw [← hex.out, ← hbe.out, hNg.out] at h
        rw [hH.out, hx.out] at h
        exact h
     ·have hc' := hid hc
      clear hc
      have hB := hid (show decide (lk s (E) = 101 ∨ lk s (E) = 69) = false by simpa using hc'.out)
      go_wp2_with fail
      refine Calls.mono (isD_calls s (E) _ (by omega) 101 69 (by decide) (by decide) false hB _) ?_
      rintro e' w_66 ⟨rfl, hw⟩
      rw [← hw] at hP
      clear hw
      try clear c0 c1 c2 c3 f0 f1 f2 f3 d0 d1 d2 d3 g0 g1 g2 g3
      clear hB
      have hX := hid (show scX s p = false by rw [scX, hC.out]; simpa using hc'.out)
      clear hc'
      have hn3 := hid (show ¬ (scX s p = true ∧ dgB (lk s (scF s p)) = false) from fun h => by rw [hX.out] at h; exact Bool.noConfusion h.1)
      have hH := hid (show scH s p = E by rw [scH, if_neg (by rw [hX.out]; decide), hC.out])
      have hx := hid (show scEx s p = ⟨#[]⟩ by rw [scEx, if_neg (by rw [hX.out]; decide)])
      obtain ⟨⟨c0, c1, c2, c3⟩, ⟨f0, f1, f2, f3⟩, ⟨d0, d1, d2, d3⟩, g0, g1, g2, g3⟩ := hP.out.facts
      go_wp2
      refine ret_rp rfl rfl hP.out.out.1 rfl ⟨⟨_, _, _, _, _, _, rfl, ?_⟩, hP.out.out.2⟩
      have h := RsT.yes hdA.out hn2.out hn3.out
      rw [← hex.out, ← hbe.out, hNg.out] at h
      rw [hH.out, hx.out] at h
      exact h
end Go.Proofs.YtlhbgfhmcjaabaaGreatDoor

/-
 What the reference's Read and Of answer: the same.
-/
namespace Go.Proofs.YtlhbgfhmcjaabaaGreatDoor
open Go.RowKit Go.Shelf
/-- What the reference reckons of a number's text: the digits behind a sign, or none. -/
theorem rs_pw (s : ByteArray) : ∀ i, i ≤ s.size → (∀ j, j < s.size → dgB (lk s j) = true) → (pwN (s.data.toList.take i) ≤ 1000000000000000 → rsF s i = pwN (s.data.toList.take i)) ∧ (1000000000000000 < pwN (s.data.toList.take i) → 1000000000000000 < rsF s i)
 | 0, _, _ => ⟨fun _ => rfl, fun h => by simp [pwN] at h⟩
 | i + 1, h, hd => by
  obtain ⟨h1, h2⟩ := rs_pw s i (by omega) hd
  rw [pw_take s i (by omega)]
  have hdi := hd i (by omega)
  have h3 := (dgB_iff _).1 hdi
  show (_ → (if dgB (lk s i) = true ∧ rsF s i ≤ 1000000000000000 then 10 * rsF s i + (lk s i - 48) else rsF s i) = _) ∧ (_ → _ < (if dgB (lk s i) = true ∧ rsF s i ≤ 1000000000000000 then 10 * rsF s i + (lk s i - 48) else rsF s i))
  by_cases h4 : pwN (s.data.toList.take i) ≤ 1000000000000000
  ·rw [h1 h4, if_pos ⟨hdi, h4⟩]
   exact ⟨fun _ => rfl, fun h => h⟩
  ·have h5 := h2 (by omega)
   rw [if_neg (fun h => by omega)]
   exact ⟨fun h => by omega, fun _ => h5⟩
theorem take_all (s : ByteArray) : s.data.toList.take s.size = s.data.toList := List.take_of_length_le (by rw [size_list]; exact Nat.le_refl _)
/-- Of digits alone. -/
theorem rs_plain (s : ByteArray) (hd : ∀ j, j < s.size → dgB (lk s j) = true) : (pwN s.data.toList ≤ 1000000000000000 → rsF s s.size = pwN s.data.toList) ∧ (1000000000000000 < pwN s.data.toList → 1000000000000000 < rsF s s.size) := by
 have := rs_pw s s.size (Nat.le_refl _) hd
 rwa [take_all] at this
theorem rsN_no (s : ByteArray) (h : ∀ j, j < s.size → lk s j ≠ 45) : ∀ i, i ≤ s.size → rsN s i = false
 | 0, _ => rfl
 | i + 1, hi => by
  show (rsN s i || decide (lk s i = 45)) = false
  rw [rsN_no s h i (by omega), decide_eq_false (h i (by omega))]
  rfl
/-- With one byte ahead that is no digit. -/
theorem rs_shift (s t : ByteArray) (hz : s.size = t.size + 1) (h0 : dgB (lk s 0) = false) (hl : ∀ j, j < t.size → lk s (j + 1) = lk t j) : ∀ i, i ≤ t.size → rsF s (i + 1) = rsF t i ∧ rsN s (i + 1) = (decide (lk s 0 = 45) || rsN t i)
 | 0, _ => by
  refine ⟨?_, ?_⟩
  ·show (if dgB (lk s 0) = true ∧ (0 : Nat) ≤ 1000000000000000 then 10 * 0 + (lk s 0 - 48) else 0) = 0
   rw [if_neg (fun h => by rw [h0] at h; exact Bool.noConfusion h.1)]
  ·show (false || decide (lk s 0 = 45)) = (decide (lk s 0 = 45) || false)
   simp
 | i + 1, h => by
  obtain ⟨h1, h2⟩ := rs_shift s t hz h0 hl i (by omega)
  have h3 := hl i (by omega)
  refine ⟨?_, ?_⟩
  ·show (if dgB (lk s (i + 1)) = true ∧ rsF s (i + 1) ≤ 1000000000000000 then 10 * rsF s (i + 1) + (lk s (i + 1) - 48) else rsF s (i + 1)) = (if dgB (lk t i) = true ∧ rsF t i ≤ 1000000000000000 then 10 * rsF t i + (lk t i - 48) else rsF t i)
   rw [h1, h3]
  ·show (rsN s (i + 1) || decide (lk s (i + 1) = 45)) = (decide (lk s 0 = 45) || (rsN t i || decide (lk t i = 45)))
   rw [h2, h3, Bool.or_assoc]
theorem dg_ne {x : Nat} (h : dgB x = true) : x ≠ 45 := by have := (dgB_iff x).1 h; omega
theorem ext_shift (s : ByteArray) (C H : Nat) (hH : H ≤ s.size) (j : Nat) (hj : j < (s.extract (C + 2) H).size) : lk (s.extract (C + 1) H) (j + 1) = lk (s.extract (C + 2) H) j := by
 rw [ByteArray.size_extract] at hj
 rw [lk_extract s (C + 1) H (j + 1) (by omega) hH, lk_extract s (C + 2) H j (by omega) hH]
 have h : C + 1 + (j + 1) = C + 2 + j := by omega
 rw [h]
theorem ext_sizeD (s : ByteArray) (C H : Nat) (hH : H ≤ s.size) (hC : C + 2 ≤ H) : (s.extract (C + 1) H).size = (s.extract (C + 2) H).size + 1 := by
 rw [ByteArray.size_extract, ByteArray.size_extract]; omega
/-- The exponent, as the reference reckons it, is the same, or beyond all bounds on the same side. -/
theorem rs_same {s : ByteArray} {p en : Nat} {N : Num} (hp : p ≤ s.size) (h : scanS s p = (some N, en)) : rsV (scEx s p) = powS N ∨ (rsV (scEx s p) = -1000000000000001 ∧ powS N < -1000000000000000) ∨ (rsV (scEx s p) = 1000000000000001 ∧ 1000000000000000 < powS N) := by
 obtain ⟨-, -, hdig⟩ := num_of h hp
 have hN : N.dn = scDn s p ∧ N.pw = scPw s p ∧ (scX s p = true → dgB (lk s (scF s p)) = true) := by
  unfold scanS at h
  split at h
  ·cases h
  ·split at h
   ·cases h
   ·split at h
    ·cases h
    ·rename_i h3
     simp only [Prod.mk.injEq, Option.some.injEq] at h
     obtain ⟨rfl, rfl⟩ := h
     refine ⟨rfl, rfl, fun hX => ?_⟩
     cases hd : dgB (lk s (scF s p)) with
     | true => rfl
     | false => exact absurd ⟨hX, hd⟩ h3
 have key : ∀ (t : ByteArray) (b : Bool), rsF t t.size = rsF N.pw N.pw.size → rsN t t.size = b → N.dn = b → rsV t = powS N ∨ (rsV t = -1000000000000001 ∧ powS N < -1000000000000000) ∨ (rsV t = 1000000000000001 ∧ 1000000000000000 < powS N) := by
  intro t b h1 h2 h3
  obtain ⟨h4, h5⟩ := rs_plain N.pw hdig
  unfold rsV powS
  rw [h1, h2, h3]
  by_cases h6 : pwN N.pw.data.toList ≤ 1000000000000000
  ·left
   have hM : (if 1000000000000000 < rsF N.pw N.pw.size then 1000000000000001 else rsF N.pw N.pw.size : Nat) = pwN N.pw.data.toList := by rw [h4 h6, if_neg (by omega)]
   rw [hM]
  ·right
   have hM : (if 1000000000000000 < rsF N.pw N.pw.size then 1000000000000001 else rsF N.pw N.pw.size : Nat) = 1000000000000001 := if_pos (h5 (by omega))
   rw [hM]
   cases b
   ·right; refine ⟨rfl, ?_⟩; simp; omega
   ·left; refine ⟨rfl, ?_⟩; simp; omega
 by_cases hX : scX s p = true
 ·have hF := scF_le s p hX
  have hH : scH s p = rn s (scF s p) := by rw [scH, if_pos hX]
  have hHl := rn_le s _ hF
  have hHg := rn_ge s (scF s p)
  have hpw : N.pw = s.extract (scF s p) (scH s p) := by rw [hN.2.1, scPw, if_pos hX]
  have hex : scEx s p = s.extract (scC s p + 1) (scH s p) := by rw [scEx, if_pos hX]
  by_cases hg : lk s (scC s p + 1) = 43 ∨ lk s (scC s p + 1) = 45
  ·have hF2 : scF s p = scC s p + 2 := by rw [scF, if_pos hg]
   have hDn : scDn s p = decide (lk s (scC s p + 1) = 45) := by rw [scDn, hX]; rfl
   rw [hF2] at hpw hH hHl hHg
   rw [hex]
   generalize scC s p = C at *
   generalize scH s p = H at *
   have hHl2 : H ≤ s.size := by rw [hH]; exact hHl
   have hHg2 : C + 2 ≤ H := by rw [hH]; exact hHg
   clear hH hHl hHg hex
   have l0 : lk (s.extract (C + 1) H) 0 = lk s (C + 1) := lk_extract s (C + 1) H 0 (by omega) hHl2
   have hd0 : dgB (lk (s.extract (C + 1) H) 0) = false := by
    rw [l0]
    rcases hg with h' | h'
    ·rw [h']; decide
    ·rw [h']; decide
   have z1 := ext_sizeD s C H hHl2 hHg2
   have hsh := rs_shift (s.extract (C + 1) H) (s.extract (C + 2) H) z1 hd0 (fun j hj => ext_shift s C H hHl2 j hj) (s.extract (C + 2) H).size (Nat.le_refl _)
   refine key _ (scDn s p) ?_ ?_ hN.1
   ·rw [z1, hsh.1, hpw]
   ·rw [z1, hsh.2, l0, rsN_no _ (fun j hj => dg_ne (by rw [hpw] at hdig; exact hdig j hj)) _ (Nat.le_refl _), hDn]
    simp
  ·have hF1 : scF s p = scC s p + 1 := by rw [scF, if_neg hg]
   rw [hex, ← hF1, ← hpw]
   refine key _ (scDn s p) rfl ?_ hN.1
   rw [rsN_no _ (fun j hj => dg_ne (hdig j hj)) _ (Nat.le_refl _), scDn, hX, decide_eq_false (fun h => hg (.inr h))]
   rfl
 ·have hX' : scX s p = false := by simpa using hX
  have h1 : scEx s p = ⟨#[]⟩ := by rw [scEx, if_neg hX]
  have h2 : N.pw = ⟨#[]⟩ := by rw [hN.2.1, scPw, if_neg hX]
  rw [h1]
  refine key _ false (by rw [h2]) rfl (by rw [hN.1, scDn, hX']; rfl)
/-- So the reference makes what the program's worth is. -/
theorem mk_worth {s : ByteArray} {p en : Nat} {N : Num} (hs : s.size ≤ 281474976710656) (hp : p ≤ s.size) (h : scanS s p = (some N, en)) :
  mkV N.neg (N.wh ++ N.be) (rsV (scEx s p) - (N.be.size : Int)) = match worthS N with | none => .tuple #[decV zeroD, .bool false] | some d => .tuple #[decV d, .bool true] := by
 obtain ⟨h1, -, -⟩ := num_of h hp
 have hall : Lib.trimLeftB (N.wh ++ N.be).data.toList 48 = allS N := by rw [data_append]; rfl
 have hl : (allS N).length ≤ 281474976710656 := Nat.le_trans (trimL_length _ _) (by rw [List.length_append, size_list, size_list]; omega)
 rw [mkV, hall, worthS]
 by_cases h0 : allS N = []
 ·rw [if_pos h0, if_pos h0]
 ·rw [if_neg h0, if_neg h0]
  have hd : Lib.trimRightB (allS N) 48 = digS N := rfl
  rw [hd]
  rcases rs_same hp h with h2 | ⟨h2, h3⟩ | ⟨h2, h3⟩
  ·have h4 : rsV (scEx s p) - (N.be.size : Int) + (((allS N).length - (digS N).length : Nat) : Int) = expS N := by rw [h2]; rfl
   rw [h4]
   cases inB (expS N) <;> rfl
  ·have e1 : inB (rsV (scEx s p) - (N.be.size : Int) + (((allS N).length - (digS N).length : Nat) : Int)) = false := by rw [h2]; unfold inB; simp; omega
   have e2 : inB (expS N) = false := by unfold inB expS; simp; omega
   rw [e1, e2]; rfl
  ·have e1 : inB (rsV (scEx s p) - (N.be.size : Int) + (((allS N).length - (digS N).length : Nat) : Int)) = false := by rw [h2]; unfold inB; simp; omega
   have e2 : inB (expS N) = false := by unfold inB expS; simp; omega
   rw [e1, e2]; rfl
set_option maxRecDepth 10000 in
set_option maxHeartbeats 4000000 in
theorem refRead_calls (s : ByteArray) (p : Nat) (hs : s.size ≤ 281474976710656) (hp : p ≤ s.size) (w : World) :
  Calls Tryz.prog 100 #[.string s, .int .i64 (p : Int)] w fun e w' => e = .returned (readV s p) ∧ Below w.heap.size w w' := by
 have hsc := hid (fun w1 => refScan_calls s p (by omega) hp w1)
 have e1 : decide ((p : Int) < 0) = false := by simp
 have e2 : decide ((s.size : Int) < (p : Int)) = false := by simp; omega
 have D0 := hid (show OwnD w w.heap.size false ⟨#[]⟩ 0 (w.alloc (.cells #[.bool false, .string ⟨#[]⟩, .int .i64 0] 90)) from ⟨Nat.le_refl _, At.new w _ _, by repeat (first | with_reducible exact Below.refl _ _ | with_reducible refine Below.setCell ?_ (by first | (simp; done) | (simp; omega)) _ | with_reducible refine below_drewN ?_ _ | with_reducible refine Below.alloc ?_ (by first | (simp; done) | (simp; omega)) _ | with_reducible refine Below.drew ?_)⟩)
 obtain ⟨r, hr⟩ : ∃ r, scanS s p = r := ⟨_, rfl⟩
 obtain ⟨on, en⟩ := r
 go_enter Tryz.func100, Tryz.ntmps100
 go_wp2_with fail
 refine Calls.mono (hsc.out _) ?_
 rintro e w1 ⟨⟨n, t1, t2, t3, en', ok, rfl, hR⟩, hb⟩
 have D1 := hid (D0.out.kept hb)
 clear D0 hsc hb e1 e2
 obtain ⟨h1, h2, h3⟩ := hR.out
 rw [hr] at h1 h2 h3
 obtain rfl : en' = en := h1
 clear hR
 have B1 := hid (At.new w1 #[.bool n, .string t1, .string t2, .string t3] 141)
 have D2 := hid (D1.out.kept (w' := w1.alloc (.cells #[.bool n, .string t1, .string t2, .string t3] 141)) ((Below.refl _ _).alloc (Nat.le_refl _) _))
 have k2 := hid h2
 have k3 := hid h3
 have kr := hid hr
 clear h2 h3 hr
 go_upto_region 4 with fail
 generalize hb1 : w1.heap.size = b1 at B1 ⊢
 generalize w1.alloc (.cells #[.bool n, .string t1, .string t2, .string t3] 141) = w2 at B1 D2 ⊢
 clear D1 hb1
 have hen : en' ≤ s.size := by have := scan_end (s := s) hp; rw [kr.out] at this; exact this
 cases ok with
 | false =>
  obtain rfl : on = none := k2.out rfl
  have hv := hid (show readV s p = .tuple #[.agg #[.bool false, .string ⟨#[]⟩, .int .i64 0], .int .i64 (en' : Int), .int .i64 110] by rw [readV, readS, kr.out]; rfl)
  obtain ⟨⟨c0, c1, c2⟩, f0, f1, f2⟩ := D2.out.facts
  clear k2 k3 kr B1
  go_wp2
  refine ret_dec3 rfl rfl (D2.out.put _ _ _).2.1 rfl ⟨?_, (D2.out.put _ _ _).2.2⟩
  rw [hv.out]
  rfl
 | true =>
  obtain ⟨N, hN, q1, q2, q3, q4⟩ := k3.out rfl
  obtain rfl : on = some N := hN
  subst q1 q2 q3 q4
  obtain ⟨z1, z2, z3⟩ := num_of kr.out hp
  obtain ⟨E, hE⟩ : ∃ E, Hid (rsV (scEx s p) = E) := ⟨_, rfl⟩
  have hEb : -1000000000000001 ≤ E ∧ E ≤ 1000000000000001 := by
   rw [← hE.out]
   unfold rsV
   split <;> split <;> omega
  have hxs : (scEx s p).size ≤ s.size := by
   unfold scEx
   split
   ·rw [ByteArray.size_extract]; omega
   ·exact Nat.zero_le _
  have hnc := hid (fun w1 => numberD_calls (scEx s p) (by omega) E hE w1)
  have hmw := hid (mk_worth hs hp kr.out)
  have hmc := hid (fun w1 => makeD_calls N.neg (N.wh ++ N.be) (by rw [ByteArray.size_append]; omega) (E - (N.be.size : Int)) (by omega) (by omega) w1)
  rw [hE.out] at hmw
  obtain ⟨d, ok2, er, hmk, hrd, hok⟩ : ∃ (d : Dec) (ok2 : Bool) (er : Nat), mkV N.neg (N.wh ++ N.be) (E - (N.be.size : Int)) = .tuple #[decV d, .bool ok2] ∧ readV s p = .tuple #[decV d, .int .i64 (en' : Int), .int .i64 (er : Int)] ∧ (ok2 = false → d = zeroD ∧ er = 111) ∧ (ok2 = true → er = 0) := by
   have h1 : readS s p = match worthS N with | none => (zeroD, en', 111) | some d => (d, en', 0) := by rw [readS, kr.out]; rfl
   cases hw : worthS N with
   | none =>
    have h2 := hmw.out
    rw [hw] at h1 h2
    exact ⟨zeroD, false, 111, h2, by rw [readV, h1], fun _ => ⟨rfl, rfl⟩, fun h => by cases h⟩
   | some d =>
    have h2 := hmw.out
    rw [hw] at h1 h2
    exact ⟨d, true, 0, h2, by rw [readV, h1], (fun h => by cases h), fun _ => rfl⟩
  have hv := hid hrd
  have hok' := hid hok
  rw [hmk] at hmc
  obtain ⟨tx, htx⟩ : ∃ tx, scEx s p = tx := ⟨_, rfl⟩
  rw [htx] at hnc B1 hxs
  obtain ⟨ng, t1, t2, dw, tp⟩ := N
  obtain ⟨dn, dd, dx⟩ := d
  obtain ⟨TD, hTD⟩ : ∃ TD : ByteArray, (⟨dd.toArray⟩ : ByteArray) = TD := ⟨_, rfl⟩
  dsimp only [decV] at hmc hv
  rw [hTD] at hmc hv
  dsimp only at B1 hmc z1 z2 ⊢
  have hsum : ¬ t1.size + t2.size > 9223372036854775807 := by omega
  have ez : IntKind.i64.wrap (E - (t2.size : Int)) = E - (t2.size : Int) := by rw [IntKind.wrap_i64]; omega
  have hTD' := hid hTD
  clear hmw hmk hrd hok htx k2 k3 hE z3 hTD
  have c0 : w2.cell? ⟨b1, 0, none⟩ = some (.bool ng) := B1.out.cell 0
  have c1 : w2.cell? ⟨b1, 1, none⟩ = some (.string t1) := B1.out.cell 1
  have c2 : w2.cell? ⟨b1, 2, none⟩ = some (.string t2) := B1.out.cell 2
  have c3 : w2.cell? ⟨b1, 3, none⟩ = some (.string tx) := B1.out.cell 3
  go_wp2_with fail
  refine Calls.mono (hnc.out _) ?_
  rintro e w3 ⟨rfl, hw⟩
  obtain rfl : w2 = w3 := hw.symm
  clear hw hnc
  go_wp2_with fail
  refine Calls.mono (hmc.out _) ?_
  rintro e w3 ⟨rfl, hb⟩
  have D3 := hid (D2.out.kept hb)
  clear c0 c1 c2 c3 B1 D2 hmc hb hsum ez
  have B4 := hid (At.new w3 #[.bool dn, .string TD, .int .i64 dx] 90)
  have D4 := hid (D3.out.kept (w' := w3.alloc (.cells #[.bool dn, .string TD, .int .i64 dx] 90)) ((Below.refl _ _).alloc (Nat.le_refl _) _))
  go_upto_region 8 with fail
  generalize hb4 : w3.heap.size = b4 at B4 ⊢
  generalize w3.alloc (.cells #[.bool dn, .string TD, .int .i64 dx] 90) = w4 at B4 D4 ⊢
  clear D3 hb4
  obtain ⟨⟨c0, c1, c2⟩, f0, f1, f2⟩ := D4.out.facts
  cases ok2 with
  | false =>
   obtain ⟨hz, rfl⟩ := hok'.out.1 rfl
   have hz2 := hid hz
   have hv2 := hid (show readV s p = .tuple #[.agg #[.bool false, .string ⟨#[]⟩, .int .i64 0], .int .i64 (en' : Int), .int .i64 111] by
    rw [hv.out, ← hTD'.out]
    have h5 := hz2.out
    injection h5 with h6 h7 h8
    rw [h6, h7, h8]
    rfl)
   clear hv hok' B4 hz
   go_wp2
   refine ret_dec3 rfl rfl (D4.out.put _ _ _).2.1 rfl ⟨?_, (D4.out.put _ _ _).2.2⟩
   rw [hv2.out]
   rfl
  | true =>
   obtain rfl := hok'.out.2 rfl
   have g0 : w4.cell? ⟨b4, 0, none⟩ = some (.bool dn) := B4.out.cell 0
   have g1 : w4.cell? ⟨b4, 1, none⟩ = some (.string TD) := B4.out.cell 1
   have g2 : w4.cell? ⟨b4, 2, none⟩ = some (.int .i64 dx) := B4.out.cell 2
   clear hok' B4
   go_wp2
   refine ret_dec3 rfl rfl (D4.out.put _ _ _).2.1 rfl ⟨?_, (D4.out.put _ _ _).2.2⟩
   rw [hv.out]
   rfl
end Go.Proofs.YtlhbgfhmcjaabaaGreatDoor

/-
 What quarryref11.Of answers.
-/
namespace Go.Proofs.YtlhbgfhmcjaabaaGreatDoor
open Go.RowKit Go.Shelf
set_option maxRecDepth 10000 in
set_option maxHeartbeats 4000000 in
theorem refOfD_calls (s : ByteArray) (hs : s.size ≤ 281474976710656) (w : World) :
  Calls Tryz.prog 86 #[.string s] w fun e w' => e = .returned (ofV s) ∧ Below w.heap.size w w' := by
 have hrc := hid (fun w1 => refRead_calls s 0 hs (Nat.zero_le _) w1)
 have hen := read_end (s := s) (Nat.zero_le _)
 have D0 := hid (show OwnD w w.heap.size false ⟨#[]⟩ 0 (w.alloc (.cells #[.bool false, .string ⟨#[]⟩, .int .i64 0] 90)) from ⟨Nat.le_refl _, At.new w _ _, by repeat (first | with_reducible exact Below.refl _ _ | with_reducible refine Below.setCell ?_ (by first | (simp; done) | (simp; omega)) _ | with_reducible refine below_drewN ?_ _ | with_reducible refine Below.alloc ?_ (by first | (simp; done) | (simp; omega)) _ | with_reducible refine Below.drew ?_)⟩)
 have her : (readS s 0).2.2 = 110 → (readS s 0).1 = zeroD := by
  unfold readS
  split
  ·intro _; rfl
  ·split
   ·intro _; rfl
   ·intro h; exact absurd h (by show ¬ (0 : Nat) = 110; decide)
 obtain ⟨r, hr⟩ : ∃ r, readS s 0 = r := ⟨_, rfl⟩
 obtain ⟨⟨dn, dd, dx⟩, en, er⟩ := r
 have hrc2 := hrc.out
 unfold readV at hrc2
 rw [hr] at hrc2 hen her
 dsimp only [decV] at hrc2 hen her
 have hfin : (en ≠ s.size ∨ er = 110 → ofV s = .tuple #[.agg #[.bool false, .string ⟨#[]⟩, .int .i64 0], .int .i64 110]) ∧ (en = s.size → ofV s = .tuple #[.agg #[.bool dn, .string ⟨dd.toArray⟩, .int .i64 dx], .int .i64 (er : Int)]) := by
  constructor
  ·intro h
   by_cases h1 : en = s.size
   ·rcases h with h | h
    ·exact absurd h1 h
    ·rw [ofV, ofS_same s (by rw [hr]; exact h1), hr]
     dsimp only
     rw [her h, h]
     rfl
   ·rw [ofV, ofS_zero s (by rw [hr]; exact h1)]; rfl
  ·intro h; rw [ofV, ofS_same s (by rw [hr]; exact h), hr]; rfl
 obtain ⟨TD, hTD⟩ : ∃ TD : ByteArray, (⟨dd.toArray⟩ : ByteArray) = TD := ⟨_, rfl⟩
 rw [hTD] at hrc2 hfin
 have hrc3 := hid hrc2
 have hfin' := hid hfin
 clear hTD hrc hrc2 hr hfin her
 go_enter Tryz.func86, Tryz.ntmps86
 go_wp2_with fail
 refine Calls.mono (hrc3.out _) ?_
 rintro e w1 ⟨rfl, hb⟩
 have D1 := hid (D0.out.kept hb)
 clear D0 hrc3 hb
 have B1 := hid (At.new w1 #[.bool dn, .string TD, .int .i64 dx] 90)
 have D2 := hid (D1.out.kept (w' := w1.alloc (.cells #[.bool dn, .string TD, .int .i64 dx] 90)) ((Below.refl _ _).alloc (Nat.le_refl _) _))
 go_upto_region 2 with fail
 generalize hb1 : w1.heap.size = b1 at B1 ⊢
 generalize w1.alloc (.cells #[.bool dn, .string TD, .int .i64 dx] 90) = w2 at B1 D2 ⊢
 clear D1 hb1
 obtain ⟨⟨c0, c1, c2⟩, f0, f1, f2⟩ := D2.out.facts
 by_cases hr0 : er = 110
 ·have hv := hid (hfin'.out.1 (.inr hr0))
  subst hr0
  clear hfin'
  go_wp2
  refine ret_dec rfl rfl (D2.out.put _ _ _).2.1 rfl ⟨?_, (D2.out.put _ _ _).2.2⟩
  rw [hv.out]
  rfl
 ·have e0 : ((er : Int) == 110) = false := beq_eq_false_iff_ne.2 (by omega)
  by_cases he : en = s.size
  ·have e1 : ((en : Int) != (s.size : Int)) = false := by simp [he]
   have hv := hid (hfin'.out.2 he)
   have g0 : w2.cell? ⟨b1, 0, none⟩ = some (.bool dn) := B1.out.cell 0
   have g1 : w2.cell? ⟨b1, 1, none⟩ = some (.string TD) := B1.out.cell 1
   have g2 : w2.cell? ⟨b1, 2, none⟩ = some (.int .i64 dx) := B1.out.cell 2
   clear hfin' he hr0
   go_wp2
   refine ret_dec rfl rfl (D2.out.put _ _ _).2.1 rfl ⟨?_, (D2.out.put _ _ _).2.2⟩
   rw [hv.out]
   rfl
  ·have e1 : ((en : Int) != (s.size : Int)) = true := by simp; omega
   have hv := hid (hfin'.out.1 (.inl he))
   clear hfin' he hr0
   go_wp2
   refine ret_dec rfl rfl (D2.out.put _ _ _).2.1 rfl ⟨?_, (D2.out.put _ _ _).2.2⟩
   rw [hv.out]
   rfl
end Go.Proofs.YtlhbgfhmcjaabaaGreatDoor

/-
 TrH, TrH2, TrH3, TrH4, one behind the other.
-/
/- quarryref17.plain, kind by kind: the fields that a kind uses, all others zero. -/
namespace Go.Proofs.YtlhbgfhmcjaabaaGreatDoor
open Go.RowKit Go.Shelf
set_option maxRecDepth 10000 in
set_option maxHeartbeats 4000000 in
theorem plain_1 (b : Bool) (r t : ByteArray) (ko : Option Addr) (N kc : Nat) (vo : Option Addr) (M vc : Nat) (w : World) :
  Calls Tryz.prog 66 #[.agg #[.int .i64 1, .bool b, .string r, .string t, .slice ko N kc, .slice vo M vc]] w fun e w' => e = .returned (.bool (decide (N = 0) && (decide (M = 0) && (!b && ((r.toList == []) && (t.toList == [])))))) ∧ Below w.heap.size w w' := by
 go_enter Tryz.func66, Tryz.ntmps66
 go_wp2
 all_goals go_ret
 all_goals (refine ⟨?_, by repeat (first | with_reducible exact Below.refl _ _ | with_reducible refine Below.setCell ?_ (by first | (simp; done) | (simp; omega)) _ | with_reducible refine below_drewN ?_ _ | with_reducible refine Below.alloc ?_ (by first | (simp; done) | (simp; omega)) _ | with_reducible refine Below.drew ?_)⟩)
 all_goals (simp_all [Array.getD]; done)
set_option maxRecDepth 10000 in
set_option maxHeartbeats 4000000 in
theorem plain_2 (b : Bool) (r t : ByteArray) (ko : Option Addr) (N kc : Nat) (vo : Option Addr) (M vc : Nat) (w : World) :
  Calls Tryz.prog 66 #[.agg #[.int .i64 2, .bool b, .string r, .string t, .slice ko N kc, .slice vo M vc]] w fun e w' => e = .returned (.bool (decide (N = 0) && (decide (M = 0) && ((r.toList == []) && (t.toList == []))))) ∧ Below w.heap.size w w' := by
 go_enter Tryz.func66, Tryz.ntmps66
 go_wp2
 all_goals go_ret
 all_goals (refine ⟨?_, by repeat (first | with_reducible exact Below.refl _ _ | with_reducible refine Below.setCell ?_ (by first | (simp; done) | (simp; omega)) _ | with_reducible refine below_drewN ?_ _ | with_reducible refine Below.alloc ?_ (by first | (simp; done) | (simp; omega)) _ | with_reducible refine Below.drew ?_)⟩)
 all_goals (simp_all [Array.getD]; done)
set_option maxRecDepth 10000 in
set_option maxHeartbeats 4000000 in
theorem plain_5 (b : Bool) (r t : ByteArray) (ko : Option Addr) (N kc : Nat) (vo : Option Addr) (M vc : Nat) (w : World) :
  Calls Tryz.prog 66 #[.agg #[.int .i64 5, .bool b, .string r, .string t, .slice ko N kc, .slice vo M vc]] w fun e w' => e = .returned (.bool (!b && ((r.toList == []) && ((t.toList == []) && decide (N = 0))))) ∧ Below w.heap.size w w' := by
 go_enter Tryz.func66, Tryz.ntmps66
 go_wp2
 all_goals go_ret
 all_goals (refine ⟨?_, by repeat (first | with_reducible exact Below.refl _ _ | with_reducible refine Below.setCell ?_ (by first | (simp; done) | (simp; omega)) _ | with_reducible refine below_drewN ?_ _ | with_reducible refine Below.alloc ?_ (by first | (simp; done) | (simp; omega)) _ | with_reducible refine Below.drew ?_)⟩)
 all_goals (simp_all [Array.getD]; done)
end Go.Proofs.YtlhbgfhmcjaabaaGreatDoor
/- quarryref17.plain of numbers, texts and objects, and of what is none of these; all kinds together. -/
namespace Go.Proofs.YtlhbgfhmcjaabaaGreatDoor
open Go.RowKit Go.Shelf
set_option maxRecDepth 10000 in
set_option maxHeartbeats 4000000 in
theorem plain_3 (b : Bool) (r t : ByteArray) (ko : Option Addr) (N kc : Nat) (vo : Option Addr) (M vc : Nat) (w : World) (hr : r.size ≤ 281474976710656) (er : Nat) (he : Hid ((ofS r).2 = er)) :
  Calls Tryz.prog 66 #[.agg #[.int .i64 3, .bool b, .string r, .string t, .slice ko N kc, .slice vo M vc]] w fun e w' => e = .returned (.bool (decide (N = 0) && (decide (M = 0) && (!b && ((t.toList == []) && (decide (er = 0) || decide (er = 111))))))) ∧ Below w.heap.size w w' := by
 obtain ⟨q, hq⟩ : ∃ q, ofS r = q := ⟨_, rfl⟩
 obtain ⟨⟨dn, dd, dx⟩, e2⟩ := q
 obtain rfl : e2 = er := by rw [← he.out, hq]
 have hof := hid (fun u => refOfD_calls r hr u)
 have hov := hid (show ofV r = .tuple #[.agg #[.bool dn, .string ⟨dd.toArray⟩, .int .i64 dx], .int .i64 (e2 : Int)] by rw [ofV, hq]; rfl)
 rw [hov.out] at hof
 generalize (⟨dd.toArray⟩ : ByteArray) = TD at hof
 clear hov hq he hr
 by_cases h1 : N = 0
 ·subst h1
  by_cases h2 : M = 0
  ·subst h2
   have A1 := hid (At.new w #[.int .i64 3, .bool b, .string r, .string t, .slice ko 0 kc, .slice vo 0 vc] 25)
   have B1 := hid (show Below w.heap.size w (w.alloc (.cells #[.int .i64 3, .bool b, .string r, .string t, .slice ko 0 kc, .slice vo 0 vc] 25)) by repeat (first | with_reducible exact Below.refl _ _ | with_reducible refine Below.setCell ?_ (by first | (simp; done) | (simp; omega)) _ | with_reducible refine below_drewN ?_ _ | with_reducible refine Below.alloc ?_ (by first | (simp; done) | (simp; omega)) _ | with_reducible refine Below.drew ?_))
   go_enter Tryz.func66, Tryz.ntmps66
   go_wp2_with fail
   generalize w.alloc (.cells #[.int .i64 3, .bool b, .string r, .string t, .slice ko 0 kc, .slice vo 0 vc] 25) = W at A1 B1 ⊢
   refine Calls.mono (hof.out _) ?_
   rintro e w1 ⟨rfl, hb⟩
   have A2 := hid (A1.out.keptAll hb)
   have B2 := hid (show Below w.heap.size w (w1.alloc (.cells #[.bool dn, .string TD, .int .i64 dx] 90)) from (B1.out.trans (hb.mono B1.out.size)).alloc (Nat.le_trans B1.out.size hb.size) _)
   have hlt := A2.out.lt
   have c1 : w1.cell? ⟨w.heap.size, 1, none⟩ = some (.bool b) := A2.out.cell 1
   have c3 : w1.cell? ⟨w.heap.size, 3, none⟩ = some (.string t) := A2.out.cell 3
   clear hof hb A1 B1 A2
   cases b <;> (go_wp2; all_goals go_ret; all_goals (refine ⟨?_, B2.out⟩); all_goals (first | (simp_all [Array.getD]; done) | (simp_all [Array.getD]; rw [Bool.eq_iff_iff]; simp; omega)))
  ·have m0 : ((M : Int) == 0) = false := by simp; omega
   have A1 := hid (At.new w #[.int .i64 3, .bool b, .string r, .string t, .slice ko 0 kc, .slice vo M vc] 25)
   have B1 := hid (show Below w.heap.size w (w.alloc (.cells #[.int .i64 3, .bool b, .string r, .string t, .slice ko 0 kc, .slice vo M vc] 25)) by repeat (first | with_reducible exact Below.refl _ _ | with_reducible refine Below.setCell ?_ (by first | (simp; done) | (simp; omega)) _ | with_reducible refine below_drewN ?_ _ | with_reducible refine Below.alloc ?_ (by first | (simp; done) | (simp; omega)) _ | with_reducible refine Below.drew ?_))
   go_enter Tryz.func66, Tryz.ntmps66
   go_wp2_with fail
   generalize w.alloc (.cells #[.int .i64 3, .bool b, .string r, .string t, .slice ko 0 kc, .slice vo M vc] 25) = W at A1 B1 ⊢
   refine Calls.mono (hof.out _) ?_
   rintro e w1 ⟨rfl, hb⟩
   have A2 := hid (A1.out.keptAll hb)
   have B2 := hid (show Below w.heap.size w (w1.alloc (.cells #[.bool dn, .string TD, .int .i64 dx] 90)) from (B1.out.trans (hb.mono B1.out.size)).alloc (Nat.le_trans B1.out.size hb.size) _)
   have hlt := A2.out.lt
   have c1 : w1.cell? ⟨w.heap.size, 1, none⟩ = some (.bool b) := A2.out.cell 1
   have c3 : w1.cell? ⟨w.heap.size, 3, none⟩ = some (.string t) := A2.out.cell 3
   clear hof hb A1 B1 A2
   cases b <;> (go_wp2; all_goals go_ret; all_goals (refine ⟨?_, B2.out⟩); all_goals (first | (simp_all [Array.getD]; done) | (simp_all [Array.getD]; rw [Bool.eq_iff_iff]; simp; omega)))
 ·have n0 : ((N : Int) == 0) = false := by simp; omega
  have A1 := hid (At.new w #[.int .i64 3, .bool b, .string r, .string t, .slice ko N kc, .slice vo M vc] 25)
  have B1 := hid (show Below w.heap.size w (w.alloc (.cells #[.int .i64 3, .bool b, .string r, .string t, .slice ko N kc, .slice vo M vc] 25)) by repeat (first | with_reducible exact Below.refl _ _ | with_reducible refine Below.setCell ?_ (by first | (simp; done) | (simp; omega)) _ | with_reducible refine below_drewN ?_ _ | with_reducible refine Below.alloc ?_ (by first | (simp; done) | (simp; omega)) _ | with_reducible refine Below.drew ?_))
  go_enter Tryz.func66, Tryz.ntmps66
  go_wp2_with fail
  generalize w.alloc (.cells #[.int .i64 3, .bool b, .string r, .string t, .slice ko N kc, .slice vo M vc] 25) = W at A1 B1 ⊢
  refine Calls.mono (hof.out _) ?_
  rintro e w1 ⟨rfl, hb⟩
  have A2 := hid (A1.out.keptAll hb)
  have B2 := hid (show Below w.heap.size w (w1.alloc (.cells #[.bool dn, .string TD, .int .i64 dx] 90)) from (B1.out.trans (hb.mono B1.out.size)).alloc (Nat.le_trans B1.out.size hb.size) _)
  have hlt := A2.out.lt
  have c1 : w1.cell? ⟨w.heap.size, 1, none⟩ = some (.bool b) := A2.out.cell 1
  have c3 : w1.cell? ⟨w.heap.size, 3, none⟩ = some (.string t) := A2.out.cell 3
  clear hof hb A1 B1 A2
  cases b <;> (go_wp2; all_goals go_ret; all_goals (refine ⟨?_, B2.out⟩); all_goals (first | (simp_all [Array.getD]; done) | (simp_all [Array.getD]; rw [Bool.eq_iff_iff]; simp; omega)))
set_option maxRecDepth 10000 in
set_option maxHeartbeats 4000000 in
theorem plain_4 (b : Bool) (r t : ByteArray) (ko : Option Addr) (N kc : Nat) (vo : Option Addr) (M vc : Nat) (w : World) (hr : t.size ≤ 4294967296) (x : Int) (he : Hid (badOf t = x)) :
  Calls Tryz.prog 66 #[.agg #[.int .i64 4, .bool b, .string r, .string t, .slice ko N kc, .slice vo M vc]] w fun e w' => e = .returned (.bool (decide (N = 0) && (decide (M = 0) && (!b && ((r.toList == []) && decide (x = -1)))))) ∧ Below w.heap.size w w' := by
 have hof := hid (fun u => refBad_calls t hr u)
 rw [he.out] at hof
 clear he hr
 by_cases hz : N = 0 ∧ M = 0 ∧ b = false ∧ r.toList = []
 ·obtain ⟨rfl, rfl, rfl, h4⟩ := hz
  have B1 := hid (show Below w.heap.size w (w.alloc (.cells #[.int .i64 4, .bool false, .string r, .string t, .slice ko 0 kc, .slice vo 0 vc] 25)) by repeat (first | with_reducible exact Below.refl _ _ | with_reducible refine Below.setCell ?_ (by first | (simp; done) | (simp; omega)) _ | with_reducible refine below_drewN ?_ _ | with_reducible refine Below.alloc ?_ (by first | (simp; done) | (simp; omega)) _ | with_reducible refine Below.drew ?_))
  go_enter Tryz.func66, Tryz.ntmps66
  go_wp2_with fail
  generalize w.alloc (.cells #[.int .i64 4, .bool false, .string r, .string t, .slice ko 0 kc, .slice vo 0 vc] 25) = W at B1 ⊢
  refine Calls.mono (hof.out _) ?_
  rintro e w1 ⟨rfl, hb⟩
  have B2 := hid (B1.out.trans (hb.mono B1.out.size))
  clear hof hb B1
  go_wp2
  all_goals go_ret
  all_goals (refine ⟨?_, B2.out⟩)
  all_goals (first | (simp_all [Array.getD]; done) | (simp_all [Array.getD]; rw [Bool.eq_iff_iff]; simp))
 ·clear hof
  by_cases h1 : N = 0
  ·subst h1
   by_cases h2 : M = 0
   ·subst h2
    cases b with
    | true =>
     go_enter Tryz.func66, Tryz.ntmps66
     go_wp2
     all_goals go_ret
     all_goals (refine ⟨?_, by repeat (first | with_reducible exact Below.refl _ _ | with_reducible refine Below.setCell ?_ (by first | (simp; done) | (simp; omega)) _ | with_reducible refine below_drewN ?_ _ | with_reducible refine Below.alloc ?_ (by first | (simp; done) | (simp; omega)) _ | with_reducible refine Below.drew ?_)⟩)
     all_goals (simp_all [Array.getD]; done)
    | false =>
     have h4 : ¬ r.toList = [] := fun h => hz ⟨rfl, rfl, rfl, h⟩
     go_enter Tryz.func66, Tryz.ntmps66
     go_wp2
     all_goals go_ret
     all_goals (refine ⟨?_, by repeat (first | with_reducible exact Below.refl _ _ | with_reducible refine Below.setCell ?_ (by first | (simp; done) | (simp; omega)) _ | with_reducible refine below_drewN ?_ _ | with_reducible refine Below.alloc ?_ (by first | (simp; done) | (simp; omega)) _ | with_reducible refine Below.drew ?_)⟩)
     all_goals (simp_all [Array.getD]; done)
   ·have m0 : ((M : Int) == 0) = false := by simp; omega
    go_enter Tryz.func66, Tryz.ntmps66
    go_wp2
    all_goals go_ret
    all_goals (refine ⟨?_, by repeat (first | with_reducible exact Below.refl _ _ | with_reducible refine Below.setCell ?_ (by first | (simp; done) | (simp; omega)) _ | with_reducible refine below_drewN ?_ _ | with_reducible refine Below.alloc ?_ (by first | (simp; done) | (simp; omega)) _ | with_reducible refine Below.drew ?_)⟩)
    all_goals (simp_all [Array.getD]; done)
  ·have n0 : ((N : Int) == 0) = false := by simp; omega
   go_enter Tryz.func66, Tryz.ntmps66
   go_wp2
   all_goals go_ret
   all_goals (refine ⟨?_, by repeat (first | with_reducible exact Below.refl _ _ | with_reducible refine Below.setCell ?_ (by first | (simp; done) | (simp; omega)) _ | with_reducible refine below_drewN ?_ _ | with_reducible refine Below.alloc ?_ (by first | (simp; done) | (simp; omega)) _ | with_reducible refine Below.drew ?_)⟩)
   all_goals (simp_all [Array.getD]; done)
set_option maxRecDepth 10000 in
set_option maxHeartbeats 4000000 in
theorem plain_0 (k : Int) (hk : k ≠ 1 ∧ k ≠ 2 ∧ k ≠ 3 ∧ k ≠ 4 ∧ k ≠ 5 ∧ k ≠ 6) (b : Bool) (r t : ByteArray) (ko : Option Addr) (N kc : Nat) (vo : Option Addr) (M vc : Nat) (w : World) :
  Calls Tryz.prog 66 #[.agg #[.int .i64 k, .bool b, .string r, .string t, .slice ko N kc, .slice vo M vc]] w fun e w' => e = .returned (.bool false) ∧ Below w.heap.size w w' := by
 obtain ⟨k1, k2, k3, k4, k5, k6⟩ := hk
 have e1 : (k == 1) = false := by simp [k1]
 have e2 : (k == 2) = false := by simp [k2]
 have e3 : (k == 3) = false := by simp [k3]
 have e4 : (k == 4) = false := by simp [k4]
 have e5 : (k == 5) = false := by simp [k5]
 have e6 : (k == 6) = false := by simp [k6]
 go_enter Tryz.func66, Tryz.ntmps66
 go_wp2
 all_goals go_ret
 all_goals (exact ⟨rfl, by repeat (first | with_reducible exact Below.refl _ _ | with_reducible refine Below.setCell ?_ (by first | (simp; done) | (simp; omega)) _ | with_reducible refine below_drewN ?_ _ | with_reducible refine Below.alloc ?_ (by first | (simp; done) | (simp; omega)) _ | with_reducible refine Below.drew ?_)⟩)
end Go.Proofs.YtlhbgfhmcjaabaaGreatDoor
/- quarryref17.plain of objects; all kinds together; quarryref17.formed. -/
namespace Go.Proofs.YtlhbgfhmcjaabaaGreatDoor
open Go.RowKit Go.Shelf
/-- Are all names UTF-8? -/
def allB (ks : List ByteArray) : Bool := ks.all fun k => decide (badOf k = -1)
set_option maxRecDepth 10000 in
set_option maxHeartbeats 4000000 in
theorem plain_6 (b : Bool) (r t : ByteArray) (ks : List ByteArray) (ko : Option Addr) (kc : Nat) (vo : Option Addr) (M vc : Nat) (w : World) (hk : KeysAt w ko ks) (hks : ks.length ≤ capT) (hM : M ≤ capT) (hsz : Hid (∀ (i : Nat) (k : ByteArray), ks[i]? = some k → k.size ≤ 4294967296)) :
  Calls Tryz.prog 66 #[.agg #[.int .i64 6, .bool b, .string r, .string t, .slice ko ks.length kc, .slice vo M vc]] w fun e w' => e = .returned (.bool (allB ks && (!b && ((r.toList == []) && ((t.toList == []) && decide (ks.length = M)))))) ∧ Below w.heap.size w w' := by
 obtain ⟨N, hN⟩ : ∃ N, Hid (ks.length = N) := ⟨_, rfl⟩
 obtain ⟨AB, hAB⟩ : ∃ AB, Hid (allB ks = AB) := ⟨_, rfl⟩
 rw [hN.out] at hks ⊢
 rw [hAB.out]
 unfold capT at hks hM
 have hNi : (N : Int) ≤ 140737488351232 := by omega
 have hMi : (M : Int) ≤ 140737488351232 := by omega
 have hk' := hid hk
 have A1 : Hid (At (w.alloc (.cells #[.int .i64 6, .bool b, .string r, .string t, .slice ko N kc, .slice vo M vc] 25)) w.heap.size #[.int .i64 6, .bool b, .string r, .string t, .slice ko N kc, .slice vo M vc] 25) := At.new _ _ _
 have B1 : Hid (Below w.heap.size w (w.alloc (.cells #[.int .i64 6, .bool b, .string r, .string t, .slice ko N kc, .slice vo M vc] 25))) := (Below.refl _ w).alloc (Nat.le_refl _) _
 clear hk
 go_enter Tryz.func66, Tryz.ntmps66
 go_upto_region 1 with fail
 generalize w.alloc (.cells #[.int .i64 6, .bool b, .string r, .string t, .slice ko N kc, .slice vo M vc] 25) = W at A1 B1 ⊢
 have d0 : W.cell? ⟨w.heap.size, 0, none⟩ = some (.int .i64 6) := A1.out.cell 0
 have d4 : W.cell? ⟨w.heap.size, 4, none⟩ = some (.slice ko N kc) := A1.out.cell 4
 have d5 : W.cell? ⟨w.heap.size, 5, none⟩ = some (.slice vo M vc) := A1.out.cell 5
 go_cut [3] from 7 to 16 (fun _ wx => wx = W)
 case first =>
  obtain ⟨x, hx⟩ : ∃ x, ((N : Int) == 0) = x := ⟨_, rfl⟩
  obtain ⟨y, hy⟩ : ∃ y, ((M : Int) == 0) = y := ⟨_, rfl⟩
  cases x
  ·go_wp2
   go_meet
   case rel => rfl
  ·cases y
   ·go_wp2
    go_meet
    case rel => rfl
   ·go_wp2
    go_meet
    case rel => rfl
 case rest =>
  rw [hcut]
  clear d4 d5
  go_wp2_with fail
  clear d0 hcut
  go_loopw [6] (fun ii wr => ∃ i : Nat, i ≤ N ∧ ii = .int .i64 (i : Int) ∧ Hid (∀ j k, j < i → ks[j]? = some k → badOf k = -1) ∧ Hid (At wr w.heap.size #[.int .i64 6, .bool b, .string r, .string t, .slice ko N kc, .slice vo M vc] 25) ∧ Hid (Below w.heap.size w wr)) (fun ii _ => N - (intOf ii).toNat)
  case atStart => exact ⟨0, Nat.zero_le _, rfl, fun j k h => by omega, A1, B1⟩
  case round =>
   obtain ⟨i, hi, rfl, hI, hA, hb⟩ := hrel
   have c4 := hA.out.cell 4
   simp only [List.getElem?_toArray, List.getElem?_cons_zero, List.getElem?_cons_succ] at c4
   by_cases hlt : i < N
   ·have hli : (i : Int) < (N : Int) := by omega
    obtain ⟨sk, hsk⟩ : ∃ sk, Hid (ks[i]? = some sk) := ⟨_, List.getElem?_eq_getElem (by rw [hN.out]; exact hlt)⟩
    obtain ⟨-, gk, ok, rfl, hgk, cgk⟩ := hk'.out i sk hsk.out
    have s1 := (hb.out.cell (p := ⟨gk, ok + i, none⟩) hgk).trans cgk
    have ad1 : (⟨gk, ok, none⟩ : Addr).add i = ⟨gk, ok + i, none⟩ := by by_cases h : i = 0 <;> simp [Addr.add, h]
    obtain ⟨x, hx⟩ : ∃ x, Hid (badOf sk = x) := ⟨_, rfl⟩
    have hcl := hid (refBad_calls sk (hsz.out i sk hsk.out) wr)
    rw [hx.out] at hcl
    clear cgk
    go_wp2_with fail
    refine Calls.mono hcl.out ?_
    rintro e w1 ⟨rfl, hbb⟩
    have J1 := hid (hA.out.keptAll hbb)
    have Jb := hid (hb.out.trans (hbb.mono hb.out.size))
    clear hcl hbb hA hb s1 c4
    by_cases hx1 : x = -1
    ·have e1 : (x != -1) = false := by simp [hx1]
     have hnx : Hid (∀ j k, j < i + 1 → ks[j]? = some k → badOf k = -1) := fun j k hj hk => by
      by_cases e : j = i
      ·subst e
       rw [hsk.out] at hk
       injection hk with hk
       subst hk
       rw [hx.out]
       exact hx1
      ·exact hI.out j k (by omega) hk
     subst hx1
     clear hI e1
     go_wp2
     go_roundw
     case rel => exact ⟨i + 1, by omega, by simp, hnx, J1, Jb⟩
     case measure => simp [intOf]; omega
    ·have e1 : (x != -1) = true := by simp [hx1]
     have hfin : Hid (AB = false) := by
      show _ = _
      rw [← hAB.out]
      unfold allB
      rw [List.all_eq_false]
      obtain ⟨h1, h2⟩ := List.getElem?_eq_some_iff.mp hsk.out
      exact ⟨sk, by rw [← h2]; exact List.getElem_mem h1, by simp [hx.out, hx1]⟩
     go_wp2
     go_ret
     exact ⟨by rw [hfin.out]; rfl, Jb.out⟩
   ·have hge : (N : Int) ≤ (i : Int) := by omega
    have hfin : Hid (AB = true) := by
     show _ = _
     rw [← hAB.out]
     unfold allB
     rw [List.all_eq_true]
     intro k hk
     obtain ⟨j, hj, he⟩ := List.getElem_of_mem hk
     have := hI.out j k (by rw [hN.out] at hj; omega) (by rw [List.getElem?_eq_getElem hj, he])
     simp [this]
    have c1 := hA.out.cell 1
    have c2 := hA.out.cell 2
    have c3 := hA.out.cell 3
    have c5 := hA.out.cell 5
    simp only [List.getElem?_toArray, List.getElem?_cons_zero, List.getElem?_cons_succ] at c1 c2 c3 c5
    clear hI hA hk' hsz
    obtain ⟨z, hz⟩ : ∃ z, Hid (((N : Int) == (M : Int)) = z) := ⟨_, rfl⟩
    have hz' : Hid (decide (N = M) = z) := by show _ = _; rw [← hz.out, Bool.eq_iff_iff]; simp; omega
    have hz2 := hz.out
    clear hz
    cases b <;> (go_wp2; all_goals go_ret; all_goals (refine ⟨?_, hb.out⟩); all_goals (rw [hfin.out, hz'.out]); all_goals (clear hfin hz'); all_goals (simp_all [Array.getD]; done))
end Go.Proofs.YtlhbgfhmcjaabaaGreatDoor
/- quarryref17.plain of any value; quarryref17.formed and Formed. -/
namespace Go.Proofs.YtlhbgfhmcjaabaaGreatDoor
open Go.RowKit Go.Shelf
/-- The fields that a kind uses, all others zero. -/
def plainV : Vt → Bool
 | .mk k b r t ks vs =>
  if k = 1 then decide (ks.length = 0) && (decide (vs.length = 0) && (!b && ((r.toList == []) && (t.toList == []))))
  else if k = 2 then decide (ks.length = 0) && (decide (vs.length = 0) && ((r.toList == []) && (t.toList == [])))
  else if k = 3 then decide (ks.length = 0) && (decide (vs.length = 0) && (!b && ((t.toList == []) && (decide ((ofS r).2 = 0) || decide ((ofS r).2 = 111)))))
  else if k = 4 then decide (ks.length = 0) && (decide (vs.length = 0) && (!b && ((r.toList == []) && decide (badOf t = -1))))
  else if k = 5 then !b && ((r.toList == []) && ((t.toList == []) && decide (ks.length = 0)))
  else if k = 6 then allB ks && (!b && ((r.toList == []) && ((t.toList == []) && decide (ks.length = vs.length))))
  else false
mutual
/-- Its texts and names are of no more than 4294967296 bytes each. -/
def szV : Vt → Prop
 | .mk _ _ _ t ks vs => t.size ≤ 4294967296 ∧ (∀ (i : Nat) (k : ByteArray), ks[i]? = some k → k.size ≤ 4294967296) ∧ szL vs
def szL : List Vt → Prop
 | [] => True
 | v :: vs => szV v ∧ szL vs
end
theorem szL_get : ∀ {vs : List Vt} {i : Nat} {u : Vt}, szL vs → vs[i]? = some u → szV u
 | [], i, u, _, h => by simp at h
 | v :: vs, i, u, hs, h => by
  unfold szL at hs
  cases i with
  | zero => simp at h; subst h; exact hs.1
  | succ i => exact szL_get hs.2 (by simpa using h)
theorem plain17_calls (t : Vt) (hz : szV t) (va : Value) (w : World) (ha : ValAt w t va) :
  Calls Tryz.prog 66 #[va] w fun e w' => e = .returned (.bool (plainV t)) ∧ Below w.heap.size w w' := by
 cases ha with
 | mk k b r t ks vs ko kc vo vc X hw hzz hk hr hv =>
 unfold szV at hz
 obtain ⟨z1, z2, z3, z4⟩ := hzz
 have z1' := z1
 unfold capT at z1'
 unfold plainV
 dsimp only
 by_cases h1 : k = 1
 ·subst h1; rw [if_pos rfl]; exact plain_1 b r t ko ks.length kc vo vs.length vc w
 rw [if_neg h1]
 by_cases h2 : k = 2
 ·subst h2; rw [if_pos rfl]; exact plain_2 b r t ko ks.length kc vo vs.length vc w
 rw [if_neg h2]
 by_cases h3 : k = 3
 ·subst h3; rw [if_pos rfl]; exact plain_3 b r t ko ks.length kc vo vs.length vc w (by omega) _ rfl
 rw [if_neg h3]
 by_cases h4 : k = 4
 ·subst h4; rw [if_pos rfl]; exact plain_4 b r t ko ks.length kc vo vs.length vc w hz.1 _ rfl
 rw [if_neg h4]
 by_cases h5 : k = 5
 ·subst h5; rw [if_pos rfl]; exact plain_5 b r t ko ks.length kc vo vs.length vc w
 rw [if_neg h5]
 by_cases h6 : k = 6
 ·subst h6; rw [if_pos rfl]; exact plain_6 b r t ks ko kc vo vs.length vc w hk z3 z4 hz.2.1
 rw [if_neg h6]
 exact plain_0 k ⟨h1, h2, h3, h4, h5, h6⟩ b r t ko ks.length kc vo vs.length vc w
mutual
/-- Is it well shaped, within so many levels? -/
def wfV : Vt → Int → Bool
 | .mk k b r t ks vs, l => plainV (.mk k b r t ks vs) && (!(decide (k = 5 ∨ k = 6) && decide (l = 0)) && wfL vs (l - 1))
def wfL : List Vt → Int → Bool
 | [], _ => true
 | v :: vs, l => wfV v l && wfL vs l
end
theorem wfL_drop {vs : List Vt} {i : Nat} {u : Vt} (l : Int) (h : vs[i]? = some u) : wfL (vs.drop i) l = (wfV u l && wfL (vs.drop (i + 1)) l) := by
 rw [drop_some h]
 conv => lhs; unfold wfL
/-- What has Kids, and all others zero, is an array or an object. -/
theorem plain_kids {k : Int} {b : Bool} {r t : ByteArray} {ks : List ByteArray} {vs : List Vt} (h : plainV (.mk k b r t ks vs) = true) (hk : ¬ (k = 5 ∨ k = 6)) : vs.length = 0 := by
 unfold plainV at h
 dsimp only at h
 rw [if_neg (show ¬ k = 5 by omega), if_neg (show ¬ k = 6 by omega)] at h
 repeat' split at h
 all_goals first
  | (simp only [Bool.and_eq_true, decide_eq_true_eq] at h; exact h.2.1)
  | (cases h; done)
set_option maxRecDepth 10000 in
set_option maxHeartbeats 4000000 in
theorem form_ex : ∀ (n : Nat) (t : Vt), SizeOf.sizeOf t ≤ n → szV t → ∀ (l : Int), 0 ≤ l → l ≤ 1024 → ∀ (va : Value) (w : World), ValAt w t va →
  Calls Tryz.prog 40 #[va, .int .i64 l] w fun e w' => e = .returned (.bool (wfV t l)) ∧ Below w.heap.size w w' := by
 intro n
 induction n with
 | zero =>
  intro t hs
  cases t
  simp at hs
 | succ n ih =>
  intro t hs hz l hl1 hl2 va w ha
  have hpl := hid (fun u hu => plain17_calls t hz va u hu)
  have ha' := hid ha
  cases ha with
  | mk k b r t ks vs ko kc vo vc X hw hzz hk hr hv =>
  have ih' := hid ih
  have hs' := hid hs
  have hr1 := hid hr
  have hv1 := hid hv
  have hz1 := hid hz
  have hzz1 := hid hzz
  obtain ⟨T, hT⟩ : ∃ T, Hid (wfV (.mk k b r t ks vs) l = T) := ⟨_, rfl⟩
  rw [hT.out]
  obtain ⟨PB, hPB⟩ : ∃ PB, Hid (plainV (.mk k b r t ks vs) = PB) := ⟨_, rfl⟩
  rw [hPB.out] at hpl
  have hT2 : Hid (T = (PB && (!(decide (k = 5 ∨ k = 6) && decide (l = 0)) && wfL vs (l - 1)))) := by
   show _ = _
   rw [← hT.out, ← hPB.out]
   conv => lhs; unfold wfV
  obtain ⟨N, hN⟩ : ∃ N, Hid (ks.length = N) := ⟨_, rfl⟩
  obtain ⟨M, hM⟩ : ∃ M, Hid (vs.length = M) := ⟨_, rfl⟩
  rw [hN.out, hM.out] at hpl ha' ⊢
  have hMi : (M : Int) ≤ 9223372036854775807 := by have := hzz1.out.2.2.2; rw [hM.out] at this; unfold capT at this; omega
  clear ih hs hk hr hv hz hw hzz hT
  have A1 : Hid (At (w.alloc (.cells #[.int .i64 k, .bool b, .string r, .string t, .slice ko N kc, .slice vo M vc] 25)) w.heap.size #[.int .i64 k, .bool b, .string r, .string t, .slice ko N kc, .slice vo M vc] 25) := At.new _ _ _
  have B1 : Hid (Below w.heap.size w (w.alloc (.cells #[.int .i64 k, .bool b, .string r, .string t, .slice ko N kc, .slice vo M vc] 25))) := (Below.refl _ w).alloc (Nat.le_refl _) _
  go_enter Tryz.func40, Tryz.ntmps40
  go_upto_region 1 with fail
  generalize w.alloc (.cells #[.int .i64 k, .bool b, .string r, .string t, .slice ko N kc, .slice vo M vc] 25) = W at A1 B1 ⊢
  have d0 : W.cell? ⟨w.heap.size, 0, none⟩ = some (.int .i64 k) := A1.out.cell 0
  have d1 : W.cell? ⟨w.heap.size, 1, none⟩ = some (.bool b) := A1.out.cell 1
  have d2 : W.cell? ⟨w.heap.size, 2, none⟩ = some (.string r) := A1.out.cell 2
  have d3 : W.cell? ⟨w.heap.size, 3, none⟩ = some (.string t) := A1.out.cell 3
  have d4 : W.cell? ⟨w.heap.size, 4, none⟩ = some (.slice ko N kc) := A1.out.cell 4
  have d5 : W.cell? ⟨w.heap.size, 5, none⟩ = some (.slice vo M vc) := A1.out.cell 5
  have hcl := hid (hpl.out W (ha'.out.kept B1.out))
  clear hpl ha'
  go_wp2_with fail
  refine Calls.mono hcl.out ?_
  rintro e w1 ⟨rfl, hb⟩
  have A2 := hid (A1.out.keptAll hb)
  have B2 := hid (B1.out.trans (hb.mono B1.out.size))
  clear hcl hb A1 B1 d0 d1 d2 d3 d4 d5
  have d0 : w1.cell? ⟨w.heap.size, 0, none⟩ = some (.int .i64 k) := A2.out.cell 0
  cases PB with
  | false =>
   have hfin : Hid (T = false) := by show _ = _; rw [hT2.out]; rfl
   go_wp2
   go_ret
   exact ⟨by rw [hfin.out]; rfl, B2.out⟩
  | true =>
   by_cases hk5 : (k = 5 ∨ k = 6) ∧ l = 0
   ·have hfin : Hid (T = false) := by
     show _ = _
     rw [hT2.out, decide_eq_true hk5.1, decide_eq_true hk5.2]
     rfl
    obtain ⟨hk, rfl⟩ := hk5
    rcases hk with rfl | rfl
    ·go_wp2
     go_ret
     exact ⟨by rw [hfin.out]; rfl, B2.out⟩
    ·go_wp2
     go_ret
     exact ⟨by rw [hfin.out]; rfl, B2.out⟩
   ·have hT3 : Hid (T = wfL vs (l - 1)) := by
     show _ = _
     rw [hT2.out]
     by_cases h1 : k = 5 ∨ k = 6
     ·rw [decide_eq_true h1, decide_eq_false (fun h => hk5 ⟨h1, h⟩)]
      simp
     ·rw [decide_eq_false h1]
      simp
    have hM0 : Hid (¬ (k = 5 ∨ k = 6) → M = 0) := fun h => by rw [← hM.out]; exact plain_kids hPB.out h
    clear hT2 hPB
    go_upto_region 3 with fail
    go_cut [20] from 9 to 20 (fun c wx => c = .bool false ∧ wx = w1)
    case first =>
     obtain ⟨x, hx⟩ : ∃ x, (k == 5) = x := ⟨_, rfl⟩
     obtain ⟨y, hy⟩ : ∃ y, (k == 6) = y := ⟨_, rfl⟩
     have hl0 : (x = true ∨ y = true) → (l == 0) = false := fun h => by
      have : k = 5 ∨ k = 6 := by
       rcases h with rfl | rfl
       ·exact .inl (by simpa using hx)
       ·exact .inr (by simpa using hy)
      have : ¬ l = 0 := fun e => hk5 ⟨this, e⟩
      simpa using this
     cases x
     ·cases y
      ·clear hl0
       go_wp2
       go_meet
       case rel => exact ⟨rfl, rfl⟩
      ·have hl1' := hl0 (.inr rfl)
       clear hl0
       go_wp2
       go_meet
       case rel => exact ⟨rfl, rfl⟩
     ·have hl1' := hl0 (.inl rfl)
      clear hl0
      go_wp2
      go_meet
      case rel => exact ⟨rfl, rfl⟩
    case rest =>
     obtain ⟨rfl, hcw⟩ := hcut
     rw [hcw]
     clear hcw d0
     have hlq : Hid (0 < M → 1 ≤ l) := fun h => by
      by_cases h1 : k = 5 ∨ k = 6
      ·have : ¬ l = 0 := fun e => hk5 ⟨h1, e⟩
       omega
      ·have := hM0.out h1
       omega
     clear hk5 hM0
     go_wp2_with fail
     go_loopw [5] (fun ii wr => ∃ i : Nat, i ≤ M ∧ ii = .int .i64 (i : Int) ∧ Hid (T = wfL (vs.drop i) (l - 1)) ∧ Hid (At wr w.heap.size #[.int .i64 k, .bool b, .string r, .string t, .slice ko N kc, .slice vo M vc] 25) ∧ Hid (Below w.heap.size w wr)) (fun ii _ => M - (intOf ii).toNat)
     case atStart => exact ⟨0, Nat.zero_le _, rfl, hT3, A2, B2⟩
     case round =>
      obtain ⟨i, hi, rfl, hI, hA, hb⟩ := hrel
      have c5 := hA.out.cell 5
      simp only [List.getElem?_toArray, List.getElem?_cons_zero, List.getElem?_cons_succ] at c5
      by_cases hlt : i < M
      ·have hli : (i : Int) < (M : Int) := by omega
       have hlp : 1 ≤ l := hlq.out (by omega)
       obtain ⟨u1, hu1⟩ : ∃ u, Hid (vs[i]? = some u) := ⟨_, List.getElem?_eq_getElem (by rw [hM.out]; exact hlt)⟩
       obtain ⟨g, o, rfl, hg, hrg, hl1'⟩ := row_range (hr1.out.kept hb.out) (i := i) (by rw [hM.out]; exact hlt)
       obtain ⟨L1, hL1⟩ : ∃ L, Hid ((X i).toList = L) := ⟨_, rfl⟩
       rw [hL1.out] at hrg hl1'
       have z1 : (Tryz.prog.info? 25).map (·.size) = some L1.length := by rw [hl1']; exact sizeVl
       have v1 : Hid (ValAt wr u1 (.agg L1.toArray)) := by
        have := (hv1.out i u1 hu1.out).kept hb.out
        rw [← hL1.out, Array.toArray_toList]
        exact this
       obtain ⟨q, hq⟩ : ∃ q, Hid (wfV u1 (l - 1) = q) := ⟨_, rfl⟩
       have hcall : Hid (Calls Tryz.prog 40 #[.agg L1.toArray, .int .i64 (l - 1)] wr fun e w' => e = .returned (.bool q) ∧ Below wr.heap.size wr w') := by
        have hsz := kid_size (k := k) (b := b) (r := r) (t := t) (ks := ks) hu1.out
        have hzu : szV u1 := by
         have := hz1.out
         unfold szV at this
         exact szL_get this.2.2 hu1.out
        have h := ih'.out u1 (by have := hs'.out; omega) hzu (l - 1) (by omega) (by omega) _ wr v1.out
        rw [hq.out] at h
        exact h
       have hnx := hid (hI.out.trans (wfL_drop (l - 1) hu1.out))
       rw [hq.out] at hnx
       have hrgk := hid hrg
       clear hrg hl1' hI
       go_wp2_with (refine wpList_load_want 25 _ g (o + i * 6) L1 _ hrgk.out Tryz.underlying25 z1 rfl rfl rfl (by rfl) ?_)
       refine Calls.mono hcall.out ?_
       rintro e w5 ⟨rfl, hbb⟩
       have J1 := hid (hA.out.keptAll hbb)
       have Jb := hid (hb.out.trans (hbb.mono hb.out.size))
       clear hbb hcall c5 hrgk hA hb
       cases q with
       | true =>
        have hnx2 : Hid (T = wfL (vs.drop (i + 1)) (l - 1)) := by show _ = _; rw [hnx.out]; rfl
        go_wp2
        go_roundw
        case rel => exact ⟨i + 1, by omega, by simp, hnx2, J1, Jb⟩
        case measure => simp [intOf]; omega
       | false =>
        have hfin : Hid (T = false) := by show _ = _; rw [hnx.out]; rfl
        go_wp2
        go_ret
        exact ⟨by rw [hfin.out]; rfl, Jb.out⟩
      ·have hge : (M : Int) ≤ (i : Int) := by omega
       have hfin : Hid (T = true) := by
        show _ = _
        rw [hI.out, List.drop_of_length_le (by rw [hM.out]; omega)]
        unfold wfL
        rfl
       go_wp2
       go_ret
       exact ⟨by rw [hfin.out]; rfl, hb.out⟩
set_option maxRecDepth 10000 in
theorem formed17_calls (t : Vt) (hz : szV t) (va : Value) (w : World) (ha : ValAt w t va) :
  Calls Tryz.prog 27 #[va] w fun e w' => e = .returned (.bool (wfV t 1024)) ∧ Below w.heap.size w w' := by
 have hc := hid (fun u hu => form_ex (SizeOf.sizeOf t) t (Nat.le_refl _) hz 1024 (by decide) (by decide) va u hu)
 generalize wfV t 1024 = B at hc ⊢
 have ha' := hid ha
 cases ha with
 | mk k b r t ks vs ko kc vo vc X hw hzz hk hr hv =>
 clear hw hzz hk hr hv hz
 have B1 : Hid (Below w.heap.size w (w.alloc (.cells #[.int .i64 k, .bool b, .string r, .string t, .slice ko ks.length kc, .slice vo vs.length vc] 25))) := (Below.refl _ w).alloc (Nat.le_refl _) _
 go_enter Tryz.func27, Tryz.ntmps27
 go_wp2_with fail
 generalize w.alloc (.cells #[.int .i64 k, .bool b, .string r, .string t, .slice ko ks.length kc, .slice vo vs.length vc] 25) = W at B1 ⊢
 refine Calls.mono (hc.out W (ha'.out.kept B1.out)) ?_
 rintro e w1 ⟨rfl, hb⟩
 have hb' := hid (B1.out.trans (hb.mono B1.out.size))
 clear hb hc B1 ha'
 go_wp2
 go_ret
 exact ⟨rfl, hb'.out⟩
end Go.Proofs.YtlhbgfhmcjaabaaGreatDoor

/-
 quarryref17.First: the place of the first member of a name.
-/
namespace Go.Proofs.YtlhbgfhmcjaabaaGreatDoor
open Go.RowKit Go.Shelf
/-- The first place of a name among names; -1: there is none. -/
def IsFst (ks : List ByteArray) (nm : ByteArray) (f : Int) : Prop := (f = -1 ∧ ∀ j : Nat, ks[j]? ≠ some nm) ∨ ∃ i : Nat, f = (i : Int) ∧ ks[i]? = some nm ∧ ∀ j, j < i → ks[j]? ≠ some nm
end Go.Proofs.YtlhbgfhmcjaabaaGreatDoor
