/-
  VaS1, VaProg, one behind the other.
-/
import Derived.Test.YtkejlejhnnjdkaaGreatDoorVaR
import Derived.Test.YtkejlejhnnjdkaaGreatDoorPack5
/- Package valid: the depth by the places where something begins; where a value ends (mathematics alone). -/
namespace Go.Proofs.YtkejlejhnnjdkaaGreatDoor
open Go.RowKit Go.Shelf
theorem idxTo_pre (s : ByteArray) {x : Nat} : ∀ n, x ≤ n → ∃ r, idxTo s n = idxTo s x ++ r := by
  intro n
  induction n with
  | zero => intro h; obtain rfl : x = 0 := by omega
            exact ⟨[], by simp⟩
  | succ n ih =>
    intro h
    by_cases e : x = n + 1
    · subst e; exact ⟨[], by simp⟩
    · obtain ⟨r, hr⟩ := ih (by omega)
      cases hb : begS s n with
      | true => exact ⟨r ++ [n], by rw [idxTo_t hb, hr]; simp⟩
      | false => exact ⟨r, by rw [idxTo_f hb, hr]⟩
theorem idx_next (s : ByteArray) : ∀ (n x t : Nat), s.size - x ≤ n → x ≤ s.size → (idxTo s x).length = t →
    (t = (idxS s).length ∧ ∀ q, x ≤ q → q < s.size → begS s q = false) ∨
    (t < (idxS s).length ∧ ∃ p, x ≤ p ∧ p < s.size ∧ begS s p = true ∧ (∀ q, x ≤ q → q < p → begS s q = false) ∧ (idxS s)[t]? = some p ∧ (idxTo s (p + 1)).length = t + 1) := by
  intro n
  induction n with
  | zero =>
    intro x t h1 h2 h3
    obtain rfl : x = s.size := by omega
    exact .inl ⟨h3.symm, fun q a b => by omega⟩
  | succ n ih =>
    intro x t h1 h2 h3
    by_cases hx : x = s.size
    · subst hx
      exact .inl ⟨h3.symm, fun q a b => by omega⟩
    · cases hb : begS s x with
      | true =>
        right
        have e1 := idxTo_t hb
        obtain ⟨r, hr⟩ := idxTo_pre s (x := x + 1) s.size (by omega)
        have hr' : idxS s = idxTo s x ++ [x] ++ r := by unfold idxS; rw [hr, e1]
        refine ⟨by rw [hr']; simp; omega, x, Nat.le_refl _, by omega, hb, fun q a b => by omega, ?_, by rw [e1]; simp; exact h3⟩
        rw [hr', ← h3]
        simp
      | false =>
        have e1 := idxTo_f hb
        rcases ih (x + 1) t (by omega) (by omega) (by rw [e1]; exact h3) with ⟨a, b⟩ | ⟨a, p, b1, b2, b3, b4, b5, b6⟩
        · refine .inl ⟨a, fun q q1 q2 => ?_⟩
          by_cases e : q = x
          · subst e; exact hb
          · exact b q (by omega) q2
        · refine .inr ⟨a, p, by omega, b2, b3, fun q q1 q2 => ?_, b5, b6⟩
          by_cases e : q = x
          · subst e; exact hb
          · exact b4 q (by omega) q2
/-- Where nothing begins, no bracket stands. -/
theorem beg_br {s : ByteArray} {q : Nat} (h : begS s q = false) : brO s q = false ∧ brC s q = false := by
  have h1 : strS s q = false := by
    unfold begS at h
    rw [Bool.or_eq_false_iff] at h
    exact h.1
  unfold strS at h1
  unfold brO brC
  cases ho : outS s q with
  | false => simp
  | true =>
    rw [ho] at h1
    simp only [Bool.true_and] at h1 ⊢
    have : ¬ (byteAt s q = 123 ∨ byteAt s q = 125 ∨ byteAt s q = 91 ∨ byteAt s q = 93 ∨ byteAt s q = 58 ∨ byteAt s q = 44) := fun x => by
      have := (sgn_iff s q).2 x
      rw [this] at h1
      cases h1
    unfold opB clB
    simp
    omega
theorem dep_flat {s : ByteArray} {x : Nat} : ∀ p, x ≤ p → (∀ q, x ≤ q → q < p → begS s q = false) → depS s p = depS s x ∧ maxD (depS s) p = maxD (depS s) x := by
  intro p
  induction p with
  | zero => intro h _; obtain rfl : x = 0 := by omega
            exact ⟨rfl, rfl⟩
  | succ p ih =>
    intro h hq
    by_cases e : x = p + 1
    · subst e; exact ⟨rfl, rfl⟩
    · obtain ⟨a, b⟩ := ih (by omega) (fun q q1 q2 => hq q q1 (by omega))
      obtain ⟨c1, c2⟩ := beg_br (hq p (by omega) (by omega))
      have d1 : depS s (p + 1) = depS s p := by rw [depS_succ, c1, c2]; rfl
      refine ⟨d1.trans a, ?_⟩
      rw [maxD, d1]
      have := maxD_ge (depS s) (Nat.le_refl p)
      omega
/-- At a place where something begins: what the depth becomes. -/
theorem dep_beg {s : ByteArray} {p : Nat} (h : begS s p = true) :
    ((byteAt s p = 123 ∨ byteAt s p = 91) → depS s (p + 1) = depS s p + 1 ∧ maxD (depS s) (p + 1) = max (maxD (depS s) p) (depS s p + 1)) ∧
    ((byteAt s p = 125 ∨ byteAt s p = 93) → depS s (p + 1) = depS s p - 1 ∧ maxD (depS s) (p + 1) = maxD (depS s) p) ∧
    (¬ (byteAt s p = 123 ∨ byteAt s p = 91) → ¬ (byteAt s p = 125 ∨ byteAt s p = 93) → depS s (p + 1) = depS s p ∧ maxD (depS s) (p + 1) = maxD (depS s) p) := by
  have hge := maxD_ge (depS s) (Nat.le_refl p)
  have hout : (byteAt s p = 123 ∨ byteAt s p = 91 ∨ byteAt s p = 125 ∨ byteAt s p = 93) → outS s p = true := fun hc => by
    have hs : sgnB s p = true := (sgn_iff s p).2 (by omega)
    have hm : markS s p = false := mark_not (by omega)
    unfold begS strS wordS at h
    rw [hm, hs] at h
    simpa using h
  refine ⟨fun hc => ?_, fun hc => ?_, fun h1 h2 => ?_⟩
  · have d1 : depS s (p + 1) = depS s p + 1 := by
      rw [depS_succ]
      unfold brO
      have : opB (byteAt s p) = true := by unfold opB; simp; omega
      rw [hout (by omega), this]
      rfl
    exact ⟨d1, by rw [maxD, d1]⟩
  · have d1 : depS s (p + 1) = depS s p - 1 := by
      rw [depS_succ]
      unfold brO brC
      have a1 : opB (byteAt s p) = false := by unfold opB; simp; omega
      have a2 : clB (byteAt s p) = true := by unfold clB; simp; omega
      rw [hout (by omega), a1, a2]
      rfl
    refine ⟨d1, ?_⟩
    rw [maxD, d1]
    omega
  · have d1 : depS s (p + 1) = depS s p := by
      rw [depS_succ]
      unfold brO brC
      have a1 : opB (byteAt s p) = false := by unfold opB; simp; omega
      have a2 : clB (byteAt s p) = false := by unfold clB; simp; omega
      rw [a1, a2]
      simp [stepD]
    refine ⟨d1, ?_⟩
    rw [maxD, d1]
    omega
/-- How far the depth is told, behind the first t places. -/
structure DpS (s : ByteArray) (t D M : Nat) : Prop where
  ex : ∃ x, x ≤ s.size ∧ (idxTo s x).length = t ∧ depS s x = D ∧ maxD (depS s) x = M
theorem DpS.next {s : ByteArray} {t D M : Nat} (h : DpS s t D M) (ht : t < (idxS s).length) : ∃ p, p < s.size ∧ (idxS s)[t]? = some p ∧
    ((byteAt s p = 123 ∨ byteAt s p = 91) → DpS s (t + 1) (D + 1) (max M (D + 1))) ∧ ((byteAt s p = 125 ∨ byteAt s p = 93) → DpS s (t + 1) (D - 1) M) ∧
    (¬ (byteAt s p = 123 ∨ byteAt s p = 91) → ¬ (byteAt s p = 125 ∨ byteAt s p = 93) → DpS s (t + 1) D M) := by
  obtain ⟨x, h1, h2, h3, h4⟩ := h.ex
  rcases idx_next s s.size x t (by omega) h1 h2 with ⟨a, -⟩ | ⟨-, p, b1, b2, b3, b4, b5, b6⟩
  · omega
  · obtain ⟨c1, c2⟩ := dep_flat p b1 b4
    obtain ⟨d1, d2, d3⟩ := dep_beg b3
    rw [c1, c2, h3, h4] at d1 d2 d3
    exact ⟨p, b2, b5, fun hc => ⟨p + 1, by omega, b6, (d1 hc).1, (d1 hc).2⟩, fun hc => ⟨p + 1, by omega, b6, (d2 hc).1, (d2 hc).2⟩, fun e1 e2 => ⟨p + 1, by omega, b6, (d3 e1 e2).1, (d3 e1 e2).2⟩⟩
theorem DpS.done {s : ByteArray} {D M : Nat} (h : DpS s (idxS s).length D M) : M = maxD (depS s) s.size := by
  obtain ⟨x, h1, h2, h3, h4⟩ := h.ex
  rcases idx_next s s.size x _ (by omega) h1 h2 with ⟨-, b⟩ | ⟨a, -⟩
  · rw [← h4]
    exact (dep_flat s.size h1 b).2.symm
  · omega
theorem DpS.le {s : ByteArray} {t D M : Nat} (h : DpS s t D M) : D ≤ s.size ∧ M ≤ s.size := by
  obtain ⟨x, h1, h2, h3, h4⟩ := h.ex
  refine ⟨by rw [← h3]; have := dep_le s x; omega, ?_⟩
  rw [← h4]
  exact maxD_le _ (fun i hi => by have := dep_le s i; omega)
end Go.Proofs.YtkejlejhnnjdkaaGreatDoor
/- What the functions of package valid answer. -/
namespace Go.Proofs.YtkejlejhnnjdkaaGreatDoor
open Go.RowKit Go.Shelf
/-- The tables lie where they were laid. -/
def Ok16 (w : World) : Prop := Tab w ∧ TabM w ∧ 1 < w.heap.size
theorem Ok16.below {w w' : World} (h : Ok16 w) (hb : Below w.heap.size w w') : Ok16 w' :=
  ⟨h.1.below hb (by have := h.2.2; omega), h.2.1.below hb h.2.2, by have := hb.size; have := h.2.2; omega⟩
set_option maxRecDepth 10000 in
set_option maxHeartbeats 1000000 in
theorem ckA_calls (s : ByteArray) (hs : s.size ≤ 8388608) (d : Int) (hd : (Lit.int .i64 d).wf = true) (w : World) :
    Calls Tryz.prog 14 #[.string s, .int .i64 d] w fun e w' => ChkP s d w e w' := by
  have B0 := hid (show Below w.heap.size w (w.alloc (.cells #[.int .i64 0, .int .i64 0] 27)) by repeat (first | with_reducible exact Below.refl _ _ | with_reducible refine Below.setCell ?_ (by first | (simp; done) | (simp; omega)) _ | with_reducible refine below_drewN ?_ _ | with_reducible refine Below.alloc ?_ (by first | (simp; done) | (simp; omega)) _ | with_reducible refine Below.drew ?_))
  have A0 := hid (At.new w #[.int .i64 0, .int .i64 0] 27)
  by_cases hr : d < 1 ∨ 1024 < d
  · have hI := hid (show IsChk s d 0 0 2 from .inl ⟨hr, rfl, rfl, rfl⟩)
    go_enter Tryz.func14, Tryz.ntmps14
    go_upto_region 1 with fail
    generalize w.alloc (.cells #[.int .i64 0, .int .i64 0] 27) = W at A0 B0 ⊢
    have c0 : W.cell? ⟨w.heap.size, 0, none⟩ = some (.int .i64 0) := A0.out.cell 0
    have c1 : W.cell? ⟨w.heap.size, 1, none⟩ = some (.int .i64 0) := A0.out.cell 1
    have f0 := A0.out.frozen 0
    have f1 := A0.out.frozen 1
    have B3 := hid ((B0.out.setCell (p := ⟨w.heap.size, 0, none⟩) (Nat.le_refl _) (.int .i64 0)).setCell (p := ⟨w.heap.size, 1, none⟩) (Nat.le_refl _) (.int .i64 0))
    have A3 := hid (A0.out.two_ver (x' := .int .i64 0) (y' := .int .i64 0))
    clear A0 B0
    rcases hr with hr | hr
    · have e1 : decide (d < 1) = true := by simp; omega
      go_wp2
      exact ret_ver rfl rfl A3.out rfl ⟨0, 0, 2, rfl, hI.out, B3.out⟩
    · have e0 : decide (d < 1) = false := by simp; omega
      have e1 : decide (1024 < d) = true := by simp; omega
      go_wp2
      exact ret_ver rfl rfl A3.out rfl ⟨0, 0, 2, rfl, hI.out, B3.out⟩
  · obtain ⟨k, rfl⟩ : ∃ k : Nat, d = (k : Int) := ⟨d.toNat, by omega⟩
    have h1 : 1 ≤ k := by omega
    have h2 : k ≤ 1024 := by omega
    have e0 : decide ((k : Int) < 1) = false := by simp; omega
    have e1 : decide (1024 < (k : Int)) = false := by simp; omega
    have hv := hid (fun u => verdict_calls s k hs u)
    clear hr hd
    go_enter Tryz.func14, Tryz.ntmps14
    go_upto_region 1 with fail
    generalize w.alloc (.cells #[.int .i64 0, .int .i64 0] 27) = W at A0 B0 ⊢
    go_wp2_with fail
    refine Calls.mono (hv.out _) ?_
    rintro e w2 ⟨C, A, rfl, hI, hb⟩
    have hI' := hid (ver_chk h1 h2 hI)
    have B2 := hid (B0.out.trans (hb.mono B0.out.size))
    have A2 := hid (A0.out.keptAll hb)
    clear hb hv A0 B0 hI
    have c0 : w2.cell? ⟨w.heap.size, 0, none⟩ = some (.int .i64 0) := A2.out.cell 0
    have c1 : w2.cell? ⟨w.heap.size, 1, none⟩ = some (.int .i64 0) := A2.out.cell 1
    have f0 := A2.out.frozen 0
    have f1 := A2.out.frozen 1
    have B3 := hid ((B2.out.setCell (p := ⟨w.heap.size, 0, none⟩) (Nat.le_refl _) (.int .i64 (C : Int))).setCell (p := ⟨w.heap.size, 1, none⟩) (Nat.le_refl _) (.int .i64 (A : Int)))
    have A3 := hid (A2.out.two_ver (x' := .int .i64 (C : Int)) (y' := .int .i64 (A : Int)))
    clear A2 B2
    go_wp2
    exact ret_ver rfl rfl A3.out rfl ⟨C, A, 0, rfl, hI'.out, B3.out⟩
end Go.Proofs.YtkejlejhnnjdkaaGreatDoor
