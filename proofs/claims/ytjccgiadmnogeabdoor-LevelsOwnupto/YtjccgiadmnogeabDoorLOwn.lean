/-
  The walk through quarrylaw10.LevelsOwn.
-/
import Derived.Test.YtjccgiadmnogeabDoorLvAwake
import Derived.Test.YtjccgiadmnogeabDoorLSteps
import Derived.Deep.DeepCutAuto
import Derived.Deep.RegionHeld
namespace Go.Proofs.YtjccgiadmnogeabDoor
open Go.RowKit Go.Shelf

theorem next_le {s : ByteArray} {n q p : Nat} (hq : (idxS s)[n]? = some q) (hp : begS s p = true) (hqp : q < p) : ipl s (n + 1) ≤ p :=
  Nat.le_of_not_lt fun h => by have := ipl_next hq hqp h; rw [hp] at this; cases this
theorem first_le {s : ByteArray} {p : Nat} (hp : begS s p = true) : ipl s 0 ≤ p :=
  Nat.le_of_not_lt fun h => by have := ipl_zero h; rw [hp] at this; cases this
theorem beg_brO {s : ByteArray} {i : Nat} (h : brO s i = true) : begS s i = true := by
  obtain ⟨_, h2, h3⟩ := br_at h
  rw [beg_sgn (sgn_op h3)]; exact h2
theorem beg_brC {s : ByteArray} {i : Nat} (h : brC s i = true) : begS s i = true := by
  unfold brC at h
  rw [Bool.and_eq_true] at h
  rw [beg_sgn (sgn_cl h.2)]; exact h.1
/-- The bracket i0 is closed at p. -/
def OwnB (s : ByteArray) (i0 p d : Nat) : Prop := brO s i0 = true ∧ p < s.size ∧ clsP s i0 p = true ∧ (∀ q, q < p → clsP s i0 q = false) ∧ depS s i0 + 1 = d
/-- The depth ahead of the place, within the bracket. -/
def dpO (s : ByteArray) (i0 p x : Nat) : Nat := depS s (max (i0 + 1) (min x p))
def inO (c : Nat) (s : ByteArray) (i0 p d : Nat) (i : Nat) : Bool := lvS c s d i && (decide ((i0 : Int) ≤ (i : Int)) && decide ((i : Int) < (p : Int)))
section
variable {s : ByteArray} {i0 p d : Nat}
theorem OwnB.parts (h : OwnB s i0 p d) : i0 < p ∧ begS s i0 = true ∧ begS s p = true ∧ depS s p = d ∧ depS s (i0 + 1) = d := by
  obtain ⟨h1, h2, h3, h4, h5⟩ := h
  unfold clsP at h3
  rw [Bool.and_eq_true, Bool.and_eq_true] at h3
  exact ⟨of_decide_eq_true h3.1, beg_brO h1, beg_brC h3.2.1, by rw [of_decide_eq_true h3.2.2]; exact h5, by rw [depS_succ, h1]; exact h5⟩
theorem OwnB.deep (h : OwnB s i0 p d) {q : Nat} (h1 : i0 < q) (h2 : q ≤ p) : d ≤ depS s q := by
  have := deep_in (i := q - 1) h.1 (by omega) (fun r hr => h.2.2.2.1 r (by omega))
  rw [show q - 1 + 1 = q by omega] at this
  have := h.2.2.2.2
  omega
theorem OwnB.out (h : OwnB s i0 p d) {n q : Nat} (hq : (idxS s)[n]? = some q) (ho : q ≤ i0 ∨ p ≤ q) : dpO s i0 p q = d ∧ dpO s i0 p (ipl s (n + 1)) = d := by
  obtain ⟨a1, a2, a3, a4, a5⟩ := h.parts
  have hup := ipl_up hq
  unfold dpO
  rcases ho with ho | ho
  · refine ⟨by rw [show max (i0 + 1) (min q p) = i0 + 1 by omega]; exact a5, ?_⟩
    by_cases he : q = i0
    · subst he
      have hle := next_le hq a3 a1
      rw [show max (q + 1) (min (ipl s (n + 1)) p) = ipl s (n + 1) by omega, ipl_dep hq]
      have hb := (br_at h.1).2.2
      rw [hb]
      exact h.2.2.2.2
    · have hle := next_le hq a2 (by omega)
      rw [show max (i0 + 1) (min (ipl s (n + 1)) p) = i0 + 1 by omega]
      exact a5
  · exact ⟨by rw [show max (i0 + 1) (min q p) = p by omega]; exact a4, by rw [show max (i0 + 1) (min (ipl s (n + 1)) p) = p by omega]; exact a4⟩
theorem OwnB.mid (h : OwnB s i0 p d) {n q : Nat} (hq : (idxS s)[n]? = some q) (h1 : i0 < q) (h2 : q < p) : dpO s i0 p q = depS s q ∧ dpO s i0 p (ipl s (n + 1)) = stepD (opB (byteAt s q)) (clB (byteAt s q)) (depS s q) := by
  obtain ⟨a1, a2, a3, a4, a5⟩ := h.parts
  have hup := ipl_up hq
  have hle := next_le hq a3 h2
  unfold dpO
  exact ⟨by rw [show max (i0 + 1) (min q p) = q by omega], by rw [show max (i0 + 1) (min (ipl s (n + 1)) p) = ipl s (n + 1) by omega]; exact ipl_dep hq⟩
theorem OwnB.zero (h : OwnB s i0 p d) : dpO s i0 p (ipl s 0) = d := by
  obtain ⟨a1, a2, a3, a4, a5⟩ := h.parts
  have := first_le a2
  unfold dpO
  rw [show max (i0 + 1) (min (ipl s 0) p) = i0 + 1 by omega]
  exact a5
theorem inO_next {c : Nat} (hc : c = 58 ∨ c = 44) {n q : Nat} (hq : (idxS s)[n]? = some q) : fl (inO c s i0 p d) (ipl s (n + 1)) = fl (inO c s i0 p d) (q + 1) :=
  fl_skip (ipl_up hq) (fun i h1 h2 => by unfold inO; rw [nbeg_lv c d hc (ipl_next hq (by omega) h2)]; rfl)
theorem inO_zero {c : Nat} (hc : c = 58 ∨ c = 44) : fl (inO c s i0 p d) (ipl s 0) = [] := by
  rw [fl_skip (Nat.zero_le _) (fun i _ h2 => by unfold inO; rw [nbeg_lv c d hc (ipl_zero h2)]; rfl), fl_zero]
theorem inO_off {c q : Nat} (hc : c = 58 ∨ c = 44) (hb : begS s q = true) (h : OwnB s i0 p d) (ho : (q ≤ i0 ∨ p ≤ q) ∨ byteAt s q ≠ c ∨ depS s q ≠ d) : inO c s i0 p d q = false := by
  unfold inO
  rcases ho with (ho | ho) | ho | ho
  · by_cases he : q = i0
    · have hop := (br_at h.1).2.2
      rw [he, beg_lv c d hc h.parts.2.1]
      have : byteAt s i0 ≠ c := fun e => by rw [e] at hop; rcases hc with rfl | rfl <;> cases hop
      rw [beq_eq_false_iff_ne.2 this]; rfl
    · rw [decide_eq_false (show ¬ (i0 : Int) ≤ (q : Int) by omega)]; simp
  · rw [decide_eq_false (show ¬ (q : Int) < (p : Int) by omega)]; simp
  · rw [beg_lv c d hc hb, beq_eq_false_iff_ne.2 ho]; rfl
  · rw [beg_lv c d hc hb, decide_eq_false ho]; simp
theorem inO_on {c q : Nat} (hc : c = 58 ∨ c = 44) (hb : begS s q = true) (h1 : i0 < q) (h2 : q < p) (h3 : byteAt s q = c) (h4 : depS s q = d) : inO c s i0 p d q = true := by
  unfold inO
  rw [beg_lv c d hc hb, beq_iff_eq.2 h3, decide_eq_true h4, decide_eq_true (by omega), decide_eq_true (by omega)]; rfl
end
theorem fl_pre (P : Nat → Bool) {a b : Nat} (h : a ≤ b) : ∃ M, fl P b = fl P a ++ M := by
  induction b with
  | zero => exact ⟨[], by rw [show a = 0 by omega]; rfl⟩
  | succ b ih =>
    by_cases he : a = b + 1
    · exact ⟨[], by rw [he, List.append_nil]⟩
    · obtain ⟨M, hM⟩ := ih (by omega)
      cases hb : P b
      · exact ⟨M, by rw [fl_f hb, hM]⟩
      · exact ⟨M ++ [b], by rw [fl_t hb, hM, List.append_assoc]⟩
theorem fl_at {P : Nat → Bool} {q n : Nat} (h : P q = true) (hq : q < n) : (fl P n)[(fl P q).length]? = some q := by
  obtain ⟨M, hM⟩ := fl_pre P (show q + 1 ≤ n by omega)
  rw [hM, fl_t h]
  simp
theorem fl_le (P : Nat → Bool) {a b : Nat} (h : a ≤ b) : (fl P a).length ≤ (fl P b).length := by
  obtain ⟨M, hM⟩ := fl_pre P h
  rw [hM, List.length_append]
  omega
theorem within_none (x : Option Addr) (m c : Nat) (lv f t : Int) (hm : m ≤ 64) (hlv : (m : Int) < lv) (w : World) (W : World) (hb : Below w.heap.size w W) :
    Calls Tryd.prog 39 #[.slice x m c, .int .i64 lv, .agg #[.int .i64 f, .int .i64 t]] W fun e w' => ∃ v, e = .returned v ∧ PlaW w [] v w' := by
  refine Calls.mono (within_off x m c lv f t (by omega) (.inr hlv) W) ?_
  rintro e w' ⟨rfl, hb2⟩
  exact ⟨_, rfl, World.ownsRow_nil _ _ _ _, hb.trans (hb2.mono hb.size)⟩
/-- What stays between two places of Index. -/
def OwS (w : World) (W : World) : Prop := Below w.heap.size w W

set_option maxRecDepth 10000 in
set_option maxHeartbeats 8000000 in
theorem levelsOwn_walk (s : ByteArray) (hs : s.size ≤ 1048576) (a : Int) (ha : (Lit.int .i64 a).wf = true) (w : World) (hT : Tab w) (hM : TabM w) (h0 : 1 < w.heap.size) :
    Calls Tryd.prog 3 #[.string s, .int .i64 a] w fun e w' => e = .returned (.bool true) ∧ Below w.heap.size w w' := by
  have hAw := hid (awake10_calls w hT hM h0)
  have hCl := hid (fun (w1 : World) (hb : Below w.heap.size w w1) => close_calls s (by omega) a ha w1 (hT.below hb (by omega)) (hM.below hb h0) (by have := hb.size; omega))
  have hBu := hid (fun (w1 : World) (hb : Below w.heap.size w w1) => build_calls s (by omega) 64 (by decide) (by decide) w1 (hT.below hb (by omega)) (hM.below hb h0) (by have := hb.size; omega))
  have hDe := hid (fun (b : Int) (D : Nat) (hD : Hid (depN s b = D)) (w1 : World) (hb : Below w.heap.size w w1) => depth_calls s (by omega) b D hD w1 (hT.below hb (by omega)) (hM.below hb h0) (by have := hb.size; omega))
  have hIx := hid (fun (w1 : World) (hb : Below w.heap.size w w1) => index8_calls s (by omega) w1 (hT.below hb (by omega)) (hM.below hb h0) (by have := hb.size; omega))
  have hsi : (s.size : Int) ≤ 1048576 := by omega
  have haw := hid ha
  have hT' := hid hT
  have h0' := hid h0
  clear hT hM h0 ha
  go_enter Tryd.func3, Tryd.ntmps3
  go_wp2_with fail
  refine Calls.mono hAw.out ?_
  rintro e w1 ⟨rfl, q1⟩
  have hb1 := hid q1
  clear q1 hAw
  go_wp2_with fail
  refine Calls.mono (hCl.out _ hb1.out) ?_
  rintro e w2 ⟨c, rfl, hc, q2⟩
  have hb2 := hid (hb1.out.trans (q2.mono hb1.out.size))
  have hc' := hid hc
  clear q2 hb1 hCl hc
  go_wp2_with fail
  refine Calls.mono (hBu.out _ hb2.out) ?_
  rintro e w3 ⟨A, B, rfl, hL⟩
  obtain ⟨-, -, hA, hB, q3⟩ := hL
  have hb3 : Below w.heap.size w w3 := hb2.out.trans (q3.mono hb2.out.size)
  obtain ⟨V, hV⟩ : ∃ V, w3.alloc (.cells #[.slice (some ⟨A, 0, none⟩) 64 64, .slice (some ⟨B, 0, none⟩) 64 64] 26) = V := ⟨_, rfl⟩
  have aV : At V w3.heap.size #[.slice (some ⟨A, 0, none⟩) 64 64, .slice (some ⟨B, 0, none⟩) 64 64] 26 := by rw [← hV]; exact At.new w3 _ _
  have bV : Below w3.heap.size w3 V := by rw [← hV]; repeat (first | with_reducible exact Below.refl _ _ | with_reducible refine Below.setCell ?_ (by first | (simp; done) | (simp; omega)) _ | with_reducible refine below_drewN ?_ _ | with_reducible refine Below.alloc ?_ (by first | (simp; done) | (simp; omega)) _ | with_reducible refine Below.drew ?_)
  have hbV := hid (hb3.trans (bV.mono hb3.size))
  have hAV := hid (hA.kept bV)
  have hBV := hid (hB.kept bV)
  obtain ⟨b, hb⟩ : ∃ b, w3.heap.size = b := ⟨_, rfl⟩
  rw [hb] at aV
  have aV' := hid aV
  obtain ⟨c0, c1, -, -⟩ := aV.factsL
  clear hA hB hb3 bV aV q3 hBu hb2
  by_cases hc0 : c < 0
  · clear hDe hIx
    go_wp2
    go_ret
    exact ⟨rfl, hbV.out⟩
  · obtain ⟨i0, rfl, p, rfl, hO⟩ : ∃ i0 : Nat, a = i0 ∧ ∃ p : Nat, c = p ∧ OwnB s i0 p (depS s i0 + 1) := by
      rcases hc'.out with ⟨i, hi, hb, ⟨p, h1, h2, h3, h4⟩ | ⟨h, -⟩⟩ | ⟨h, -⟩
      · exact ⟨i, hi, p, h1, hb, h2, h3, h4, rfl⟩
      · omega
      · omega
    have hO' := hid hO
    have hi0p := hO.parts.1
    have hps := hO.2.1
    obtain ⟨D, hD⟩ : ∃ D, Hid (depN s (i0 : Int) = D) := ⟨_, rfl⟩
    have hDs : Hid (depS s i0 = D) := by show _ = _; rw [← depN_at (by omega), hD.out]
    have hDl : D ≤ 1048576 := by have := depS_le s i0; rw [hDs.out] at this; omega
    have n0 : decide ((p : Int) < 0) = false := by simp
    have hOD : Hid (OwnB s i0 p (D + 1)) := by have h := hO; rw [hDs.out] at h; exact h
    clear hO hO' hc0 hc'
    go_wp2_with fail
    refine Calls.mono (hDe.out _ D hD _ hbV.out) ?_
    rintro e w4 ⟨rfl, q4⟩
    have hb4 := hid (hbV.out.trans (q4.mono hbV.out.size))
    have hA4 := hid (hAV.out.kept q4)
    have hB4 := hid (hBV.out.kept q4)
    have a4 := hid (aV'.out.keptAll q4)
    clear q4 hbV hAV hBV aV' hV hb c0 c1
    have hwi : Hid ((Lit.int .i64 (i0 : Int)).wf = true ∧ (Lit.int .i64 (p : Int)).wf = true) := ⟨WalkArith.wf_i64 (by omega), WalkArith.wf_i64 (by omega)⟩
    obtain ⟨CL, hCL⟩ : ∃ CL, Hid ((if D < 64 then fl (inO 58 s i0 p (D + 1)) s.size else []) = CL) := ⟨_, rfl⟩
    obtain ⟨CM, hCM⟩ : ∃ CM, Hid ((if D < 64 then fl (inO 44 s i0 p (D + 1)) s.size else []) = CM) := ⟨_, rfl⟩
    have hcol := hid (fun (u : World) (hu : Below w4.heap.size w4 u) => colons_of (.slice (some ⟨A, 0, none⟩) 64 64) (.slice (some ⟨B, 0, none⟩) 64 64) ((D : Int) + 1) (i0 : Int) (p : Int) u (PlaW u CL) (fun W hW => by
      rw [← hCL.out]
      by_cases hD64 : D < 64
      · rw [if_pos hD64]
        exact within_lv A 64 s.size _ (fun k => lvS 58 s (k + 1)) D (i0 : Int) (p : Int) (by omega) (by decide) hD64 hwi.out.1 hwi.out.2 (fun _ _ => rfl) u (hT'.out.below (hb4.out.trans (hu.mono hb4.out.size)) (by have := h0'.out; omega)) (by have := h0'.out; have := hb4.out.size; have := hu.size; omega) (hA4.out.kept hu) W hW
      · rw [if_neg hD64]
        exact within_none _ 64 64 _ _ _ (by decide) (by omega) u W hW))
    have hcom := hid (fun (u : World) (hu : Below w4.heap.size w4 u) => commas_of (.slice (some ⟨A, 0, none⟩) 64 64) (.slice (some ⟨B, 0, none⟩) 64 64) ((D : Int) + 1) (i0 : Int) (p : Int) u (PlaW u CM) (fun W hW => by
      rw [← hCM.out]
      by_cases hD64 : D < 64
      · rw [if_pos hD64]
        exact within_lv B 64 s.size _ (fun k => lvS 44 s (k + 1)) D (i0 : Int) (p : Int) (by omega) (by decide) hD64 hwi.out.1 hwi.out.2 (fun _ _ => rfl) u (hT'.out.below (hb4.out.trans (hu.mono hb4.out.size)) (by have := h0'.out; omega)) (by have := h0'.out; have := hb4.out.size; have := hu.size; omega) (hB4.out.kept hu) W hW
      · rw [if_neg hD64]
        exact within_none _ 64 64 _ _ _ (by decide) (by omega) u W hW))
    obtain ⟨c0, c1, -, -⟩ := a4.out.factsL
    go_upto_region 10 with fail
    go_cut [9, 10] from 47 to 58 (fun v1 v2 wx => ∃ (ao1 : Option Addr) (cap1 : Nat) (ao2 : Option Addr) (cap2 : Nat), v1 = .slice ao1 CL.length cap1 ∧ v2 = .slice ao2 CM.length cap2 ∧ Hid (IntsAt wx ao1 CL) ∧ Hid (IntsAt wx ao2 CM) ∧ Hid (Below w.heap.size w wx))
    case first =>
      have hheld : w4.drew.cell? ⟨b, 0, none⟩ = some (.slice (some ⟨A, 0, none⟩) 64 64) ∧ w4.drew.cell? ⟨b, 1, none⟩ = some (.slice (some ⟨B, 0, none⟩) 64 64) := ⟨c0, c1⟩
      refine wp_region_held_drew (S := fun w' => w'.cell? ⟨b, 0, none⟩ = some (.slice (some ⟨A, 0, none⟩) 64 64) ∧ w'.cell? ⟨b, 1, none⟩ = some (.slice (some ⟨B, 0, none⟩) 64 64)) (by kernel_rfl) hheld (fun hHeld => ?_)
      clear hHeld c0 c1
      have hq0 : Below w4.heap.size w4 w4.drew := (Below.refl _ _).drew
      obtain ⟨v0, hv0⟩ : ∃ v, w4.drew = v := ⟨_, rfl⟩
      rw [hv0] at hq0 hheld ⊢
      clear hv0
      (refine' wpAnyH_take (i := 0) rfl (by kernel_rfl) (by kernel_rfl) (by kernel_rfl) (fun _ _ _ h => h) (Or.inl ⟨by rfl, ?_⟩) (by assumption) ?_; rotate_left; (· (intro wq hq; (try dsimp only at hq); go_simp; first | done | with_reducible rfl)); simp only [Act.put, List.getElem_toArray, List.getElem_cons_zero, List.setIfInBounds_toArray, List.set_cons_zero, List.set_cons_succ])
      (refine' wpAnyH_take (i := 1) rfl (by kernel_rfl) (by kernel_rfl) (by kernel_rfl) (fun _ _ _ h => h) (Or.inl ⟨by rfl, ?_⟩) (by assumption) ?_; rotate_left; (· (intro wq hq; (try dsimp only at hq); go_simp; first | done | with_reducible rfl)); simp only [Act.put, List.getElem_toArray, List.getElem_cons_zero, List.getElem_cons_succ, List.setIfInBounds_toArray, List.set_cons_zero, List.set_cons_succ])
      (refine' wpAnyH_take (i := 2) rfl (by kernel_rfl) (by kernel_rfl) (by kernel_rfl) (fun _ _ _ h => h) (Or.inl ⟨by rfl, ?_⟩) (by assumption) ?_; rotate_left; (· (intro wq hq; (try dsimp only at hq); go_simp; first | done | with_reducible rfl)); simp only [Act.put, List.getElem_toArray, List.getElem_cons_zero, List.getElem_cons_succ, List.setIfInBounds_toArray, List.set_cons_zero, List.set_cons_succ])
      (refine' wpAnyH_take (i := 3) rfl (by kernel_rfl) (by kernel_rfl) (by kernel_rfl) (fun _ _ _ h => h) (Or.inl ⟨by rfl, ?_⟩) (by assumption) ?_; rotate_left; (· (intro wq hq; (try dsimp only at hq); go_simp; first | done | with_reducible rfl)); simp only [Act.put, List.getElem_toArray, List.getElem_cons_zero, List.getElem_cons_succ, List.setIfInBounds_toArray, List.set_cons_zero, List.set_cons_succ])
      (refine' wpAnyH_take (i := 4) rfl (by kernel_rfl) (by kernel_rfl) (by kernel_rfl) (fun _ _ _ h => h) (Or.inl ⟨by rfl, ?_⟩) (by assumption) ?_; rotate_left; (· (intro wq hq; (try dsimp only at hq); go_simp; first | done | with_reducible rfl)); simp only [Act.put, List.getElem_toArray, List.getElem_cons_zero, List.getElem_cons_succ, List.setIfInBounds_toArray, List.set_cons_zero, List.set_cons_succ])
      (refine' wpAnyH_take (i := 6) rfl (by kernel_rfl) (by kernel_rfl) (by kernel_rfl) (fun _ _ _ h => h) (Or.inl ⟨by rfl, ?_⟩) (by assumption) ?_; rotate_left; (· (intro wq hq; (try dsimp only at hq); go_simp; first | done | with_reducible rfl)); simp only [Act.put, List.getElem_toArray, List.getElem_cons_zero, List.getElem_cons_succ, List.setIfInBounds_toArray, List.set_cons_zero, List.set_cons_succ])
      (refine' wpAnyH_take (i := 7) rfl (by kernel_rfl) (by kernel_rfl) (by kernel_rfl) (fun _ _ _ h => h) (Or.inl ⟨by rfl, ?_⟩) (by assumption) ?_; rotate_left; (· (intro wq hq; (try dsimp only at hq); go_simp; first | done | with_reducible rfl)); simp only [Act.put, List.getElem_toArray, List.getElem_cons_zero, List.getElem_cons_succ, List.setIfInBounds_toArray, List.set_cons_zero, List.set_cons_succ])
      (refine' wpAnyH_take (i := 8) rfl (by kernel_rfl) (by kernel_rfl) (by kernel_rfl) (fun _ _ _ h => h) (Or.inl ⟨by rfl, ?_⟩) (by assumption) ?_; rotate_left; (· (intro wq hq; (try dsimp only at hq); go_simp; first | done | with_reducible rfl)); simp only [Act.put, List.getElem_toArray, List.getElem_cons_zero, List.getElem_cons_succ, List.setIfInBounds_toArray, List.set_cons_zero, List.set_cons_succ])
      (refine' wpAnyH_take (i := 9) rfl (by kernel_rfl) (by kernel_rfl) (by kernel_rfl) (fun _ _ _ h => h) (Or.inl ⟨by rfl, ?_⟩) (by assumption) ?_; rotate_left; (· (intro wq hq; (try dsimp only at hq); go_simp; first | done | with_reducible rfl)); simp only [Act.put, List.getElem_toArray, List.getElem_cons_zero, List.getElem_cons_succ, List.setIfInBounds_toArray, List.set_cons_zero, List.set_cons_succ])
      (refine' wpAnyH_take (i := 10) rfl (by kernel_rfl) (by kernel_rfl) (by kernel_rfl) (fun _ _ _ h => h) (Or.inl ⟨by rfl, ?_⟩) (by assumption) ?_; rotate_left; (· (intro wq hq; (try dsimp only at hq); go_simp; first | done | with_reducible rfl)); simp only [Act.put, List.getElem_toArray, List.getElem_cons_zero, List.getElem_cons_succ, List.setIfInBounds_toArray, List.set_cons_zero, List.set_cons_succ])
      refine wpAnyH_ready (rs := [5]) (by kernel_rfl) (by simp) ?_
      refine AllReadyH.cons rfl (fun K hK => ?_) ?_
      · rw [if_pos (by rfl)]
        go_simp
        refine Calls.mono (hcol.out _ hq0) ?_
        rintro e v1 ⟨x1, rfl, hr1, q1⟩
        obtain ⟨ao1, cap1, rfl, hi1⟩ := ints_row hr1
        have hq1 : Below w4.heap.size w4 v1 := hq0.trans (q1.mono hq0.size)
        have hi1' := hid hi1
        clear hr1 hi1 q1
        refine hK.out _ _ ⟨(a4.out.keptAll hq1).factsL.1, (a4.out.keptAll hq1).factsL.2.1⟩ (fun _ => ?_)
        clear hK K
        refine wpAnyH_ready (rs := [11]) (by kernel_rfl) (by simp) ?_
        refine AllReadyH.cons rfl (fun K hK => ?_) ?_
        · rw [if_pos (by rfl)]
          go_simp
          refine Calls.mono (hcom.out _ hq1) ?_
          rintro e v2 ⟨x2, rfl, hr2, q2⟩
          obtain ⟨ao2, cap2, rfl, hi2⟩ := ints_row hr2
          have hq2 : Below w4.heap.size w4 v2 := hq1.trans (q2.mono hq1.size)
          have hi2' := hid hi2
          have hi12 := hid (hi1'.out.kept (Nat.le_refl _) q2)
          clear hr2 hi2 q2 hi1'
          refine hK.out _ _ ⟨(a4.out.keptAll hq2).factsL.1, (a4.out.keptAll hq2).factsL.2.1⟩ (fun _ => ?_)
          clear hK K
          (refine' wpAnyH_take (i := 12) rfl (by kernel_rfl) (by kernel_rfl) (by kernel_rfl) (fun _ _ _ h => h) (Or.inl ⟨by rfl, ?_⟩) (by assumption) ?_; rotate_left; (· (intro wq hq; (try dsimp only at hq); go_simp; first | done | with_reducible rfl)); simp only [Act.put, List.getElem_toArray, List.getElem_cons_zero, List.getElem_cons_succ, List.setIfInBounds_toArray, List.set_cons_zero, List.set_cons_succ])
          (refine' wpAnyH_take (i := 13) rfl (by kernel_rfl) (by kernel_rfl) (by kernel_rfl) (fun _ _ _ h => h) (Or.inl ⟨by rfl, ?_⟩) (by assumption) ?_; rotate_left; (· (intro wq hq; (try dsimp only at hq); go_simp; first | done | with_reducible rfl)); simp only [Act.put, List.getElem_toArray, List.getElem_cons_zero, List.getElem_cons_succ, List.setIfInBounds_toArray, List.set_cons_zero, List.set_cons_succ])
          refine wpAnyH_done (by kernel_rfl) ?_ _
          go_wp2
          go_meet
          case rel => exact ⟨_, _, _, _, rfl, rfl, hi12, hi2', hb4.out.trans (hq2.mono hb4.out.size)⟩
        exact AllReadyH.nil
      exact AllReadyH.nil
    case rest =>
      obtain ⟨ao1, cap1, ao2, cap2, rfl, rfl, hi1, hi2, hb5⟩ := hcut
      clear hcol hcom hA4 hB4 a4 hb4 c0 c1
      by_cases hD64 : D < 64
      · have e1 : CL = fl (inO 58 s i0 p (D + 1)) s.size := by rw [← hCL.out, if_pos hD64]
        have e2 : CM = fl (inO 44 s i0 p (D + 1)) s.size := by rw [← hCM.out, if_pos hD64]
        have he1 := hid e1
        have he2 := hid e2
        obtain ⟨L1, hL1⟩ : ∃ L1, Hid (CL.length = L1) := ⟨_, rfl⟩
        obtain ⟨L2, hL2⟩ : ∃ L2, Hid (CM.length = L2) := ⟨_, rfl⟩
        rw [hL1.out, hL2.out]
        have hL1l : L1 ≤ 1048576 := by have := fl_len (inO 58 s i0 p (D + 1)) s.size; rw [← e1, hL1.out] at this; omega
        have hL2l : L2 ≤ 1048576 := by have := fl_len (inO 44 s i0 p (D + 1)) s.size; rw [← e2, hL2.out] at this; omega
        have n1 : decide ((64 : Int) < (D : Int) + 1) = false := by simp; omega
        clear e1 e2 hCL hCM hD64
        go_wp2_with fail
        refine Calls.mono (hIx.out _ hb5.out) ?_
        rintro e w6 ⟨v6, rfl, hown6, q6⟩
        obtain ⟨ao6, cap6, rfl, hi6⟩ := ints_row hown6
        have hb6 := hid (hb5.out.trans (q6.mono hb5.out.size))
        have hj1 := hid (hi1.out.kept (Nat.le_refl _) q6)
        have hj2 := hid (hi2.out.kept (Nat.le_refl _) q6)
        have hj6 := hid hi6
        obtain ⟨L, hL⟩ : ∃ L, Hid ((idxS s).length = L) := ⟨_, rfl⟩
        have hLl : L ≤ 1048576 := by
          rw [← hL.out]
          unfold idxS idxTo
          have := List.length_filter_le (begS s) (List.range s.size)
          rw [List.length_range] at this
          omega
        rw [hL.out]
        clear hi1 hi2 hi6 hown6 q6 hb5 hIx n1
        go_wp2
        go_loopw [11, 12, 14, 15] (fun c1 c2 dv nv wr => ∃ n : Nat, n ≤ L ∧ nv = .int .i64 (n : Int) ∧ c1 = .int .i64 (((fl (inO 58 s i0 p (D + 1)) (ipl s n)).length : Nat) : Int) ∧ c2 = .int .i64 (((fl (inO 44 s i0 p (D + 1)) (ipl s n)).length : Nat) : Int) ∧ dv = .int .i64 ((dpO s i0 p (ipl s n) : Nat) : Int) ∧ Hid (Below w6.heap.size w6 wr)) (fun _ _ _ nv _ => L - (intOf nv).toNat)
        case atStart => exact ⟨0, Nat.zero_le _, rfl, by rw [inO_zero (.inl rfl)]; rfl, by rw [inO_zero (.inr rfl)]; rfl, by rw [hOD.out.zero]; go_num, Below.refl _ _⟩
        case round =>
          obtain ⟨n, hn, rfl, rfl, rfl, rfl, hb⟩ := hrel
          by_cases hlt : n < L
          · have hli : (n : Int) < (L : Int) := by omega
            obtain ⟨q, hq⟩ : ∃ q, (idxS s)[n]? = some q := ⟨_, List.getElem?_eq_getElem (by rw [hL.out]; exact hlt)⟩
            obtain ⟨hqs, hqb⟩ := idxS_mem.1 (List.mem_of_getElem? hq)
            obtain ⟨g6, rfl, hg6, k6⟩ := hj6.out n q hq
            have c6 := (hb.out.cell (p := ⟨g6, n, none⟩) hg6).trans k6
            have hqsi : (q : Int) < (s.size : Int) := by omega
            have n1 : decide ((q : Int) < 0) = false := by simp
            have n2 : decide ((s.size : Int) ≤ (q : Int)) = false := by simp; omega
            have hq' := hid hq
            have hqb' := hid hqb
            rw [ipl_at hq]
            have hx1 := hid (inO_next (s := s) (i0 := i0) (p := p) (d := D + 1) (.inl rfl) hq)
            have hx2 := hid (inO_next (s := s) (i0 := i0) (p := p) (d := D + 1) (.inr rfl) hq)
            obtain ⟨F1, hF1⟩ : ∃ F1, Hid ((fl (inO 58 s i0 p (D + 1)) q).length = F1) := ⟨_, rfl⟩
            obtain ⟨F2, hF2⟩ : ∃ F2, Hid ((fl (inO 44 s i0 p (D + 1)) q).length = F2) := ⟨_, rfl⟩
            rw [hF1.out, hF2.out]
            have hF1l : F1 ≤ L1 := by rw [← hF1.out, ← hL1.out, he1.out]; exact fl_le _ (by omega)
            have hF2l : F2 ≤ L2 := by rw [← hF2.out, ← hL2.out, he2.out]; exact fl_le _ (by omega)
            have hstay : Hid (∀ (dv : Nat), dpO s i0 p (ipl s (n + 1)) = dv → inO 58 s i0 p (D + 1) q = false → inO 44 s i0 p (D + 1) q = false → ∀ W, Below w6.heap.size w6 W → ∃ m : Nat, m ≤ L ∧ (.int .i64 ((n : Int) + 1) : Value) = .int .i64 (m : Int) ∧ (.int .i64 (F1 : Int) : Value) = .int .i64 (((fl (inO 58 s i0 p (D + 1)) (ipl s m)).length : Nat) : Int) ∧ (.int .i64 (F2 : Int) : Value) = .int .i64 (((fl (inO 44 s i0 p (D + 1)) (ipl s m)).length : Nat) : Int) ∧ (.int .i64 (dv : Int) : Value) = .int .i64 ((dpO s i0 p (ipl s m) : Nat) : Int) ∧ Hid (Below w6.heap.size w6 W)) := fun dv hdv h1 h2 W hW =>
              ⟨n + 1, by omega, by go_num, by rw [hx1.out, fl_f h1, hF1.out], by rw [hx2.out, fl_f h2, hF2.out], by rw [hdv], hW⟩
            clear hq hqb k6
            by_cases hout : q ≤ i0 ∨ p ≤ q
            · obtain ⟨d1, d2⟩ := hOD.out.out hq'.out hout
              rw [d1]
              have hs1 := hid (hstay.out _ d2 (inO_off (.inl rfl) hqb'.out hOD.out (.inl hout)) (inO_off (.inr rfl) hqb'.out hOD.out (.inl hout)) wr hb.out)
              clear d1 d2 hstay
              by_cases hqi : q ≤ i0
              · have hqii : (q : Int) ≤ (i0 : Int) := by omega
                clear hout
                go_wp2
                go_roundw
                case rel => simpa using hs1.out
                case measure => simp [intOf]; omega
              · have n3 : decide ((q : Int) ≤ (i0 : Int)) = false := by simp; omega
                have hpq : (p : Int) ≤ (q : Int) := by omega
                clear hout hqi
                go_wp2
                go_roundw
                case rel => simpa using hs1.out
                case measure => simp [intOf]; omega
            · have n3 : decide ((q : Int) ≤ (i0 : Int)) = false := by simp; omega
              have n4 : decide ((p : Int) ≤ (q : Int)) = false := by simp; omega
              obtain ⟨d1, d2⟩ := hOD.out.mid hq'.out (by omega) (by omega)
              have hdeep := hOD.out.deep (q := q) (by omega) (by omega)
              obtain ⟨Q, hQ⟩ : ∃ Q, Hid (depS s q = Q) := ⟨_, rfl⟩
              have hQl : Q ≤ 1048576 := by have := depS_le s q; rw [hQ.out] at this; omega
              rw [hQ.out] at d1 d2 hdeep
              rw [d1]
              have hxx := byteAt_num s q hqs
              obtain ⟨x, hx⟩ : ∃ x, Hid (byteAt s q = x) := ⟨_, rfl⟩
              rw [hx.out] at hxx d2
              have d2' := hid d2
              have hQN : Hid (depN s (q : Int) = Q) := by show _ = _; rw [depN_at (by omega)]; exact hQ.out
              have hmid : Hid (i0 < q ∧ q < p) := by show _ ∧ _; omega
              have g1 : i0 < q := by omega
              have g2 : q < p := by omega
              clear d1 d2 hout
              go_upto_region 23 with fail
              go_cut [111] from 90 to 110 (fun b wx => b = .bool false ∧ Hid (Below w6.heap.size w6 wx))
              case first =>
                obtain ⟨M, hMe⟩ : ∃ M, Hid (L / 64 = M) := ⟨_, rfl⟩
                have e64 : (L : Int) / 64 = (M : Int) := by have := hMe.out; omega
                have hM0 : ¬ ((M : Int) + 1 = 0) := by omega
                have hMl : (M : Int) ≤ 1048576 := by have := hMe.out; omega
                obtain ⟨R, hR⟩ : ∃ R, (n : Int) % ((M : Int) + 1) = R := ⟨_, rfl⟩
                have hR2 : (n : Int).tmod ((M : Int) + 1) = R := by rw [← hR]; exact Int.tmod_eq_emod_of_nonneg (by omega)
                have hb' := hid (hb6.out.trans (hb.out.mono hb6.out.size))
                by_cases hR0 : R = 0
                · have eR : (R == 0) = true := by rw [beq_iff_eq]; exact hR0
                  have eQ : ((Q : Int) != (Q : Int)) = false := by simp
                  clear hR0
                  go_wp2_with fail
                  refine Calls.mono (hDe.out _ Q hQN _ hb'.out) ?_
                  rintro e w7 ⟨rfl, q7⟩
                  have hb7 : Hid (Below w6.heap.size w6 w7) := hb.out.trans (q7.mono hb.out.size)
                  clear q7
                  go_wp2
                  go_meet
                  case rel => exact ⟨rfl, hb7⟩
                · have eR : (R == 0) = false := by rw [beq_eq_false_iff_ne]; exact hR0
                  go_wp2
                  go_meet
                  case rel => exact ⟨rfl, hb⟩
              case rest =>
                obtain ⟨rfl, hb7⟩ := hcut
                clear hb
                by_cases x1 : x = 123
                · subst x1
                  have d3 : dpO s i0 p (ipl s (n + 1)) = Q + 1 := d2'.out
                  have hs1 := hid (hstay.out _ d3 (inO_off (.inl rfl) hqb'.out hOD.out (.inr (.inl (by rw [hx.out]; decide)))) (inO_off (.inr rfl) hqb'.out hOD.out (.inr (.inl (by rw [hx.out]; decide)))) _ hb7.out)
                  clear d3 hstay
                  go_wp2
                  go_roundw
                  case rel => simpa using hs1.out
                  case measure => simp [intOf]; omega
                by_cases x2 : x = 91
                · subst x2
                  have d3 : dpO s i0 p (ipl s (n + 1)) = Q + 1 := d2'.out
                  have hs1 := hid (hstay.out _ d3 (inO_off (.inl rfl) hqb'.out hOD.out (.inr (.inl (by rw [hx.out]; decide)))) (inO_off (.inr rfl) hqb'.out hOD.out (.inr (.inl (by rw [hx.out]; decide)))) _ hb7.out)
                  clear d3 hstay
                  go_wp2
                  go_roundw
                  case rel => simpa using hs1.out
                  case measure => simp [intOf]; omega
                by_cases x3 : x = 125
                · subst x3
                  have d3 : dpO s i0 p (ipl s (n + 1)) = Q - 1 := d2'.out
                  have hs1 := hid (hstay.out _ d3 (inO_off (.inl rfl) hqb'.out hOD.out (.inr (.inl (by rw [hx.out]; decide)))) (inO_off (.inr rfl) hqb'.out hOD.out (.inr (.inl (by rw [hx.out]; decide)))) _ hb7.out)
                  clear d3 hstay
                  have eQ1 : ((Q - 1 : Nat) : Int) = (Q : Int) - 1 := by omega
                  rw [eQ1] at hs1
                  go_wp2
                  go_roundw
                  case rel => simpa using hs1.out
                  case measure => simp [intOf]; omega
                by_cases x4 : x = 93
                · subst x4
                  have d3 : dpO s i0 p (ipl s (n + 1)) = Q - 1 := d2'.out
                  have hs1 := hid (hstay.out _ d3 (inO_off (.inl rfl) hqb'.out hOD.out (.inr (.inl (by rw [hx.out]; decide)))) (inO_off (.inr rfl) hqb'.out hOD.out (.inr (.inl (by rw [hx.out]; decide)))) _ hb7.out)
                  clear d3 hstay
                  have eQ1 : ((Q - 1 : Nat) : Int) = (Q : Int) - 1 := by omega
                  rw [eQ1] at hs1
                  go_wp2
                  go_roundw
                  case rel => simpa using hs1.out
                  case measure => simp [intOf]; omega
                by_cases x5 : x = 58
                · subst x5
                  have d3 : dpO s i0 p (ipl s (n + 1)) = Q := d2'.out
                  by_cases hQD : Q = D + 1
                  · have hon := inO_on (p := p) (d := D + 1) (.inl rfl) hqb'.out hmid.out.1 hmid.out.2 hx.out (by rw [hQ.out]; exact hQD)
                    have hoff := inO_off (.inr rfl) hqb'.out hOD.out (.inr (.inl (by rw [hx.out]; decide)))
                    have hat : CL[F1]? = some q := by rw [he1.out, ← hF1.out]; exact fl_at hon (by omega)
                    have hFL : F1 < L1 := by rw [← hL1.out]; exact (List.getElem?_eq_some_iff.1 hat).1
                    obtain ⟨gq, rfl, hgq, kq⟩ := hj1.out F1 q hat
                    have cq := (hb7.out.cell (p := ⟨gq, F1, none⟩) hgq).trans kq
                    have e1 : ((Q : Int) != (D : Int) + 1) = false := by simp; omega
                    have e2 : ((q : Int) != (q : Int)) = false := by simp
                    have hgo : Hid (∃ m : Nat, m ≤ L ∧ (.int .i64 ((n : Int) + 1) : Value) = .int .i64 (m : Int) ∧ (.int .i64 ((F1 : Int) + 1) : Value) = .int .i64 (((fl (inO 58 s i0 p (D + 1)) (ipl s m)).length : Nat) : Int) ∧ (.int .i64 (F2 : Int) : Value) = .int .i64 (((fl (inO 44 s i0 p (D + 1)) (ipl s m)).length : Nat) : Int) ∧ (.int .i64 (Q : Int) : Value) = .int .i64 ((dpO s i0 p (ipl s m) : Nat) : Int) ∧ Hid (Below w6.heap.size w6 wc)) :=
                      ⟨n + 1, by omega, by go_num, by rw [hx1.out, fl_t hon, List.length_append, hF1.out]; go_num, by rw [hx2.out, fl_f hoff, hF2.out], by rw [d3], hb7⟩
                    clear d3 hstay hat kq hon hoff hQD
                    go_wp2
                    go_roundw
                    case rel => simpa using hgo.out
                    case measure => simp [intOf]; omega
                  · have e1 : ((Q : Int) != (D : Int) + 1) = true := by simp; omega
                    have hs1 := hid (hstay.out _ d3 (inO_off (.inl rfl) hqb'.out hOD.out (.inr (.inr (by rw [hQ.out]; exact hQD)))) (inO_off (.inr rfl) hqb'.out hOD.out (.inr (.inr (by rw [hQ.out]; exact hQD)))) _ hb7.out)
                    clear d3 hstay hQD
                    go_wp2
                    go_roundw
                    case rel => simpa using hs1.out
                    case measure => simp [intOf]; omega
                by_cases x6 : x = 44
                · subst x6
                  have d3 : dpO s i0 p (ipl s (n + 1)) = Q := d2'.out
                  by_cases hQD : Q = D + 1
                  · have hon := inO_on (p := p) (d := D + 1) (.inr rfl) hqb'.out hmid.out.1 hmid.out.2 hx.out (by rw [hQ.out]; exact hQD)
                    have hoff := inO_off (.inl rfl) hqb'.out hOD.out (.inr (.inl (by rw [hx.out]; decide)))
                    have hat : CM[F2]? = some q := by rw [he2.out, ← hF2.out]; exact fl_at hon (by omega)
                    have hFL : F2 < L2 := by rw [← hL2.out]; exact (List.getElem?_eq_some_iff.1 hat).1
                    obtain ⟨gq, rfl, hgq, kq⟩ := hj2.out F2 q hat
                    have cq := (hb7.out.cell (p := ⟨gq, F2, none⟩) hgq).trans kq
                    have e1 : ((Q : Int) != (D : Int) + 1) = false := by simp; omega
                    have e2 : ((q : Int) != (q : Int)) = false := by simp
                    have hgo : Hid (∃ m : Nat, m ≤ L ∧ (.int .i64 ((n : Int) + 1) : Value) = .int .i64 (m : Int) ∧ (.int .i64 (F1 : Int) : Value) = .int .i64 (((fl (inO 58 s i0 p (D + 1)) (ipl s m)).length : Nat) : Int) ∧ (.int .i64 ((F2 : Int) + 1) : Value) = .int .i64 (((fl (inO 44 s i0 p (D + 1)) (ipl s m)).length : Nat) : Int) ∧ (.int .i64 (Q : Int) : Value) = .int .i64 ((dpO s i0 p (ipl s m) : Nat) : Int) ∧ Hid (Below w6.heap.size w6 wc)) :=
                      ⟨n + 1, by omega, by go_num, by rw [hx1.out, fl_f hoff, hF1.out], by rw [hx2.out, fl_t hon, List.length_append, hF2.out]; go_num, by rw [d3], hb7⟩
                    clear d3 hstay hat kq hon hoff hQD
                    go_wp2
                    go_roundw
                    case rel => simpa using hgo.out
                    case measure => simp [intOf]; omega
                  · have e1 : ((Q : Int) != (D : Int) + 1) = true := by simp; omega
                    have hs1 := hid (hstay.out _ d3 (inO_off (.inl rfl) hqb'.out hOD.out (.inr (.inr (by rw [hQ.out]; exact hQD)))) (inO_off (.inr rfl) hqb'.out hOD.out (.inr (.inr (by rw [hQ.out]; exact hQD)))) _ hb7.out)
                    clear d3 hstay hQD
                    go_wp2
                    go_roundw
                    case rel => simpa using hs1.out
                    case measure => simp [intOf]; omega
                have d3 : dpO s i0 p (ipl s (n + 1)) = Q := by
                  rw [d2'.out, show opB x = false by unfold opB; simp [x1, x2], show clB x = false by unfold clB; simp [x3, x4]]
                  rfl
                have hs1 := hid (hstay.out _ d3 (inO_off (.inl rfl) hqb'.out hOD.out (.inr (.inl (by rw [hx.out]; exact x5)))) (inO_off (.inr rfl) hqb'.out hOD.out (.inr (.inl (by rw [hx.out]; exact x6)))) _ hb7.out)
                have b1 : ((x : Int) == 123) = false := by simp; omega
                have b2 : ((x : Int) == 91) = false := by simp; omega
                have b3 : ((x : Int) == 125) = false := by simp; omega
                have b4 : ((x : Int) == 93) = false := by simp; omega
                have b5 : ((x : Int) != 58) = true := by simp; omega
                have b6 : ((x : Int) != 44) = true := by simp; omega
                clear d3 hstay x1 x2 x3 x4 x5 x6
                go_wp2
                go_roundw
                case rel => simpa using hs1.out
                case measure => simp [intOf]; omega
          · have hne : n = L := by omega
            subst hne
            have hpe : ipl s n = s.size := ipl_end (by rw [hL.out]; exact Nat.le_refl _)
            rw [hpe, ← he1.out, ← he2.out, hL1.out, hL2.out]
            have q1 : ((L1 : Int) == (L1 : Int)) = true := by simp
            have q2 : ((L2 : Int) == (L2 : Int)) = true := by simp
            go_wp2
            go_ret
            exact ⟨rfl, hb6.out.trans (hb.out.mono hb6.out.size)⟩
      · have e1 : CL = [] := by rw [← hCL.out, if_neg hD64]
        have e2 : CM = [] := by rw [← hCM.out, if_neg hD64]
        subst e1
        subst e2
        have n1 : (64 : Int) < (D : Int) + 1 := by omega
        clear hD64 hCL hCM
        go_wp2
        go_ret
        exact ⟨rfl, hb5.out⟩
end Go.Proofs.YtjccgiadmnogeabDoor
