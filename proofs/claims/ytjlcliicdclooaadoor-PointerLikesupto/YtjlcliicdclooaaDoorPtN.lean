/-
 From values that are alike a pointer leads to values that are alike, or nowhere from both (mathematics).
-/
import Derived.Test.YtjlcliicdclooaaDoorPtS
import Derived.Test.YtjlcliicdclooaaDoorTrQ
namespace Go.Proofs.YtjlcliicdclooaaDoor
open Go.RowKit Go.Shelf
theorem wf_parts {k : Int} {b : Bool} {r t : ByteArray} {ks : List ByteArray} {vs : List Vt} {l : Int} (h : wfV (.mk k b r t ks vs) l = true) : plainV (.mk k b r t ks vs) = true ∧ ((k = 5 ∨ k = 6) → l ≠ 0) ∧ wfL vs (l - 1) = true := by
 unfold wfV at h
 rw [Bool.and_eq_true, Bool.and_eq_true] at h
 refine ⟨h.1, fun hk e => ?_, h.2.2⟩
 have := h.2.1
 rw [decide_eq_true hk, decide_eq_true e] at this
 cases this
theorem wf_make {k : Int} {b : Bool} {r t : ByteArray} {ks : List ByteArray} {vs : List Vt} {l : Int} (h1 : plainV (.mk k b r t ks vs) = true) (h2 : (k = 5 ∨ k = 6) → l ≠ 0) (h3 : wfL vs (l - 1) = true) : wfV (.mk k b r t ks vs) l = true := by
 unfold wfV
 rw [Bool.and_eq_true, Bool.and_eq_true]
 refine ⟨h1, ?_, h3⟩
 by_cases hk : k = 5 ∨ k = 6
 ·rw [decide_eq_false (h2 hk), Bool.and_false]
  rfl
 ·rw [decide_eq_false hk]
  rfl
theorem plain_leaf {k : Int} {b : Bool} {r t : ByteArray} {ks : List ByteArray} {vs : List Vt} (h : plainV (.mk k b r t ks vs) = true) (hk : ¬ (k = 5 ∨ k = 6)) : vs = [] := by
 have h5 : k ≠ 5 := fun e => hk (.inl e)
 have h6 : k ≠ 6 := fun e => hk (.inr e)
 rw [plainV.eq_def] at h
 simp only [] at h
 by_cases h1 : k = 1
 ·simp [h1] at h; exact h.2.1
 ·by_cases h2 : k = 2
  ·simp [h2] at h; exact h.2.1
  ·by_cases h3 : k = 3
   ·simp [h3] at h; exact h.2.1
   ·by_cases h4 : k = 4
    ·simp [h4] at h; exact h.2.1
    ·simp [h1, h2, h3, h4, h5, h6] at h
mutual
theorem wf_up : ∀ (t : Vt) (l m : Int), 0 ≤ l → l ≤ m → wfV t l = true → wfV t m = true
 | .mk k b r t ks vs, l, m, h0, hm, h => by
  obtain ⟨h1, h2, h3⟩ := wf_parts h
  by_cases hk : k = 5 ∨ k = 6
  ·have hl := h2 hk
   exact wf_make h1 (fun _ => by omega) (wfL_up vs (l - 1) (m - 1) (by omega) (by omega) h3)
  ·have hv := plain_leaf h1 hk
   refine wf_make h1 (fun e => absurd e hk) ?_
   rw [hv]
   unfold wfL
   rfl
theorem wfL_up : ∀ (vs : List Vt) (l m : Int), 0 ≤ l → l ≤ m → wfL vs l = true → wfL vs m = true
 | [], l, m, _, _, _ => by unfold wfL; rfl
 | v :: vs, l, m, h0, hm, h => by
  unfold wfL at h ⊢
  rw [Bool.and_eq_true] at h ⊢
  exact ⟨wf_up v l m h0 hm h.1, wfL_up vs l m h0 hm h.2⟩
end
theorem st_kind {t : Vt} {nm : ByteArray} {i : Nat} (h : stI t nm = some i) : t.kind = 5 ∨ t.kind = 6 := by
 unfold stI at h
 by_cases h5 : t.kind = 5
 ·exact .inl h5
 ·rw [if_neg h5] at h
  by_cases h6 : t.kind = 6
  ·exact .inr h6
  ·rw [if_neg h6] at h; cases h
/-- A step from a value that is well shaped, within l levels. -/
theorem wf_go {t : Vt} {l : Int} (h0 : 0 ≤ l) (hw : wfV t l = true) {nm : ByteArray} {i : Nat} (h : stI t nm = some i) : ∃ u, t.kids[i]? = some u ∧ wfV u (l - 1) = true ∧ 0 ≤ l - 1 := by
 obtain ⟨u, hu, hwu⟩ := wf_step hw h
 refine ⟨u, hu, hwu, ?_⟩
 cases t with
 | mk k b r t ks vs =>
  have := (wf_parts hw).2.1 (st_kind h)
  omega
theorem fstO_of {ks : List ByteArray} {nm : ByteArray} {q : Nat} (h : IsFst ks nm (q : Int)) : fstO nm ks = some q := by
 rcases h with ⟨e, -⟩ | ⟨i, e, h1, h2⟩
 ·omega
 ·obtain rfl : q = i := by omega
  exact fstO_yes h1 h2
theorem of_fstO {ks : List ByteArray} {nm : ByteArray} {q : Nat} (h : fstO nm ks = some q) : IsFst ks nm (q : Int) := by
 obtain ⟨h1, h2⟩ := fstO_get h
 exact .inr ⟨q, rfl, h1, h2⟩
/-- One step from values that are alike. -/
theorem alk_step {t u : Vt} {l m : Int} (hl : 0 ≤ l) (_ : 0 ≤ m) (hw : wfV t l = true) (_ : wfV u m = true) (h : Alk t u) (nm : ByteArray) :
  (stI t nm = none ∧ stI u nm = none) ∨ ∃ i j x y, stI t nm = some i ∧ stI u nm = some j ∧ t.kids[i]? = some x ∧ u.kids[j]? = some y ∧ Alk x y := by
 have hstep : ∀ i, stI t nm = some i → ∃ x, t.kids[i]? = some x := fun i hi => by obtain ⟨x, hx, -⟩ := wf_go hl hw hi; exact ⟨x, hx⟩
 cases t with
 | mk k b r tx ks vs =>
  cases u with
  | mk k2 b2 r2 tx2 ks2 vs2 =>
   obtain ⟨hk, -, -, -, h5, h6⟩ := (alk_iff _ _ _ _ _ _ _ _ _ _ _ _).1 h
   subst hk
   by_cases k5 : k = 5
   ·obtain ⟨hlen, hkid⟩ := h5 k5
    have e1 : stI (.mk k b r tx ks vs) nm = if plB nm = true ∧ plN nm nm.size < vs.length then some (plN nm nm.size) else none := by unfold stI; rw [if_pos (show (Vt.mk k b r tx ks vs).kind = 5 from k5)]; rfl
    have e2 : stI (.mk k b2 r2 tx2 ks2 vs2) nm = if plB nm = true ∧ plN nm nm.size < vs2.length then some (plN nm nm.size) else none := by unfold stI; rw [if_pos (show (Vt.mk k b2 r2 tx2 ks2 vs2).kind = 5 from k5)]; rfl
    by_cases hp : plB nm = true ∧ plN nm nm.size < vs.length
    ·right
     have hp2 : plN nm nm.size < vs2.length := by rw [← hlen]; exact hp.2
     exact ⟨plN nm nm.size, plN nm nm.size, vs[plN nm nm.size]'hp.2, vs2[plN nm nm.size]'hp2, by rw [e1, if_pos hp], by rw [e2, if_pos ⟨hp.1, hp2⟩], List.getElem?_eq_getElem hp.2, List.getElem?_eq_getElem hp2, hkid _ _ _ (List.getElem?_eq_getElem hp.2) (List.getElem?_eq_getElem hp2)⟩
    ·left
     exact ⟨by rw [e1, if_neg hp], by rw [e2, if_neg (fun e => hp ⟨e.1, by rw [hlen]; exact e.2⟩)]⟩
   ·by_cases k6 : k = 6
    ·obtain ⟨hback, hkid⟩ := h6 k6
     have e1 : stI (.mk k b r tx ks vs) nm = fstO nm ks := by unfold stI; rw [if_neg (show ¬ (Vt.mk k b r tx ks vs).kind = 5 from k5), if_pos (show (Vt.mk k b r tx ks vs).kind = 6 from k6)]; rfl
     have e2 : stI (.mk k b2 r2 tx2 ks2 vs2) nm = fstO nm ks2 := by unfold stI; rw [if_neg (show ¬ (Vt.mk k b2 r2 tx2 ks2 vs2).kind = 5 from k5), if_pos (show (Vt.mk k b2 r2 tx2 ks2 vs2).kind = 6 from k6)]; rfl
     cases hf : fstO nm ks with
     | none =>
      left
      refine ⟨by rw [e1, hf], ?_⟩
      rw [e2]
      cases hf2 : fstO nm ks2 with
      | none => rfl
      | some j =>
       exfalso
       obtain ⟨q, hq⟩ := hback j nm (fstO_get hf2).1
       obtain ⟨i, hi, -⟩ := fst_has hq
       rw [fstO_of hi] at hf
       cases hf
     | some i =>
      right
      obtain ⟨x, hx⟩ := hstep i (by rw [e1, hf])
      obtain ⟨q, y, hq, hy, hxy⟩ := hkid i x hx nm (fstO_get hf).1 (of_fstO hf)
      exact ⟨i, q, x, y, by rw [e1, hf], by rw [e2, fstO_of hq], hx, hy, hxy⟩
    ·left
     constructor
     ·unfold stI; rw [if_neg (show ¬ (Vt.mk k b r tx ks vs).kind = 5 from k5), if_neg (show ¬ (Vt.mk k b r tx ks vs).kind = 6 from k6)]
     ·unfold stI; rw [if_neg (show ¬ (Vt.mk k b2 r2 tx2 ks2 vs2).kind = 5 from k5), if_neg (show ¬ (Vt.mk k b2 r2 tx2 ks2 vs2).kind = 6 from k6)]
theorem ldV_alk : ∀ (L : List ByteArray) (t u : Vt) (l m : Int), 0 ≤ l → l ≤ 1024 → 0 ≤ m → m ≤ 1024 → wfV t l = true → wfV u m = true → Alk t u →
  (ldV t L = none ∧ ldV u L = none) ∨ ∃ x y, ldV t L = some x ∧ ldV u L = some y ∧ Alk x y ∧ wfV x 1024 = true ∧ wfV y 1024 = true
 | [], t, u, l, m, hl, hl2, hm, hm2, hw, hw', h => .inr ⟨t, u, ldV_nil t, ldV_nil u, h, wf_up t l 1024 hl hl2 hw, wf_up u m 1024 hm hm2 hw'⟩
 | nm :: L, t, u, l, m, hl, hl2, hm, hm2, hw, hw', h => by
  rcases alk_step hl hm hw hw' h nm with ⟨h1, h2⟩ | ⟨i, j, x, y, h1, h2, hx, hy, hxy⟩
  ·exact .inl ⟨ldV_no h1 L, ldV_no h2 L⟩
  ·obtain ⟨x', hx', hwx, hx0⟩ := wf_go hl hw h1
   obtain ⟨y', hy', hwy, hy0⟩ := wf_go hm hw' h2
   obtain rfl : x = x' := by rw [hx] at hx'; exact Option.some.inj hx'
   obtain rfl : y = y' := by rw [hy] at hy'; exact Option.some.inj hy'
   rw [ldV_yes h1 hx, ldV_yes h2 hy]
   exact ldV_alk L x y (l - 1) (m - 1) hx0 (by omega) hy0 (by omega) hwx hwy hxy
/-- What Find answers of two values that are alike. -/
theorem fd_alk {t u : Vt} (h : AlkB t u true) (l : List UInt8) : ∃ (x y : Vt) (B : Bool) (E : Int), fdF t l = (x, B, E) ∧ fdF u l = (y, B, E) ∧ (B = true → AlkB x y true) := by
 obtain ⟨h1, h2, h3⟩ := h.1 rfl
 unfold fdF
 rw [if_pos h1, if_pos h2]
 by_cases hp : (ptrL l).isSome = true
 ·rw [if_pos hp, if_pos hp]
  rcases ldV_alk ((ptN l).map mkL) t u 1024 1024 (by decide) (by decide) (by decide) (by decide) h1 h2 h3 with ⟨e1, e2⟩ | ⟨x, y, e1, e2, e3, e4, e5⟩
  ·rw [e1, e2]
   exact ⟨_, _, _, _, rfl, rfl, fun e => by cases e⟩
  ·rw [e1, e2]
   exact ⟨_, _, _, _, rfl, rfl, fun _ => ⟨fun _ => ⟨e4, e5, e3⟩, fun _ => rfl⟩⟩
 ·rw [if_neg hp, if_neg hp]
  exact ⟨_, _, _, _, rfl, rfl, fun e => by cases e⟩
end Go.Proofs.YtjlcliicdclooaaDoor
