/-
  What is read of a text that is put together of its parts (mathematics; for DecimalBack, DecimalLoose).
-/
import Derived.Test.YtheeonlfbnkhgaaDoorSplMath
namespace Go.Proofs.YtheeonlfbnkhgaaDoor
open Go.RowKit

theorem lk_left (a b : ByteArray) (i : Nat) (h : i < a.size) : lk (a ++ b) i = lk a i := by
  rw [lk_at _ _ (by rw [ByteArray.size_append]; omega), lk_at a i h, ByteArray.getElem_append_left h]
theorem lk_right0 (a b : ByteArray) : lk (a ++ b) a.size = lk b 0 := by
  have := lk_shift a b 0
  rwa [Nat.add_zero] at this
/-- All its bytes are digits. -/
def AllD (d : ByteArray) : Prop := ∀ i, i < d.size → dgB (lk d i) = true
theorem rn_all (d r : ByteArray) (hd : AllD d) (hr : dgB (lk r 0) = false) : rn (d ++ r) 0 = d.size := by
  refine rn_uniq _ _ _ (Nat.zero_le _) (fun i _ h => ?_) ?_
  · rw [lk_left d r i h]; exact hd i h
  · rw [lk_right0]; exact hr
theorem rn_app (a d r : ByteArray) (hd : AllD d) (hr : dgB (lk r 0) = false) : rn (a ++ (d ++ r)) a.size = a.size + d.size := by
  have := rn_shift a (d ++ r) 0
  rw [Nat.add_zero, rn_all d r hd hr] at this
  exact this
theorem ext_mid (a d r : ByteArray) : (a ++ (d ++ r)).extract a.size (a.size + d.size) = d := by
  have h := ext_shift2 a (d ++ r) 0 d.size
  rw [Nat.add_zero] at h
  rw [h]
  apply ByteArray.ext
  rw [ByteArray.data_extract, ByteArray.data_append]
  have hz : d.size = d.data.size := rfl
  rw [hz, Array.extract_append]
  simp
theorem app_assoc (a b c : ByteArray) : a ++ b ++ c = a ++ (b ++ c) := by
  apply ByteArray.ext
  rw [ByteArray.data_append, ByteArray.data_append, ByteArray.data_append, ByteArray.data_append, Array.append_assoc]
theorem app_size (a b : ByteArray) : (a ++ b).size = a.size + b.size := ByteArray.size_append
theorem app_nil (a : ByteArray) : a ++ (⟨#[]⟩ : ByteArray) = a := by
  apply ByteArray.ext
  rw [ByteArray.data_append]
  exact Array.append_empty
theorem nil_app (a : ByteArray) : (⟨#[]⟩ : ByteArray) ++ a = a := by
  apply ByteArray.ext
  rw [ByteArray.data_append]
  exact Array.empty_append
theorem lk_nil : lk ⟨#[]⟩ 0 = 0 := rfl
/-- The parts of a text: a sign, the digits, what stands behind a point, an exponent. -/
structure TxtP (neg : Bool) (W P : ByteArray) (dn : Bool) (D N Q X : ByteArray) : Prop where
  sign : (N = ⟨#[]⟩ ∧ neg = false) ∨ (N = ⟨#[45]⟩ ∧ neg = true)
  pos : 0 < W.size
  whole : AllD W
  zero : lk W 0 = 48 → W.size = 1
  point : (Q = ⟨#[]⟩ ∧ P = ⟨#[]⟩) ∨ (Q = ⟨#[46]⟩ ++ P ∧ 0 < P.size ∧ AllD P)
  expo : (X = ⟨#[]⟩ ∧ D = ⟨#[]⟩ ∧ dn = false) ∨ ∃ (c : UInt8) (G : ByteArray), X = ⟨#[c]⟩ ++ (G ++ D) ∧ (c.toNat = 101 ∨ c.toNat = 69) ∧ ((G = ⟨#[]⟩ ∧ dn = false) ∨ (G = ⟨#[43]⟩ ∧ dn = false) ∨ (G = ⟨#[45]⟩ ∧ dn = true)) ∧ 0 < D.size ∧ AllD D
section
variable {neg : Bool} {W P : ByteArray} {dn : Bool} {D N Q X : ByteArray}
theorem TxtP.x0 (h : TxtP neg W P dn D N Q X) : dgB (lk X 0) = false ∧ lk X 0 ≠ 46 := by
  rcases h.expo with ⟨rfl, -, -⟩ | ⟨c, G, rfl, hc, -, -⟩
  · exact ⟨rfl, by rw [lk_nil]; decide⟩
  · rw [lk_left ⟨#[c]⟩ (G ++ D) 0 Nat.one_pos]
    have : lk ⟨#[c]⟩ 0 = c.toNat := rfl
    rw [this]
    rcases hc with h | h <;> rw [h] <;> exact ⟨by decide, by decide⟩
theorem TxtP.q0 (h : TxtP neg W P dn D N Q X) : dgB (lk (Q ++ X) 0) = false := by
  rcases h.point with ⟨rfl, -⟩ | ⟨rfl, -, -⟩
  · rw [nil_app]; exact h.x0.1
  · rw [app_assoc, lk_left _ _ 0 (by decide)]; rfl
theorem TxtP.a (h : TxtP neg W P dn D N Q X) : scA (N ++ (W ++ (Q ++ X))) 0 = N.size ∧ scNeg (N ++ (W ++ (Q ++ X))) 0 = neg := by
  have hw := h.whole 0 h.pos
  have hw2 := (dgB_iff _).1 hw
  rcases h.sign with ⟨rfl, rfl⟩ | ⟨rfl, rfl⟩
  · have : lk ((⟨#[]⟩ : ByteArray) ++ (W ++ (Q ++ X))) 0 = lk W 0 := by rw [nil_app, lk_left _ _ 0 h.pos]
    unfold scA scNeg
    rw [this, if_neg (by omega), decide_eq_false (by omega)]
    exact ⟨rfl, rfl⟩
  · have : lk ((⟨#[45]⟩ : ByteArray) ++ (W ++ (Q ++ X))) 0 = 45 := by rw [lk_left _ _ 0 (by decide)]; rfl
    unfold scA scNeg
    rw [this]
    exact ⟨rfl, rfl⟩
theorem TxtP.b (h : TxtP neg W P dn D N Q X) : scB (N ++ (W ++ (Q ++ X))) 0 = N.size + W.size := by
  have h1 : lk (N ++ (W ++ (Q ++ X))) N.size = lk W 0 := by rw [lk_right0, lk_left _ _ 0 h.pos]
  unfold scB
  rw [h.a.1, h1]
  split
  · rename_i h2
    rw [h.zero h2]
  · exact rn_app N W (Q ++ X) h.whole h.q0
theorem TxtP.c (h : TxtP neg W P dn D N Q X) : scC (N ++ (W ++ (Q ++ X))) 0 = N.size + W.size + Q.size ∧ scBe (N ++ (W ++ (Q ++ X))) 0 = P ∧
    ¬ (lk (N ++ (W ++ (Q ++ X))) (N.size + W.size) = 46 ∧ dgB (lk (N ++ (W ++ (Q ++ X))) (N.size + W.size + 1)) = false) := by
  have hr : N ++ (W ++ (Q ++ X)) = (N ++ W) ++ (Q ++ X) := (app_assoc _ _ _).symm
  have hz : (N ++ W).size = N.size + W.size := app_size _ _
  rcases h.point with ⟨hQ, hP⟩ | ⟨hQ, hP, hPd⟩
  · have h1 : lk (N ++ (W ++ (Q ++ X))) (N.size + W.size) ≠ 46 := by
      rw [hr, ← hz, lk_right0, hQ, nil_app]
      exact h.x0.2
    have h2 : scC (N ++ (W ++ (Q ++ X))) 0 = N.size + W.size := by unfold scC; rw [h.b, if_neg h1]
    refine ⟨by rw [h2, hQ]; rfl, ?_, fun e => h1 e.1⟩
    unfold scBe
    rw [h.b, if_neg h1, hP]
  · have hr2 : N ++ (W ++ (Q ++ X)) = (N ++ W ++ ⟨#[46]⟩) ++ (P ++ X) := by rw [hr, hQ, app_assoc ⟨#[46]⟩ P X, ← app_assoc (N ++ W)]
    have hz2 : (N ++ W ++ ⟨#[46]⟩).size = N.size + W.size + 1 := by rw [app_size, app_size]; rfl
    have h1 : lk (N ++ (W ++ (Q ++ X))) (N.size + W.size) = 46 := by
      rw [hr, ← hz, lk_right0, hQ, app_assoc, lk_left _ _ 0 (by decide)]
      rfl
    have h3 : rn (N ++ (W ++ (Q ++ X))) (N.size + W.size + 1) = N.size + W.size + 1 + P.size := by
      rw [hr2, ← hz2]
      exact rn_app _ P X hPd h.x0.1
    have h2 : scC (N ++ (W ++ (Q ++ X))) 0 = N.size + W.size + 1 + P.size := by unfold scC; rw [h.b, if_pos h1, h3]
    have hQz : Q.size = 1 + P.size := by rw [hQ, app_size]; rfl
    refine ⟨by rw [h2, hQz]; omega, ?_, fun e => ?_⟩
    · unfold scBe
      rw [h.b, if_pos h1, h2, hr2, ← hz2]
      exact ext_mid _ P X
    · have h4 : lk (N ++ (W ++ (Q ++ X))) (N.size + W.size + 1) = lk P 0 := by rw [hr2, ← hz2, lk_right0, lk_left _ _ 0 hP]
      have h5 := e.2
      rw [h4, hPd 0 hP] at h5
      cases h5
theorem TxtP.scan (h : TxtP neg W P dn D N Q X) : scanS (N ++ (W ++ (Q ++ X))) 0 = (some ⟨neg, W, P, dn, D⟩, (N ++ (W ++ (Q ++ X))).size) := by
  obtain ⟨hC, hBe, hn2⟩ := h.c
  have hr : N ++ (W ++ (Q ++ X)) = (N ++ W ++ Q) ++ X := by rw [← app_assoc, ← app_assoc]
  have hz : (N ++ W ++ Q).size = N.size + W.size + Q.size := by rw [app_size, app_size]
  have htot : (N ++ (W ++ (Q ++ X))).size = N.size + W.size + Q.size + X.size := by rw [hr, app_size, hz]
  have hlC : lk (N ++ (W ++ (Q ++ X))) (N.size + W.size + Q.size) = lk X 0 := by rw [hr, ← hz, lk_right0]
  have hW : (N ++ (W ++ (Q ++ X))).extract N.size (N.size + W.size) = W := ext_mid N W (Q ++ X)
  have hlA : dgB (lk (N ++ (W ++ (Q ++ X))) N.size) = true := by rw [lk_right0, lk_left _ _ 0 h.pos]; exact h.whole 0 h.pos
  rcases h.expo with ⟨hX, hD, hdn⟩ | ⟨c, G, hX, hc, hG, hD0, hDd⟩
  · have hx : scX (N ++ (W ++ (Q ++ X))) 0 = false := by unfold scX; rw [hC, hlC, hX]; rfl
    have hH : scH (N ++ (W ++ (Q ++ X))) 0 = N.size + W.size + Q.size := by unfold scH; rw [if_neg (by rw [hx]; decide), hC]
    have hDn : scDn (N ++ (W ++ (Q ++ X))) 0 = false := by unfold scDn; rw [hx]; rfl
    have hPw : scPw (N ++ (W ++ (Q ++ X))) 0 = ⟨#[]⟩ := by unfold scPw; rw [if_neg (by rw [hx]; decide)]
    unfold scanS
    rw [h.a.1, h.b, hx, hlA, if_neg (by decide), if_neg hn2, if_neg (fun e => Bool.noConfusion e.1), h.a.2, hW, hBe, hDn, hPw, hH, htot, hX, hD, hdn]
    rfl
  · have hc0 : lk (⟨#[c]⟩ : ByteArray) 0 = c.toNat := rfl
    have hx : scX (N ++ (W ++ (Q ++ X))) 0 = true := by
      unfold scX
      rw [hC, hlC, hX, lk_left ⟨#[c]⟩ (G ++ D) 0 Nat.one_pos, hc0]
      exact decide_eq_true hc
    have hr2 : N ++ (W ++ (Q ++ X)) = (N ++ W ++ Q ++ ⟨#[c]⟩) ++ (G ++ D) := by rw [hr, hX, ← app_assoc]
    have hz2 : (N ++ W ++ Q ++ ⟨#[c]⟩).size = N.size + W.size + Q.size + 1 := by rw [app_size, hz]; rfl
    have hr3 : N ++ (W ++ (Q ++ X)) = (N ++ W ++ Q ++ ⟨#[c]⟩ ++ G) ++ (D ++ ⟨#[]⟩) := by rw [hr2, app_nil, app_assoc _ G D]
    have hz3 : (N ++ W ++ Q ++ ⟨#[c]⟩ ++ G).size = N.size + W.size + Q.size + 1 + G.size := by rw [app_size, hz2]
    have hl1 : lk (N ++ (W ++ (Q ++ X))) (N.size + W.size + Q.size + 1) = lk (G ++ D) 0 := by rw [hr2, ← hz2, lk_right0]
    have hD1 := (dgB_iff _).1 (hDd 0 hD0)
    have hF : scF (N ++ (W ++ (Q ++ X))) 0 = N.size + W.size + Q.size + 1 + G.size ∧ scDn (N ++ (W ++ (Q ++ X))) 0 = dn := by
      unfold scF scDn
      rw [hC, hl1, hx]
      rcases hG with ⟨rfl, rfl⟩ | ⟨rfl, rfl⟩ | ⟨rfl, rfl⟩
      · rw [nil_app, if_neg (by omega), decide_eq_false (by omega)]; exact ⟨rfl, rfl⟩
      · have : lk ((⟨#[43]⟩ : ByteArray) ++ D) 0 = 43 := by rw [lk_left _ _ 0 (by decide)]; rfl
        rw [this]; exact ⟨rfl, rfl⟩
      · have : lk ((⟨#[45]⟩ : ByteArray) ++ D) 0 = 45 := by rw [lk_left _ _ 0 (by decide)]; rfl
        rw [this]; exact ⟨rfl, rfl⟩
    have hlF : dgB (lk (N ++ (W ++ (Q ++ X))) (N.size + W.size + Q.size + 1 + G.size)) = true := by
      rw [hr3, ← hz3, lk_right0, lk_left _ _ 0 hD0]; exact hDd 0 hD0
    have hrn : rn (N ++ (W ++ (Q ++ X))) (N.size + W.size + Q.size + 1 + G.size) = N.size + W.size + Q.size + 1 + G.size + D.size := by
      rw [hr3, ← hz3]
      exact rn_app _ D ⟨#[]⟩ hDd rfl
    have hH : scH (N ++ (W ++ (Q ++ X))) 0 = N.size + W.size + Q.size + 1 + G.size + D.size := by unfold scH; rw [if_pos hx, hF.1, hrn]
    have hPw : scPw (N ++ (W ++ (Q ++ X))) 0 = D := by
      unfold scPw
      rw [if_pos hx, hF.1, hH, hr3, ← hz3]
      exact ext_mid _ D ⟨#[]⟩
    have hXz : X.size = 1 + (G.size + D.size) := by rw [hX, app_size, app_size]; rfl
    unfold scanS
    rw [h.a.1, h.b, hx, hlA, if_neg (by decide), if_neg hn2, hF.1, hlF, if_neg (fun e => Bool.noConfusion e.2), h.a.2, hW, hBe, hF.2, hPw, hH, htot, hXz]
    congr 1
    omega
end
end Go.Proofs.YtheeonlfbnkhgaaDoor
