/-
  The text that DecimalLoose writes, part by part (mathematics).
-/
import Derived.Test.YtheeonlfbnkhgaaDoorLooseA
import Derived.Test.YtheeonlfbnkhgaaDoorWhlMath
namespace Go.Proofs.YtheeonlfbnkhgaaDoor
open Go.RowKit Go.Shelf

/-- The digits with their point, and the exponent that belongs to them. -/
def LsA (t : ByteArray) (x : Int) (Dg : ByteArray) (X : Int) : Prop :=
  Dg.size ≤ 400 ∧ -4294967296 ≤ X ∧ X ≤ 4294967296 ∧ ∃ W P Q, Dg = W ++ Q ∧ 0 < W.size ∧ AllD W ∧ (lk W 0 = 48 → W.size = 1) ∧
    ((Q = ⟨#[]⟩ ∧ P = ⟨#[]⟩) ∨ (Q = ⟨#[46]⟩ ++ P ∧ 0 < P.size ∧ AllD P)) ∧ ∀ n dn D, powS ⟨n, W, P, dn, D⟩ = X → worthS ⟨n, W, P, dn, D⟩ = some ⟨n, t.data.toList, x⟩
/-- The text ahead of the exponent's digits: with any digits worth E it is the decimal's. -/
def LsB (n : Bool) (t : ByteArray) (x : Int) (S G : ByteArray) (E : Nat) : Prop :=
  S.size ≤ 402 ∧ G.size ≤ 2 ∧ E ≤ 4294967296 ∧ ∀ D : ByteArray, 0 < D.size → AllD D → pwN D.data.toList = E → ofS (S ++ (G ++ D)) = (⟨n, t.data.toList, x⟩, 0)
theorem LsA.b {t : ByteArray} {x : Int} {Dg : ByteArray} {X : Int} (h : LsA t x Dg X) (n : Bool) (c : UInt8) (hc : c.toNat = 101 ∨ c.toNat = 69) (H : ByteArray) (dn : Bool)
    (hH : (H = ⟨#[]⟩ ∧ dn = false) ∨ (H = ⟨#[43]⟩ ∧ dn = false) ∨ (H = ⟨#[45]⟩ ∧ dn = true)) (E : Nat) (hE : (if dn then -(E : Int) else (E : Int)) = X) : LsB n t x (txN n ++ Dg) (⟨#[c]⟩ ++ H) E := by
  obtain ⟨h1, h2, h3, W, P, Q, rfl, w1, w2, w3, hQ, hw⟩ := h
  have hHs : H.size ≤ 1 := by rcases hH with ⟨rfl, -⟩ | ⟨rfl, -⟩ | ⟨rfl, -⟩ <;> decide
  have hN : (txN n).size ≤ 1 := by cases n <;> decide
  refine ⟨by rw [app_size]; omega, by rw [app_size]; show 1 + H.size ≤ 2; omega, by cases dn <;> simp at hE <;> omega, fun D d1 d2 d3 => ?_⟩
  have hP : TxtP n W P dn D (txN n) Q (⟨#[c]⟩ ++ (H ++ D)) := by
    refine ⟨?_, w1, w2, w3, hQ, .inr ⟨c, H, rfl, hc, hH, d1, d2⟩⟩
    cases n
    · exact .inl ⟨rfl, rfl⟩
    · exact .inr ⟨rfl, rfl⟩
  have htx : (txN n ++ (W ++ Q)) ++ ((⟨#[c]⟩ ++ H) ++ D) = txN n ++ (W ++ (Q ++ (⟨#[c]⟩ ++ (H ++ D)))) := by
    rw [app_assoc, app_assoc, app_assoc]
  have hsc := hP.scan
  rw [← htx] at hsc
  have hpw : powS ⟨n, W, P, dn, D⟩ = X := by
    rw [← hE]
    show (if dn then -((pwN D.data.toList : Nat) : Int) else ((pwN D.data.toList : Nat) : Int)) = _
    rw [d3]
  have hrd : readS ((txN n ++ (W ++ Q)) ++ ((⟨#[c]⟩ ++ H) ++ D)) 0 = (⟨n, t.data.toList, x⟩, ((txN n ++ (W ++ Q)) ++ ((⟨#[c]⟩ ++ H) ++ D)).size, 0) := by
    unfold readS
    rw [hsc]
    dsimp only
    rw [hw n dn D hpw]
  rw [ofS_same _ (by rw [hrd]), hrd]
theorem allD_app {a b : ByteArray} (ha : AllD a) (hb : AllD b) : AllD (a ++ b) := fun i hi => by
  rw [app_size] at hi
  by_cases h : i < a.size
  · rw [lk_left a b i h]; exact ha i h
  · obtain ⟨j, rfl⟩ : ∃ j, i = a.size + j := ⟨i - a.size, by omega⟩
    rw [lk_shift]; exact hb j (by omega)
theorem allD_repl (N : Nat) : AllD ⟨(List.replicate N (48 : UInt8)).toArray⟩ := allD_mk fun b hb => by rw [List.eq_of_mem_replicate hb]; rfl
theorem allD_sub {a : ByteArray} (ha : AllD a) (i j : Nat) (hj : j ≤ a.size) : AllD (a.extract i j) := fun k hk => by
  rw [ByteArray.size_extract] at hk
  rw [lk_extract a i j k (by omega) hj]
  exact ha _ (by omega)
/-- Nothing: written as a nought. -/
theorem LsA.none {t : ByteArray} {x : Int} (h : frmS t x = true) (h0 : t.size = 0) : LsA t x ⟨#[48]⟩ 7 := by
  have hx : x = 0 := by have := h; rw [frm_none h0] at this; exact of_decide_eq_true this
  have ht : t.data.toList = [] := List.eq_nil_of_length_eq_zero (by rw [size_list]; exact h0)
  refine ⟨by decide, by decide, by decide, ⟨#[48]⟩, ⟨#[]⟩, ⟨#[]⟩, rfl, by decide, ?_, fun _ => rfl, .inl ⟨rfl, rfl⟩, fun n dn D _ => ?_⟩
  · intro i hi
    have hi2 : i < 1 := hi
    obtain rfl : i = 0 := by omega
    rfl
  · unfold worthS
    rw [if_pos (show allS _ = [] from rfl), ht, hx]
theorem digs_all {t : ByteArray} {x : Int} (h : frmS t x = true) (h0 : t.size ≠ 0) (N : Nat) : (t ++ ⟨(List.replicate N (48 : UInt8)).toArray⟩).size = t.size + N ∧ AllD (t ++ ⟨(List.replicate N (48 : UInt8)).toArray⟩) ∧ lk (t ++ ⟨(List.replicate N (48 : UInt8)).toArray⟩) 0 ≠ 48 := by
  obtain ⟨f1, f2, -, -⟩ := frm_parts h h0
  have hz : (⟨(List.replicate N (48 : UInt8)).toArray⟩ : ByteArray).size = N := by rw [Lib.size_mk, List.length_replicate]
  exact ⟨by rw [app_size, hz], allD_app f1 (allD_repl N), by rw [lk_left _ _ 0 (by omega)]; exact f2⟩
section
variable {t : ByteArray} {x : Int} (h : frmS t x = true) (h0 : t.size ≠ 0) (hs : t.size ≤ 300) (hx : -1073741000 ≤ x) (hx2 : x ≤ 1073741000) {N : Nat} (hN : N < 9)
include h h0 hs hx hx2 hN
theorem LsA.plain : LsA t x (t ++ ⟨(List.replicate N (48 : UInt8)).toArray⟩) (x - (N : Int)) := by
  obtain ⟨z1, z2, z3⟩ := digs_all h h0 N
  refine ⟨by omega, by omega, by omega, _, ⟨#[]⟩, ⟨#[]⟩, (app_nil _).symm, by omega, z2, fun e => absurd e z3, .inl ⟨rfl, rfl⟩, fun n dn D hp => ?_⟩
  refine worth_loose n h h0 N _ ⟨#[]⟩ dn D ?_ (by rw [hp]; show _ = x - (N : Int) + ((0 : Nat) : Int); omega)
  rw [data_append]
  simp
theorem LsA.cut (k : Nat) (hk0 : 0 < k) (hk : k < t.size + N) :
    LsA t x ((t ++ ⟨(List.replicate N (48 : UInt8)).toArray⟩).extract 0 k ++ ⟨#[46]⟩ ++ (t ++ ⟨(List.replicate N (48 : UInt8)).toArray⟩).extract k (t ++ ⟨(List.replicate N (48 : UInt8)).toArray⟩).size) (x - (N : Int) + ((t.size + N : Nat) : Int) - (k : Int)) := by
  obtain ⟨z1, z2, z3⟩ := digs_all h h0 N
  obtain ⟨A, hA⟩ : ∃ A, t ++ (⟨(List.replicate N (48 : UInt8)).toArray⟩ : ByteArray) = A := ⟨_, rfl⟩
  have hl : A.data.toList = t.data.toList ++ List.replicate N 48 := by rw [← hA, data_append]
  rw [hA] at z1 z2 z3 ⊢
  have s1 : (A.extract 0 k).size = k := by rw [ByteArray.size_extract]; omega
  have s2 : (A.extract k A.size).size = A.size - k := by rw [ByteArray.size_extract]; omega
  refine ⟨?_, by omega, by omega, A.extract 0 k, A.extract k A.size, ⟨#[46]⟩ ++ A.extract k A.size, app_assoc _ _ _, by omega, allD_sub z2 _ _ (by omega), fun e => ?_, .inr ⟨rfl, by omega, allD_sub z2 _ _ (Nat.le_refl _)⟩, fun n dn D hp => ?_⟩
  · rw [app_size, app_size, s1, s2]
    show k + 1 + _ ≤ 400
    omega
  · exfalso
    rw [lk_extract A 0 k 0 (by omega) (by omega)] at e
    exact z3 e
  · refine worth_loose n h h0 N _ _ dn D ?_ (by rw [hp, s2]; omega)
    rw [← hl, ← data_append, ByteArray.extract_append_extract, Nat.min_eq_left (by omega), Nat.max_eq_right (by omega), ByteArray.extract_zero_size]
end
/-- The digits of the exponent, while they are written: what is written and what is left. -/
def LsT (E e : Nat) (T : ByteArray) : Prop := AllD T ∧ pwN T.data.toList + e * 10 ^ T.size = E ∧ T.size ≤ 20 ∧ (0 < e → 10 ^ T.size ≤ E)
theorem LsT.zero (E : Nat) : LsT E E ⟨#[]⟩ := ⟨fun i hi => absurd hi (Nat.not_lt_zero _), by show 0 + E * 10 ^ 0 = E; omega, by decide, fun h => by show 10 ^ 0 ≤ E; omega⟩
theorem LsT.next {E e : Nat} {T : ByteArray} (h : LsT E e T) (hE : E ≤ 4294967296) (he : 0 < e) (b : UInt8) (hb : b.toNat = 48 + e % 10) : LsT E (e / 10) (⟨#[b]⟩ ++ T) := by
  obtain ⟨h1, h2, h3, h4⟩ := h
  have h5 := h4 he
  have hsz : T.size ≤ 9 := by
    rcases Nat.lt_or_ge 9 T.size with h6 | h6
    · exfalso
      have : 10 ^ 10 ≤ 10 ^ T.size := Nat.pow_le_pow_right (by decide) h6
      have h7 : (10 : Nat) ^ 10 = 10000000000 := by decide
      omega
    · exact h6
  have hs : ((⟨#[b]⟩ : ByteArray) ++ T).size = T.size + 1 := by rw [app_size]; show 1 + T.size = _; omega
  have hl : ((⟨#[b]⟩ : ByteArray) ++ T).data.toList = b :: T.data.toList := by rw [data_append]; rfl
  have hd : e = 10 * (e / 10) + e % 10 := by omega
  have hm : e * 10 ^ T.size = (e % 10) * 10 ^ T.size + (e / 10) * 10 ^ (T.size + 1) := by
    conv => lhs; rw [hd]
    rw [Nat.add_mul, Nat.pow_succ, Nat.mul_comm 10 (e / 10), Nat.mul_assoc, Nat.mul_comm 10 (10 ^ T.size)]
    omega
  refine ⟨?_, ?_, by omega, fun h6 => ?_⟩
  · intro i hi
    rw [hs] at hi
    by_cases h7 : i = 0
    · subst h7
      rw [lk_left ⟨#[b]⟩ T 0 Nat.one_pos]
      show dgB b.toNat = true
      rw [hb, dgB_iff]
      omega
    · obtain ⟨j, rfl⟩ : ∃ j, i = 1 + j := ⟨i - 1, by omega⟩
      have := lk_shift ⟨#[b]⟩ T j
      have h8 : (⟨#[b]⟩ : ByteArray).size = 1 := rfl
      rw [h8] at this
      rw [this]
      exact h1 j (by omega)
  · rw [hl, hs, pw_cons, size_list, hb, Nat.add_sub_cancel_left]
    omega
  · rw [hs, Nat.pow_succ]
    have h7 : 10 * 10 ^ T.size ≤ e * 10 ^ T.size := Nat.mul_le_mul_right _ (by omega)
    omega
/-- The whole text. -/
theorem LsB.all {n : Bool} {t : ByteArray} {x : Int} {S G : ByteArray} {E N : Nat} {T : ByteArray} (h : LsB n t x S G E) (hT : LsT E 0 T) :
    ofS (S ++ G ++ ⟨(List.replicate N (48 : UInt8)).toArray⟩ ++ ⟨#[48]⟩ ++ T) = (⟨n, t.data.toList, x⟩, 0) := by
  obtain ⟨h1, h2, h3, h4⟩ := h
  obtain ⟨t1, t2, -, -⟩ := hT
  have hD : (⟨(List.replicate N (48 : UInt8)).toArray⟩ : ByteArray) ++ (⟨#[48]⟩ ++ T) = ⟨(List.replicate (N + 1) (48 : UInt8)).toArray⟩ ++ T := by rw [← app_assoc, repl_snoc]
  have hz : (⟨(List.replicate (N + 1) (48 : UInt8)).toArray⟩ : ByteArray).size = N + 1 := by rw [Lib.size_mk, List.length_replicate]
  have := h4 (⟨(List.replicate (N + 1) (48 : UInt8)).toArray⟩ ++ T) (by rw [app_size, hz]; omega) (allD_app (allD_repl _) t1) (by rw [data_append, pw_noughts]; omega)
  rw [← hD] at this
  rw [app_assoc, app_assoc, app_assoc, this]
end Go.Proofs.YtheeonlfbnkhgaaDoor
