/-
  Cmp is an order (mathematics).
-/
import Derived.Test.YtkejlejhnnjdkaaGreatDoorRefCmp
namespace Go.Proofs.YtkejlejhnnjdkaaGreatDoor
open Go.RowKit Go.Shelf
theorem cmpB_trans : ∀ (a b c : List UInt8), Lib.compareBytes a b ≤ 0 → Lib.compareBytes b c ≤ 0 → Lib.compareBytes a c ≤ 0 ∧ (Lib.compareBytes a c = 0 → Lib.compareBytes a b = 0 ∧ Lib.compareBytes b c = 0)
  | [], [], [], _, _ => ⟨Int.le_refl 0, fun _ => ⟨rfl, rfl⟩⟩
  | [], [], _ :: _, _, _ => ⟨show (-1 : Int) ≤ 0 by decide, fun h => absurd (show (-1 : Int) = 0 from h) (by decide)⟩
  | [], _ :: _, [], _, h2 => absurd (show (1 : Int) ≤ 0 from h2) (by decide)
  | [], _ :: _, _ :: _, _, _ => ⟨show (-1 : Int) ≤ 0 by decide, fun h => absurd (show (-1 : Int) = 0 from h) (by decide)⟩
  | _ :: _, [], _, h1, _ => absurd (show (1 : Int) ≤ 0 from h1) (by decide)
  | _ :: _, _ :: _, [], _, h2 => absurd (show (1 : Int) ≤ 0 from h2) (by decide)
  | x :: a, y :: b, z :: c, h1, h2 => by
    have ih := cmpB_trans a b c
    unfold Lib.compareBytes at h1 h2 ⊢
    have lt : ∀ u v : UInt8, (u < v) = (u.toNat < v.toNat) := fun u v => propext UInt8.lt_iff_toNat_lt
    simp only [lt] at h1 h2 ⊢
    by_cases p1 : x.toNat < y.toNat
    · rw [if_pos p1] at h1
      by_cases q1 : y.toNat < z.toNat
      · rw [if_pos (show x.toNat < z.toNat by omega)]
        exact ⟨by decide, fun h => absurd h (by decide)⟩
      · rw [if_neg q1] at h2
        by_cases q2 : z.toNat < y.toNat
        · rw [if_pos q2] at h2; exact absurd h2 (by decide)
        · rw [if_pos (show x.toNat < z.toNat by omega)]
          exact ⟨by decide, fun h => absurd h (by decide)⟩
    · rw [if_neg p1] at h1
      by_cases p2 : y.toNat < x.toNat
      · rw [if_pos p2] at h1; exact absurd h1 (by decide)
      · rw [if_neg p2] at h1
        by_cases q1 : y.toNat < z.toNat
        · rw [if_pos (show x.toNat < z.toNat by omega)]
          exact ⟨by decide, fun h => absurd h (by decide)⟩
        · rw [if_neg q1] at h2
          by_cases q2 : z.toNat < y.toNat
          · rw [if_pos q2] at h2; exact absurd h2 (by decide)
          · rw [if_neg q2] at h2
            rw [if_neg (show ¬ x.toNat < z.toNat by omega), if_neg (show ¬ z.toNat < x.toNat by omega), if_neg p1, if_neg p2, if_neg q1, if_neg q2]
            exact ih h1 h2
theorem siz_trans (t1 : ByteArray) (x1 : Int) (t2 : ByteArray) (x2 : Int) (t3 : ByteArray) (x3 : Int) (h1 : sizS t1 x1 t2 x2 ≤ 0) (h2 : sizS t2 x2 t3 x3 ≤ 0) :
    sizS t1 x1 t3 x3 ≤ 0 ∧ (sizS t1 x1 t3 x3 = 0 → sizS t1 x1 t2 x2 = 0 ∧ sizS t2 x2 t3 x3 = 0) := by
  have ht := cmpB_trans t1.data.toList t2.data.toList t3.data.toList
  unfold sizS at *
  generalize topS t1 x1 = p at *
  generalize topS t2 x2 = q at *
  generalize topS t3 x3 = r at *
  generalize Lib.compareBytes t1.data.toList t2.data.toList = A at *
  generalize Lib.compareBytes t2.data.toList t3.data.toList = B at *
  generalize Lib.compareBytes t1.data.toList t3.data.toList = C at *
  unfold Lib.compareInt at *
  rcases Int.lt_trichotomy p q with h3 | h3 | h3 <;> rcases Int.lt_trichotomy q r with h4 | h4 | h4
  all_goals
    first
    | (have e1 : ¬ q < p := by omega
       have e2 : ¬ r < q := by omega
       have e3 : p < r := by omega
       simp [e3])
    | (subst h3; subst h4
       simp at h1 h2 ⊢
       exact ht h1 h2)
    | (have e1 : ¬ p < q := by omega
       have e2 : p > q := by omega
       simp [e1, e2] at h1)
    | (have e1 : ¬ q < r := by omega
       have e2 : q > r := by omega
       simp [e1, e2] at h2)
theorem cmpS_neg (n : Bool) (t : ByteArray) (x : Int) (n' : Bool) (t' : ByteArray) (x' : Int) : cmpS n' t' x' n t x = - cmpS n t x n' t' x' := by
  unfold cmpS
  rw [siz_neg t x t' x', cmpI_neg (sgnS n t) (sgnS n' t')]
  by_cases h : sgnS n t = sgnS n' t'
  · rw [if_neg (by simp [h]), if_neg (by simp [h]), h, Int.mul_neg]
  · rw [if_pos (fun e => h e.symm), if_pos h]
theorem cmpS_trans (n1 : Bool) (t1 : ByteArray) (x1 : Int) (n2 : Bool) (t2 : ByteArray) (x2 : Int) (n3 : Bool) (t3 : ByteArray) (x3 : Int) (h1 : cmpS n1 t1 x1 n2 t2 x2 ≤ 0) (h2 : cmpS n2 t2 x2 n3 t3 x3 ≤ 0) :
    cmpS n1 t1 x1 n3 t3 x3 ≤ 0 ∧ (cmpS n1 t1 x1 n3 t3 x3 = 0 → cmpS n1 t1 x1 n2 t2 x2 = 0 ∧ cmpS n2 t2 x2 n3 t3 x3 = 0) := by
  have ha := siz_trans t1 x1 t2 x2 t3 x3
  have hb := siz_trans t3 x3 t2 x2 t1 x1
  rw [siz_neg t1 x1 t2 x2, siz_neg t1 x1 t3 x3, siz_neg t2 x2 t3 x3] at hb
  unfold cmpS at *
  have s1 := sgn_in n1 t1
  have s2 := sgn_in n2 t2
  have s3 := sgn_in n3 t3
  generalize sgnS n1 t1 = p at *
  generalize sgnS n2 t2 = q at *
  generalize sgnS n3 t3 = r at *
  generalize sizS t1 x1 t2 x2 = A at *
  generalize sizS t2 x2 t3 x3 = B at *
  generalize sizS t1 x1 t3 x3 = C at *
  unfold Lib.compareInt at *
  rcases s1 with rfl | rfl | rfl <;> rcases s2 with rfl | rfl | rfl <;> rcases s3 with rfl | rfl | rfl <;> simp at h1 h2 ⊢ <;> omega
end Go.Proofs.YtkejlejhnnjdkaaGreatDoor
