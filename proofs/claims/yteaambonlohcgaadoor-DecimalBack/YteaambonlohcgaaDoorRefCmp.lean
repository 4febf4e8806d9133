/-
  What the reference's Cmp answers: the same.
-/
import Derived.Test.YteaambonlohcgaaDoorDecCmp
import Derived.Test.YteaambonlohcgaaDoorRefForm
namespace Go.Proofs.YteaambonlohcgaaDoor
open Go.RowKit Go.Shelf

theorem cmpB_neg : ∀ (a b : List UInt8), Lib.compareBytes b a = - Lib.compareBytes a b
  | [], [] => rfl
  | [], _ :: _ => rfl
  | _ :: _, [] => rfl
  | a :: u, b :: v => by
    unfold Lib.compareBytes
    have ih := cmpB_neg u v
    by_cases h1 : a < b
    · have h2 : ¬ b < a := fun h => by have := UInt8.lt_iff_toNat_lt.1 h1; have := UInt8.lt_iff_toNat_lt.1 h; omega
      simp only [h1, h2, if_true, if_false]; rfl
    · by_cases h2 : b < a
      · simp only [h1, h2, if_true, if_false]
      · simp only [h1, h2, if_false]; exact ih
theorem gt_cmp : ∀ (a b : List UInt8), (!(Op.bytesLess a b || a == b)) = decide (Lib.compareBytes a b = 1)
  | [], [] => rfl
  | [], _ :: _ => rfl
  | _ :: _, [] => rfl
  | a :: u, b :: v => by
    have ih := gt_cmp u v
    unfold Lib.compareBytes Op.bytesLess
    by_cases h1 : a < b
    · have h3 : decide (a < b) = true := decide_eq_true h1
      simp [h1]
    · by_cases h2 : b < a
      · have h3 : ¬ a = b := fun e => by subst e; exact h1 h2
        have h4 : (a == b) = false := by simpa using h3
        simp [h1, h2, h3]
      · have h3 : a = b := by
          apply UInt8.toNat_inj.1
          have e1 : ¬ a.toNat < b.toNat := fun h => h1 (UInt8.lt_iff_toNat_lt.2 h)
          have e2 : ¬ b.toNat < a.toNat := fun h => h2 (UInt8.lt_iff_toNat_lt.2 h)
          omega
        subst h3
        simp only [h1, decide_false, beq_self_eq_true, Bool.true_and, Bool.false_or, if_false]
        rw [← ih]
        congr 2
        simp [List.cons_beq_cons]
theorem cmpI_neg (a b : Int) : Lib.compareInt b a = - Lib.compareInt a b := by
  unfold Lib.compareInt
  split <;> split <;> (try split) <;> (try rfl) <;> omega
/-- Is the one above the other, without signs? -/
def abvS (t : ByteArray) (x : Int) (t' : ByteArray) (x' : Int) : Bool := if topS t x ≠ topS t' x' then decide (topS t' x' < topS t x) else decide (Lib.compareBytes t.data.toList t'.data.toList = 1)
theorem cmpI_zero (a b : Int) : Lib.compareInt a b = 0 ↔ a = b := by
  unfold Lib.compareInt
  split
  · constructor
    · intro h; cases h
    · omega
  · split
    · constructor
      · intro h; cases h
      · omega
    · constructor <;> intro <;> omega
theorem abv_siz (t : ByteArray) (x : Int) (t' : ByteArray) (x' : Int) : abvS t x t' x' = decide (sizS t x t' x' = 1) := by
  unfold abvS sizS
  by_cases h : topS t x = topS t' x'
  · rw [if_neg (by simpa using h), if_neg (by simpa using (cmpI_zero _ _).2 h)]
  · rw [if_pos h, if_pos (fun e => h ((cmpI_zero _ _).1 e))]
    unfold Lib.compareInt
    congr 1
    split
    · simp; omega
    · rw [if_pos (by omega)]; simp; omega
theorem siz_neg (t : ByteArray) (x : Int) (t' : ByteArray) (x' : Int) : sizS t' x' t x = - sizS t x t' x' := by
  unfold sizS
  rw [cmpI_neg (topS t x) (topS t' x'), cmpB_neg t.data.toList t'.data.toList]
  by_cases h : Lib.compareInt (topS t x) (topS t' x') = 0
  · rw [if_neg (by simp [h]), if_neg (by simp [h])]
  · rw [if_pos (by simpa using h), if_pos h]

theorem refcmp_eq {n : Bool} {t : ByteArray} {x : Int} {n' : Bool} {t' : ByteArray} {x' : Int} :
    cmpS n t x n' t' x' = if sgnS n t < sgnS n' t' then -1 else if sgnS n' t' < sgnS n t then 1 else if sgnS n t = 0 then 0 else if abvS t x t' x' = true then sgnS n t else if abvS t' x' t x = true then - sgnS n t else 0 := by
  rw [abv_siz, abv_siz, siz_neg t x t' x']
  unfold cmpS
  have h1 := siz_in t x t' x'
  generalize sgnS n t = p
  generalize sgnS n' t' = q
  generalize sizS t x t' x' = M at *
  by_cases hpq : p = q
  · subst hpq
    rw [if_neg (by simp), if_neg (by omega), if_neg (by omega)]
    by_cases hp : p = 0
    · rw [if_pos hp, hp, Int.zero_mul]
    · rw [if_neg hp]
      rcases h1 with rfl | rfl | rfl <;> simp
  · rw [if_pos hpq]
    unfold Lib.compareInt
    by_cases h2 : p < q
    · rw [if_pos h2, if_pos h2]
    · rw [if_neg h2, if_neg h2, if_pos (by omega), if_pos (by omega)]

end Go.Proofs.YteaambonlohcgaaDoor
