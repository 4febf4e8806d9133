/-
 Utf8RefMath, Utf8Walk, one behind the other.
-/
import Derived.Test.YtbabdhepnjacdaaDoorPack1
/- What the reference reckons of the first bytes of a form: the least and the greatest number that they can begin; that goes together with the state. -/
namespace Go.Proofs.YtbabdhepnjacdaaDoor
end Go.Proofs.YtbabdhepnjacdaaDoor
/- How a text is gone through, form by form. -/
namespace Go.Proofs.YtbabdhepnjacdaaDoor
/-- What a text tells: where each character begins, and the character. -/
def telOf (s : ByteArray) : List (Nat × Nat) := tel s5.q 0 0 0 (byts s)
/-- The first i bytes are a beginning; behind the last whole form, at p, stand the bytes b; the forms ahead of it are pre. -/
def WalkAt (s : ByteArray) (p i : Nat) (b : List Nat) (q : Q5) (r : Nat) (pre : List (Nat × Nat)) : Prop :=
 p + b.length = i ∧ i ≤ s.size ∧ b = ((byts s).drop p).take b.length ∧ FormAt b q r ∧ runS s5 ((byts s).take i) = ⟨i, false, q⟩ ∧ telOf s = pre ++ tel q p r i ((byts s).drop i) ∧ pre.length ≤ p
section
variable {s : ByteArray} {p i : Nat} {b : List Nat} {q : Q5} {r : Nat} {pre : List (Nat × Nat)}
theorem WalkAt.bad (h : WalkAt s p i b q r pre) (hi : i < s.size) (hs : stp q (byt s i) = none) : badOf s = i ∧ telOf s = pre := by
 obtain ⟨h1, h2, h3, h4, h5, h6, h7⟩ := h
 constructor
 ·unfold badOf
  have e : byts s = (byts s).take (i + 1) ++ (byts s).drop (i + 1) := (List.take_append_drop _ _).symm
  rw [e, runS_append, byts_take s i hi, runS_snoc, h5, tk_none rfl hs, runS_wrong rfl]
  rfl
 ·rw [h6, byts_drop s i hi, tel, hs]
  exact List.append_nil _
theorem WalkAt.next (h : WalkAt s p i b q r pre) (hi : i < s.size) {q' : Q5} (hs : stp q (byt s i) = some q') :
  (q'.left = 0 → WalkAt s (i + 1) (i + 1) [] q' (nextR b r (byt s i) q'.left) (pre ++ [(p, nextR b r (byt s i) q'.left)])) ∧
   (q'.left ≠ 0 → WalkAt s p (i + 1) (b ++ [byt s i]) q' (nextR b r (byt s i) q'.left) pre) := by
 obtain ⟨h1, h2, h3, h4, h5, h6, h7⟩ := h
 have hrun : runS s5 ((byts s).take (i + 1)) = ⟨i + 1, false, q'⟩ := by rw [byts_take s i hi, runS_snoc, h5, tk_some rfl hs]
 have hr : (if i = p then byt s i &&& (127 >>> q'.left) else r * 64 + byt s i % 64) = nextR b r (byt s i) q'.left := by
  unfold nextR
  by_cases e : b = []
  ·subst e
   rw [if_pos (by simpa using h1.symm), if_pos rfl]
  ·rw [if_neg e, if_neg]
   intro k
   apply e
   apply List.eq_nil_of_length_eq_zero
   omega
 have hb : b ++ [byt s i] = ((byts s).drop p).take (b ++ [byt s i]).length := by
  have hd := byts_drop s i hi
  rw [List.length_append, List.length_cons, List.length_nil, Nat.zero_add, List.take_add_one, ← h3, List.getElem?_drop, h1, byts_get s i hi]
  rfl
 rcases form_step h4 (byt_lt s i) hs with ⟨a, _, _⟩ | ⟨a, c⟩
 ·refine ⟨fun _ => ⟨rfl, hi, by simp, a, hrun, ?_, by simp; omega⟩, fun k => absurd a k⟩
  rw [h6, byts_drop s i hi, tel, hs]
  simp only [if_pos a]
  rw [hr, List.append_assoc]
  rfl
 ·refine ⟨fun k => by omega, fun _ => ⟨by simp; omega, hi, hb, c, hrun, ?_, h7⟩⟩
  rw [h6, byts_drop s i hi, tel, hs]
  simp only [if_neg (show ¬ q'.left = 0 by omega)]
  rw [hr]
theorem WalkAt.done (h : WalkAt s p s.size b q r pre) : telOf s = pre ∧ badOf s = (if q.left = 0 then -1 else (s.size : Int)) := by
 obtain ⟨h1, h2, h3, h4, h5, h6, h7⟩ := h
 constructor
 ·rw [h6, List.drop_of_length_le (by rw [byts_length]; exact Nat.le_refl _), tel]
  exact List.append_nil _
 ·unfold badOf
  rw [byts_whole] at h5
  rw [h5]
  unfold badI
  by_cases e : q.left = 0
  ·rw [if_pos e, if_neg]
   intro k
   rcases k with k | k
   ·cases k
   ·have : 0 < q.left := k
    omega
  ·rw [if_neg e, if_pos (.inr (by show 0 < q.left; omega))]
end
end Go.Proofs.YtbabdhepnjacdaaDoor
