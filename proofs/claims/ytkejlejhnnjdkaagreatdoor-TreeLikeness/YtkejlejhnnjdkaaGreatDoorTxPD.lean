/-
 What texts.written and texts.Escape answer.
-/
import Derived.Test.YtkejlejhnnjdkaaGreatDoorTxPC
import Derived.Test.YtkejlejhnnjdkaaGreatDoorRefTx4
import Derived.BigQuiet
namespace Go.Proofs.YtkejlejhnnjdkaaGreatDoor
open Go.RowKit Go.Shelf
theorem oneL_plain {c : Nat} (h : plB c = true) : oneL c = [c] := by
 unfold plB at h
 simp only [decide_eq_true_eq] at h
 unfold oneL
 rw [if_neg (by omega), if_neg (by omega), if_neg (by omega), if_neg (by omega), if_neg (by omega), if_neg (by omega), if_neg (by omega), if_neg (by omega)]
theorem flat_plain : ∀ (k : Nat) (l : List Nat), k ≤ l.length → (∀ i, i < k → plB (lb l i) = true) → l.flatMap oneL = l.take k ++ (l.drop k).flatMap oneL
 | 0, l, _, _ => by simp
 | k + 1, [], h, _ => by simp at h
 | k + 1, x :: t, h, hp => by
  have h1 := flat_plain k t (by simpa using h) (fun i hi => hp (i + 1) (by omega))
  have h0 : plB x = true := hp 0 (by omega)
  rw [List.flatMap_cons, oneL_plain h0, h1]
  rfl
/-- What holds ahead of each round of Escape. -/
def EsR (s r : ByteArray) (o : List Nat) : Prop := (byts s).flatMap oneL = o ++ (byts r).flatMap oneL ∧ o.length + 6 * r.size ≤ 6 * s.size
theorem EsR.plain {s r r' : ByteArray} {o : List Nat} {k : Nat} (h : EsR s r o) (hk : IsPl r k) (hr' : byts r' = (byts r).drop k) : EsR s r' (o ++ (byts r).take k) := by
 obtain ⟨h1, h2⟩ := h
 obtain ⟨k1, k2, -⟩ := hk
 have hl : r'.size = r.size - k := by rw [← byts_length, hr', List.length_drop, byts_length]
 refine ⟨?_, ?_⟩
 ·rw [h1, flat_plain k (byts r) (by rw [byts_length]; exact k1) (fun i hi => by rw [← bAt_lb]; exact k2 i hi), hr', List.append_assoc]
 ·rw [List.length_append, List.length_take, byts_length]
  omega
theorem EsR.one {s r r' : ByteArray} {o : List Nat} {x : Nat} (h : EsR s r o) (hr : 0 < r.size) (hx : bAt r 0 = x) (hr' : byts r' = (byts r).drop 1) : EsR s r' (o ++ oneL x) ∧ r'.size < r.size := by
 obtain ⟨h1, h2⟩ := h
 have hl : r'.size = r.size - 1 := by rw [← byts_length, hr', List.length_drop, byts_length]
 have hxl : x < 256 := by rw [← hx]; exact bAt_lt r 0
 have ho := (oneL_lt hxl).2.2
 refine ⟨⟨?_, ?_⟩, by omega⟩
 ·rw [bAt_lb] at hx
  have hl2 := byts_length r
  cases hb : byts r with
  | nil =>
   rw [hb] at hl2
   simp at hl2
   omega
  | cons y t =>
   rw [hb] at hx hr' h1
   have hy : y = x := hx
   subst hy
   rw [h1, hr', List.flatMap_cons, List.append_assoc]
   rfl
 ·rw [List.length_append]
  omega
end Go.Proofs.YtkejlejhnnjdkaaGreatDoor
