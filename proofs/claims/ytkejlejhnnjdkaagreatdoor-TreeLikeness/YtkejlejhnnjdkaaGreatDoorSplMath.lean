/-
 A number's text with other bytes ahead, and without those behind it (mathematics).
-/
import Derived.Test.YtkejlejhnnjdkaaGreatDoorDecR
import Derived.Test.YtkejlejhnnjdkaaGreatDoorDecCmp
namespace Go.Proofs.YtkejlejhnnjdkaaGreatDoor
open Go.RowKit
/-! Without what stands behind. -/
section
variable (s : ByteArray) (E : Nat) (hE : E ≤ s.size)
include hE
end
/-! What is read is well shaped. -/
theorem dropW_head {p : UInt8 → Bool} : ∀ {l : List UInt8} {x : UInt8} {r : List UInt8}, l.dropWhile p = x :: r → p x = false
 | [], _, _, h => by simp at h
 | y :: l, x, r, h => by
  rw [List.dropWhile_cons] at h
  split at h
  ·exact dropW_head h
  ·rename_i h1
   injection h with h2 h3
   rw [← h2]
   simpa using h1
theorem dropW_nil {p : UInt8 → Bool} : ∀ {l : List UInt8}, l.dropWhile p = [] → ∀ x ∈ l, p x = true
 | [], _, x, hx => by simp at hx
 | y :: l, h, x, hx => by
  rw [List.dropWhile_cons] at h
  split at h
  ·rename_i h1
   rcases List.mem_cons.1 hx with h2 | h2
   ·rw [h2]; exact h1
   ·exact dropW_nil h x h2
  ·cases h
theorem lk_mk (l : List UInt8) (i : Nat) (h : i < l.length) : lk ⟨l.toArray⟩ i = (l[i]).toNat := by
 have h1 : i < (⟨l.toArray⟩ : ByteArray).size := by rw [Lib.size_mk]; exact h
 rw [lk_at _ i h1]
 rfl
theorem trim_parts {L : List UInt8} (h : Lib.trimLeftB L 48 ≠ []) : ∃ (x y : UInt8) (a b : List UInt8), Lib.trimRightB (Lib.trimLeftB L 48) 48 = x :: a ∧ Lib.trimRightB (Lib.trimLeftB L 48) 48 = b ++ [y] ∧ x ≠ 48 ∧ y ≠ 48 := by
 cases hT : Lib.trimLeftB L 48 with
 | nil => exact absurd hT h
 | cons x r =>
  have hx : x ≠ 48 := by
   have := dropW_head (p := (· == 48)) hT
   simpa using this
  cases hR : (x :: r).reverse.dropWhile (· == 48) with
  | nil =>
   have := dropW_nil hR x (by simp)
   exact absurd (by simpa using this) hx
  | cons y a =>
   have hy : y ≠ 48 := by
    have := dropW_head (p := (· == 48)) hR
    simpa using this
   have hD : Lib.trimRightB (x :: r) 48 = a.reverse ++ [y] := by
    unfold Lib.trimRightB
    rw [hR, List.reverse_cons]
   have hpre : (a.reverse ++ [y]) <+: (x :: r) := by
    have hs : (y :: a) <:+ (x :: r).reverse := by rw [← hR]; exact List.dropWhile_suffix _
    have := List.reverse_prefix.2 hs
    rw [List.reverse_reverse, List.reverse_cons] at this
    exact this
   cases hc : a.reverse ++ [y] with
   | nil => simp at hc
   | cons z q =>
    rw [hc] at hpre
    obtain ⟨t, ht⟩ := hpre
    injection ht with h1 h2
    exact ⟨x, y, q, a.reverse, by rw [hD, hc, h1], hD, hx, hy⟩
theorem frm_of {L : List UInt8} {x : Int} (h : Lib.trimLeftB L 48 ≠ []) (hd : ∀ b ∈ L, dgB b.toNat = true) (hx : inB x = true) : frmS ⟨(Lib.trimRightB (Lib.trimLeftB L 48) 48).toArray⟩ x = true := by
 obtain ⟨u, v, a, b, h1, h2, hu, hv⟩ := trim_parts h
 have hmem : ∀ c ∈ Lib.trimRightB (Lib.trimLeftB L 48) 48, dgB c.toNat = true := fun c hc => by
  refine hd c ?_
  have h3 : c ∈ Lib.trimLeftB L 48 := by
   unfold Lib.trimRightB at hc
   have := (List.dropWhile_sublist (fun z => z == 48)).subset (List.mem_reverse.1 hc)
   exact List.mem_reverse.1 this
  exact (List.dropWhile_sublist (fun z => z == 48)).subset h3
 generalize hD : Lib.trimRightB (Lib.trimLeftB L 48) 48 = D at *
 have hz : (⟨D.toArray⟩ : ByteArray).size = D.length := Lib.size_mk D
 have hpos : 0 < D.length := by rw [h1]; simp
 have hall : ∀ i, i < (⟨D.toArray⟩ : ByteArray).size → dgB (lk ⟨D.toArray⟩ i) = true := fun i hi => by
  rw [hz] at hi
  rw [lk_mk D i hi]
  exact hmem _ (List.getElem_mem hi)
 rw [frm_yes (by rw [hz]; exact hpos) hall]
 have n48 : ∀ c : UInt8, c ≠ 48 → c.toNat ≠ 48 := fun c hc he => hc (UInt8.toNat_inj.1 he)
 have e0 : lk ⟨D.toArray⟩ 0 = u.toNat := by
  rw [lk_mk D 0 hpos]
  subst h1
  rfl
 have e1 : lk ⟨D.toArray⟩ ((⟨D.toArray⟩ : ByteArray).size - 1) = v.toNat := by
  have key : ∀ (D : List UInt8), D = b ++ [v] → ∀ h : D.length - 1 < D.length, D[D.length - 1] = v := by
   intro D h
   subst h
   intro h
   simp
  have h3 : D.length - 1 < D.length := by omega
  rw [hz, lk_mk D _ h3, key D h2 h3]
 rw [e0, e1, decide_eq_true (n48 u hu), decide_eq_true (n48 v hv), hx]
 rfl
theorem byte_lk {s : ByteArray} {b : UInt8} (h : b ∈ s.data.toList) : ∃ i, i < s.size ∧ lk s i = b.toNat := by
 obtain ⟨i, hi, hb⟩ := List.getElem_of_mem h
 have hi' : i < s.size := by rw [size_list] at hi; exact hi
 refine ⟨i, hi', ?_⟩
 rw [lk_at s i hi', ← hb, Array.getElem_toList]
 rfl
theorem num_dig {s : ByteArray} {p e : Nat} {n : Num} (h : scanS s p = (some n, e)) (hp : p ≤ s.size) : ∀ b ∈ n.wh.data.toList ++ n.be.data.toList, dgB b.toNat = true := by
 unfold scanS at h
 split at h
 ·cases h
 ·rename_i h1
  split at h
  ·cases h
  ·rename_i h2
   split at h
   ·cases h
   ·simp only [Prod.mk.injEq, Option.some.injEq] at h
    obtain ⟨rfl, rfl⟩ := h
    have d1 : dgB (lk s (scA s p)) = true := by simpa using h1
    have hA := scA_le s p hp
    have hB := scB_le s p hp
    have hC := scC_le s p hp
    intro b hb
    rcases List.mem_append.1 hb with hb | hb
    ·obtain ⟨i, hi, he⟩ := byte_lk hb
     rw [← he]
     have hz : (s.extract (scA s p) (scB s p)).size = scB s p - scA s p := by rw [ByteArray.size_extract]; omega
     have hi' : i < scB s p - scA s p := by rw [← hz]; exact hi
     rw [lk_extract s _ _ i hi' hB]
     unfold scB at hi'
     split at hi'
     ·obtain rfl : i = 0 := by omega
      exact d1
     ·exact rn_dig s (scA s p) (scA s p + i) (by omega) (by omega)
    ·obtain ⟨i, hi, he⟩ := byte_lk hb
     rw [← he]
     have hi2 : i < (scBe s p).size := hi
     show dgB (lk (scBe s p) i) = true
     unfold scBe at hi2 ⊢
     split
     ·rename_i h4
      rw [if_pos h4, ByteArray.size_extract] at hi2
      have h5 : scC s p = rn s (scB s p + 1) := by rw [scC, if_pos h4]
      rw [lk_extract s _ _ i (by omega) hC]
      exact rn_dig s (scB s p + 1) _ (by omega) (by omega)
     ·rename_i h4
      rw [if_neg h4] at hi2
      exact absurd hi2 (Nat.not_lt_zero _)
theorem read_formed {s : ByteArray} {p : Nat} (hp : p ≤ s.size) (h : (readS s p).2.2 = 0) : frmS ⟨((readS s p).1.ds).toArray⟩ (readS s p).1.ex = true := by
 obtain ⟨r, hr⟩ : ∃ r, scanS s p = r := ⟨_, rfl⟩
 obtain ⟨on, en⟩ := r
 unfold readS at h ⊢
 rw [hr] at h ⊢
 dsimp only at h ⊢
 cases on with
 | none => exact absurd h (by show ¬ (110 : Nat) = 0; decide)
 | some n =>
  dsimp only at h ⊢
  cases hw : worthS n with
  | none => rw [hw] at h; exact absurd h (by show ¬ (111 : Nat) = 0; decide)
  | some d =>
   dsimp only
   unfold worthS at hw
   split at hw
   ·injection hw with hw; rw [← hw]; rfl
   ·rename_i h1
    split at hw
    ·rename_i h2
     injection hw with hw
     rw [← hw]
     exact frm_of h1 (num_dig hr hp) h2
    ·cases hw
end Go.Proofs.YtkejlejhnnjdkaaGreatDoor
