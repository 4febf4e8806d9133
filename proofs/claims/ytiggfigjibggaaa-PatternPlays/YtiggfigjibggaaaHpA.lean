/-
  A heap's order: entries that stand in a list, each not ahead of the one above it.
-/
import Derived.Test.YtiggfigjibggaaaHpK
namespace Go.Proofs.Ytiggfigjibggaaa
open Go.RowKit Go.Shelf

/-- An entry: its route, name, place, hits, and how many came ahead of it. -/
structure Ent where
  r : ByteArray
  n : ByteArray
  p : Nat
  h : Nat
  a : Nat
/-- It goes ahead of the other one. -/
def ahd (x y : Ent) : Prop := x.h < y.h ∨ (x.h = y.h ∧ x.a < y.a)
instance (x y : Ent) : Decidable (ahd x y) := by unfold ahd; exact inferInstance
theorem ahd_tr {x y z : Ent} (h : ¬ ahd x y) (k : ¬ ahd y z) : ¬ ahd x z := by unfold ahd at *; omega
theorem ahd_as {x y : Ent} (h : ahd x y) : ¬ ahd y x := by unfold ahd at *; omega
theorem ahd_ge {x y z : Ent} (h : ¬ ahd x y) (k : ahd z y) : ¬ ahd x z := by unfold ahd at *; omega

abbrev HpL := List (Nat × Ent)
/-- At that place none is ahead of the one above it. -/
def Okh (H : HpL) (i : Nat) : Prop := ∀ x y, H[i]? = some x → H[(i - 1) / 2]? = some y → ¬ ahd x.2 y.2
def IsHp (H : HpL) : Prop := ∀ i, 0 < i → Okh H i
/-- All but what stands at k, and what stands below it. -/
def RiI (H : HpL) (k : Nat) : Prop := (∀ i, 0 < i → i ≠ k → (i - 1) / 2 ≠ k → Okh H i) ∧ ∀ c, 0 < c → (c - 1) / 2 = k → 0 < k → ∀ x y, H[c]? = some x → H[(k - 1) / 2]? = some y → ¬ ahd x.2 y.2
/-- All but what stands below k. -/
def SiI (H : HpL) (k : Nat) : Prop := (∀ i, 0 < i → (i - 1) / 2 ≠ k → Okh H i) ∧ ∀ c, 0 < c → (c - 1) / 2 = k → 0 < k → ∀ x y, H[c]? = some x → H[(k - 1) / 2]? = some y → ¬ ahd x.2 y.2
/-- Two change places. -/
def swH (H : HpL) (k j : Nat) (x y : Nat × Ent) : HpL := (H.set k y).set j x
section
variable {H : HpL} {k j : Nat} {x y : Nat × Ent}
theorem swH_len : (swH H k j x y).length = H.length := by simp [swH]
theorem swH_get (hk : H[k]? = some x) (hj : H[j]? = some y) (i : Nat) : (swH H k j x y)[i]? = if i = j then some x else if i = k then some y else H[i]? := by
  have h1 := (List.getElem?_eq_some_iff.1 hk).1
  have h2 := (List.getElem?_eq_some_iff.1 hj).1
  unfold swH
  by_cases e : i = j
  · subst e
    rw [if_pos rfl, List.getElem?_set_self (by simpa using h2)]
  · rw [if_neg e, List.getElem?_set_ne (fun h => e h.symm)]
    by_cases e2 : i = k
    · subst e2
      rw [if_pos rfl, List.getElem?_set_self h1]
    · rw [if_neg e2, List.getElem?_set_ne (fun h => e2 h.symm)]
theorem swH_perm (hk : H[k]? = some x) (hj : H[j]? = some y) : (swH H k j x y).Perm H := by
  obtain ⟨h1, e1⟩ := List.getElem?_eq_some_iff.1 hk
  obtain ⟨h2, e2⟩ := List.getElem?_eq_some_iff.1 hj
  have h := Array.swap_perm (xs := H.toArray) (i := k) (j := j) (by simpa using h1) (by simpa using h2)
  have h' := Array.perm_iff_toList_perm.1 h
  simp only [Array.toList_swap] at h'
  unfold swH
  rw [← e1, ← e2]
  simpa using h'
theorem ri_step (h : RiI H k) (h0 : 0 < k) (hk : H[k]? = some x) (hj : H[(k - 1) / 2]? = some y) : RiI (swH H k ((k - 1) / 2) x y) ((k - 1) / 2) := by
  have hne : k ≠ (k - 1) / 2 := by omega
  refine ⟨fun i hi h1 h2 u v hu hv => ?_, fun c hc h1 h2 u v hu hv => ?_⟩
  · rw [swH_get hk hj] at hu hv
    rw [if_neg h1] at hu
    rw [if_neg h2] at hv
    by_cases e : i = k
    · subst e
      exact absurd rfl h2
    · rw [if_neg e] at hu
      by_cases e2 : (i - 1) / 2 = k
      · rw [if_pos e2] at hv
        cases hv
        exact h.2 i hi e2 h0 u _ hu hj
      · rw [if_neg e2] at hv
        exact h.1 i hi e e2 u v hu hv
  · have e3 : ((k - 1) / 2 - 1) / 2 ≠ (k - 1) / 2 := by omega
    have e4 : ((k - 1) / 2 - 1) / 2 ≠ k := by omega
    rw [swH_get hk hj] at hu hv
    rw [if_neg e3, if_neg e4] at hv
    have hpj : ¬ ahd y.2 v.2 := h.1 ((k - 1) / 2) h2 (fun e => hne e.symm) e4 y v hj hv
    rw [if_neg (fun e : c = (k - 1) / 2 => by omega)] at hu
    by_cases e : c = k
    · rw [if_pos e] at hu
      cases hu
      exact hpj
    · rw [if_neg e] at hu
      refine ahd_tr (h.1 c hc e (by omega) u y hu (by rw [h1]; exact hj)) hpj
theorem ri_end (h : RiI H k) (hx : H[k]? = some x) (he : k = 0 ∨ ∀ y, H[(k - 1) / 2]? = some y → ¬ ahd x.2 y.2) : SiI H k := by
  refine ⟨fun i hi h1 => ?_, h.2⟩
  by_cases e : i = k
  · subst e
    rcases he with he | he
    · omega
    · intro u v hu hv
      rw [hx] at hu
      cases hu
      exact he v hv
  · exact h.1 i hi e h1
theorem si_step (h : SiI H k) (h0 : 0 < j) (hjk : (j - 1) / 2 = k) (hk : H[k]? = some x) (hj : H[j]? = some y) (ha : ahd y.2 x.2) (hs : ∀ s z, 0 < s → (s - 1) / 2 = k → s ≠ j → H[s]? = some z → ¬ ahd z.2 y.2) : SiI (swH H k j x y) j := by
  have hne : k ≠ j := by omega
  refine ⟨fun i hi h1 u v hu hv => ?_, fun c hc h1 h2 u v hu hv => ?_⟩
  · rw [swH_get hk hj] at hu hv
    rw [if_neg h1] at hv
    by_cases e : i = j
    · subst e
      rw [if_pos rfl] at hu
      rw [if_pos hjk] at hv
      cases hu; cases hv
      exact ahd_as ha
    · rw [if_neg e] at hu
      by_cases e1 : i = k
      · subst e1
        rw [if_pos rfl] at hu
        rw [if_neg (by omega)] at hv
        cases hu
        exact h.2 j h0 hjk hi _ v hj hv
      · rw [if_neg e1] at hu
        by_cases e2 : (i - 1) / 2 = k
        · rw [if_pos e2] at hv
          cases hv
          exact hs i u hi e2 e hu
        · rw [if_neg e2] at hv
          exact h.1 i hi e2 u v hu hv
  · rw [swH_get hk hj] at hu hv
    rw [if_neg (by omega), if_neg (by omega)] at hu
    rw [if_neg (by omega), if_pos hjk] at hv
    cases hv
    exact h.1 c hc (by omega) u y hu (by rw [h1]; exact hj)
theorem si_end (h : SiI H k) (hx : H[k]? = some x) (hs : ∀ s z, 0 < s → (s - 1) / 2 = k → H[s]? = some z → ¬ ahd z.2 x.2) : IsHp H := fun i hi => by
  by_cases e : (i - 1) / 2 = k
  · intro u v hu hv
    rw [e, hx] at hv
    cases hv
    exact hs i u hi e hu
  · exact h.1 i hi e
/-- One has turned. -/
theorem hp_set (h : IsHp H) (k : Nat) (z : Nat × Ent) : RiI (H.set k z) k := by
  refine ⟨fun i hi h1 h2 u v hu hv => ?_, fun c hc h1 h2 u v hu hv => ?_⟩
  · rw [List.getElem?_set_ne (fun e => h1 e.symm)] at hu
    rw [List.getElem?_set_ne (fun e => h2 e.symm)] at hv
    exact h i hi u v hu hv
  · rw [List.getElem?_set_ne (by omega)] at hu hv
    cases hm : H[k]? with
    | none =>
      have h3 := List.getElem?_eq_none_iff.1 hm
      have h4 := (List.getElem?_eq_some_iff.1 hu).1
      omega
    | some m => exact ahd_tr (h c hc u m hu (by rw [h1]; exact hm)) (h k h2 m v hm hv)
/-- One has come. -/
theorem hp_push (h : IsHp H) (z : Nat × Ent) : RiI (H ++ [z]) H.length := by
  refine ⟨fun i hi h1 h2 u v hu hv => ?_, fun c hc h1 h2 u v hu hv => ?_⟩
  · have h3 := (List.getElem?_eq_some_iff.1 hu).1
    simp at h3
    rw [List.getElem?_append_left (by omega)] at hu hv
    exact h i hi u v hu hv
  · have h3 := (List.getElem?_eq_some_iff.1 hu).1
    simp at h3
    omega
/-- The first one has gone, the last one stands in its place. -/
theorem hp_pop {A : HpL} {f l : Nat × Ent} (h : IsHp (f :: (A ++ [l]))) : RiI (l :: A) 0 := by
  refine ⟨fun i hi h1 h2 u v hu hv => ?_, fun c hc h1 h2 => by omega⟩
  obtain ⟨i, rfl⟩ : ∃ j, i = j + 1 := ⟨i - 1, by omega⟩
  obtain ⟨m, hm⟩ : ∃ m, (i + 1 - 1) / 2 = m + 1 := ⟨(i + 1 - 1) / 2 - 1, by omega⟩
  rw [hm] at hv
  simp only [List.getElem?_cons_succ] at hu hv
  have h3 := (List.getElem?_eq_some_iff.1 hu).1
  have h4 := (List.getElem?_eq_some_iff.1 hv).1
  refine h (i + 1) (by omega) u v ?_ ?_
  · simp only [List.getElem?_cons_succ]
    rw [List.getElem?_append_left h3]
    exact hu
  · rw [hm]
    simp only [List.getElem?_cons_succ]
    rw [List.getElem?_append_left h4]
    exact hv
theorem hp_one {f : Nat × Ent} : IsHp [f] := fun i hi u v hu _ => by
  have h3 := (List.getElem?_eq_some_iff.1 hu).1
  simp at h3
  omega
theorem hp_none : IsHp [] := fun i hi u v hu _ => by simp at hu
/-- The first one goes ahead of all. -/
theorem hp_min (h : IsHp H) {f : Nat × Ent} (h0 : H[0]? = some f) : ∀ (i : Nat) (z : Nat × Ent), H[i]? = some z → ¬ ahd z.2 f.2 := by
  intro i
  induction i using Nat.strongRecOn with
  | _ i ih =>
    intro z hz
    by_cases e : i = 0
    · subst e
      rw [h0] at hz
      cases hz
      unfold ahd
      omega
    · have hlt : (i - 1) / 2 < H.length := by have := (List.getElem?_eq_some_iff.1 hz).1; omega
      exact ahd_tr (h i (by omega) z _ hz (List.getElem?_eq_getElem hlt)) (ih ((i - 1) / 2) (by omega) _ (List.getElem?_eq_getElem hlt))
end
end Go.Proofs.Ytiggfigjibggaaa
