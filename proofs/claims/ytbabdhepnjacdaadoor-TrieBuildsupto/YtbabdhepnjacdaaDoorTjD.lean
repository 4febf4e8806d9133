/-
 What Build makes: the math.
-/
import Derived.Test.YtbabdhepnjacdaaDoorTjC
namespace Go.Proofs.YtbabdhepnjacdaaDoor
open Go.RowKit Go.Shelf
theorem flat_at {α : Type} (f : Nod → List α) {T : List Nod} {a : Nat} {n : Nod} (hn : T[a]? = some n) : T.flatMap f = (T.take a).flatMap f ++ (f n ++ (T.drop (a + 1)).flatMap f) := by
 obtain ⟨hl, he⟩ := List.getElem?_eq_some_iff.1 hn
 have e : T = T.take a ++ n :: T.drop (a + 1) := by rw [← he, List.getElem_cons_drop, List.take_append_drop]
 conv => lhs; rw [e]
 rw [List.flatMap_append, List.flatMap_cons]
theorem flat_set {α : Type} (f : Nod → List α) {T : List Nod} {a : Nat} {n : Nod} (x : Nod) (hn : T[a]? = some n) : (T.set a x).flatMap f = (T.take a).flatMap f ++ (f x ++ (T.drop (a + 1)).flatMap f) := by
 have hl := (List.getElem?_eq_some_iff.1 hn).1
 have h := flat_at f (T := T.set a x) (a := a) (n := x) (List.getElem?_set_self hl)
 rw [h, List.take_set_of_le (Nat.le_refl _), List.drop_set_of_lt (Nat.lt_succ_self _)]
theorem perm_end {α : Type} (A B C : List α) (x : α) : (A ++ ((B ++ [x]) ++ C)).Perm ((A ++ (B ++ C)) ++ [x]) := by
 have h1 : ((B ++ [x]) ++ C).Perm ((B ++ C) ++ [x]) := by
  rw [List.append_assoc, List.append_assoc]
  exact List.Perm.append_left B List.perm_append_comm
 have h2 := List.Perm.append_left A h1
 rwa [← List.append_assoc A (B ++ C) [x]] at h2
/-- All that is known of a trie as it grows. -/
structure Inv (Q : Stp → Prop) (T : List Nod) (k : Nat) : Prop where
 q : ∀ n ∈ T, ∀ s ∈ n.steps, Q s
 nd : ∀ n ∈ T, n.steps.length = n.tos.length ∧ n.steps.Nodup
 ok : ToOk T T.length
 dup : (toA T).Nodup
 len : (toA T).length + 1 = T.length
 ris : ∀ n ∈ T, n.ends.Pairwise (· < ·)
 end_ : (enA T).Perm ((List.range k).map fun i : Nat => (i : Int))
theorem mem_set2 {T : List Nod} {a : Nat} {x m : Nod} (h : m ∈ T.set a x) : m ∈ T ∨ m = x := (List.mem_or_eq_of_mem_set h)
theorem Inv.next {Q : Stp → Prop} {T T' : List Nod} {k a r : Nat} {s : Stp} (h : Inv Q T k) (hx : NxT T a s T' r) (hs : Q s) : Inv Q T' k := by
 rcases hx with ⟨n, j, -, -, -, rfl⟩ | ⟨n, hn, hsn, -, rfl⟩
 ·exact h
 ·have hnm := List.mem_of_getElem? hn
  have haT := (List.getElem?_eq_some_iff.1 hn).1
  have hl : (T.set a ⟨n.steps ++ [s], n.tos ++ [(T.length : Int)], n.ends⟩ ++ [nulN]).length = T.length + 1 := by rw [List.length_append, List.length_set]; rfl
  have hmem : ∀ m ∈ (T.set a ⟨n.steps ++ [s], n.tos ++ [(T.length : Int)], n.ends⟩ ++ [nulN]), m ∈ T ∨ m = ⟨n.steps ++ [s], n.tos ++ [(T.length : Int)], n.ends⟩ ∨ m = nulN := fun m hm => by
   rcases List.mem_append.1 hm with hm | hm
   ·rcases mem_set2 hm with hm | hm
    ·exact .inl hm
    ·exact .inr (.inl hm)
   ·exact .inr (.inr (List.mem_singleton.1 hm))
  have hto : (toA (T.set a ⟨n.steps ++ [s], n.tos ++ [(T.length : Int)], n.ends⟩ ++ [nulN])).Perm (toA T ++ [(T.length : Int)]) := by
   unfold toA
   rw [List.flatMap_append, flat_set Nod.tos _ hn, flat_at Nod.tos hn]
   simp only [nulN, List.flatMap_cons, List.flatMap_nil, List.append_nil]
   exact perm_end _ _ _ _
  have hen : enA (T.set a ⟨n.steps ++ [s], n.tos ++ [(T.length : Int)], n.ends⟩ ++ [nulN]) = enA T := by
   unfold enA
   rw [List.flatMap_append, flat_set Nod.ends _ hn, flat_at Nod.ends hn]
   simp [nulN]
  have hlt : ∀ x ∈ toA T, x < (T.length : Int) := fun x hx => (toA_bd h.ok x hx).2
  refine ⟨fun m hm u hu => ?_, fun m hm => ?_, fun b m hb x hx => ?_, ?_, ?_, fun m hm => ?_, by rw [hen]; exact h.end_⟩
  ·rcases hmem m hm with hm | rfl | rfl
   ·exact h.q m hm u hu
   ·rcases List.mem_append.1 hu with hu | hu
    ·exact h.q n hnm u hu
    ·obtain rfl := List.mem_singleton.1 hu; exact hs
   ·simp [nulN] at hu
  ·rcases hmem m hm with hm | rfl | rfl
   ·exact h.nd m hm
   ·have h1 := h.nd n hnm
    refine ⟨by simp [h1.1], ?_⟩
    rw [List.nodup_append]
    refine ⟨h1.2, by simp, fun a ha b hb e => ?_⟩
    obtain rfl := List.mem_singleton.1 hb
    subst e
    exact hsn ha
   ·exact ⟨rfl, by simp [nulN]⟩
  ·rw [hl]
   rcases set_get b m hb with ⟨rfl, h1, rfl⟩ | ⟨h1, h2⟩ | ⟨rfl, rfl⟩
   ·rcases List.mem_append.1 hx with hx | hx
    ·have := h.ok b n hn x hx; omega
    ·obtain rfl := List.mem_singleton.1 hx; omega
   ·have := h.ok b m h2 x hx; omega
   ·simp [nulN] at hx
  ·rw [hto.nodup_iff, List.nodup_append]
   refine ⟨h.dup, by simp, fun a ha b hb e => ?_⟩
   obtain rfl := List.mem_singleton.1 hb
   have := hlt a ha
   omega
  ·rw [hto.length_eq, List.length_append, hl]
   have := h.len
   simp
   omega
  ·rcases hmem m hm with hm | rfl | rfl
   ·exact h.ris m hm
   ·exact h.ris n hnm
   ·simp [nulN]
theorem Inv.ins {Q : Stp → Prop} {T T' : List Nod} {k c : Nat} {p : List Stp} (h : Inv Q T k) (hx : InsS T p T' c) (hp : ∀ s ∈ p, Q s) : Inv Q T' k := by
 induction hx with
 | nil => exact h
 | snoc hi hk ih => exact (ih (fun s hs => hp s (by simp [hs]))).next hk (hp _ (by simp))
theorem Inv.ends {Q : Stp → Prop} {T : List Nod} {k c : Nat} {n : Nod} (h : Inv Q T k) (hn : T[c]? = some n) : Inv Q (T.set c ⟨n.steps, n.tos, n.ends ++ [(k : Int)]⟩) (k + 1) := by
 have hnm := List.mem_of_getElem? hn
 have hcT := (List.getElem?_eq_some_iff.1 hn).1
 have hto : toA (T.set c ⟨n.steps, n.tos, n.ends ++ [(k : Int)]⟩) = toA T := by unfold toA; rw [flat_set Nod.tos _ hn, flat_at Nod.tos hn]
 have hen : (enA (T.set c ⟨n.steps, n.tos, n.ends ++ [(k : Int)]⟩)).Perm (enA T ++ [(k : Int)]) := by
  unfold enA
  rw [flat_set Nod.ends _ hn, flat_at Nod.ends hn]
  exact perm_end _ _ _ _
 have hlt : ∀ x ∈ enA T, x < (k : Int) := fun x hx => by
  have := h.end_.mem_iff.1 hx
  obtain ⟨i, hi, rfl⟩ := List.mem_map.1 this
  have := List.mem_range.1 hi
  omega
 refine ⟨fun m hm u hu => ?_, fun m hm => ?_, fun b m hb x hx => ?_, by rw [hto]; exact h.dup, by rw [hto, List.length_set]; exact h.len, fun m hm => ?_, ?_⟩
 ·rcases mem_set2 hm with hm | rfl
  ·exact h.q m hm u hu
  ·exact h.q n hnm u hu
 ·rcases mem_set2 hm with hm | rfl
  ·exact h.nd m hm
  ·exact h.nd n hnm
 ·rw [List.length_set]
  by_cases e : b = c
  ·subst e
   rw [List.getElem?_set_self hcT] at hb
   cases hb
   exact h.ok b n hn x hx
  ·rw [List.getElem?_set_ne (fun h => e h.symm)] at hb
   exact h.ok b m hb x hx
 ·rcases mem_set2 hm with hm | rfl
  ·exact h.ris m hm
  ·rw [List.pairwise_append]
   refine ⟨h.ris n hnm, by simp, fun a ha b hb => ?_⟩
   obtain rfl := List.mem_singleton.1 hb
   exact hlt a (List.mem_flatMap.2 ⟨n, hnm, ha⟩)
 ·rw [List.range_succ, List.map_append]
  exact hen.trans (List.Perm.append_right _ h.end_)
theorem inv_nul (Q : Stp → Prop) : Inv Q [nulN] 0 :=
 ⟨fun n hn s hs => by obtain rfl := List.mem_singleton.1 hn; simp [nulN] at hs, fun n hn => by obtain rfl := List.mem_singleton.1 hn; exact ⟨rfl, by simp [nulN]⟩, fun a n hn x hx => by
  match a, hn with
  | 0, hn => simp at hn; subst hn; simp [nulN] at hx
  | a + 1, hn => simp at hn, by simp [toA, nulN], by simp [toA, nulN], fun n hn => by obtain rfl := List.mem_singleton.1 hn; simp [nulN], by simp [enA, nulN]⟩
theorem BldT.inv {Q : Stp → Prop} {L : List (List Stp)} {T : List Nod} (h : BldT L T) (hQ : ∀ p ∈ L, ∀ s ∈ p, Q s) : Inv Q T L.length := by
 induction h with
 | nil => exact inv_nul Q
 | snoc h k hn ih =>
  rw [List.length_append, List.length_singleton]
  exact ((ih (fun p hp => hQ p (by simp [hp]))).ins k (hQ _ (by simp))).ends hn
/-- A path is there still. -/
theorem PthOf.grow {T T' : List Nod} (hT : ∀ (a : Nat) (n : Nod), T[a]? = some n → ∃ n', T'[a]? = some n' ∧ (∀ (j : Nat) (x : Int), n.tos[j]? = some x → n'.tos[j]? = some x) ∧ ∀ (j : Nat) (s : Stp), n.steps[j]? = some s → n'.steps[j]? = some s) {x : Nat} {p : List Stp} (h : PthOf T x p) : PthOf T' x p := by
 induction h with
 | root => exact .root
 | step hn hx hs _ ih =>
  obtain ⟨n', h1, h2, h3⟩ := hT _ _ hn
  exact .step h1 (h2 _ _ hx) (h3 _ _ hs) ih
theorem nx_grow {T T' : List Nod} {a r : Nat} {s : Stp} (h : NxT T a s T' r) : ∀ (b : Nat) (n : Nod), T[b]? = some n → ∃ n', T'[b]? = some n' ∧ (∀ (j : Nat) (x : Int), n.tos[j]? = some x → n'.tos[j]? = some x) ∧ (∀ (j : Nat) (s : Stp), n.steps[j]? = some s → n'.steps[j]? = some s) ∧ n'.ends = n.ends := by
 rcases h with ⟨n, j, -, -, -, rfl⟩ | ⟨n, hn, -, -, rfl⟩
 ·exact fun b m hb => ⟨m, hb, fun _ _ h => h, fun _ _ h => h, rfl⟩
 ·intro b m hb
  have hbT := (List.getElem?_eq_some_iff.1 hb).1
  by_cases e : b = a
  ·subst e
   have := hn.symm.trans hb
   cases this
   refine ⟨⟨n.steps ++ [s], n.tos ++ [(T.length : Int)], n.ends⟩, by rw [List.getElem?_append_left (by rw [List.length_set]; exact hbT), List.getElem?_set_self hbT], fun j x hj => ?_, fun j u hj => ?_, rfl⟩
   ·show (n.tos ++ [(T.length : Int)])[j]? = some x
    rw [List.getElem?_append_left (List.getElem?_eq_some_iff.1 hj).1]; exact hj
   ·show (n.steps ++ [s])[j]? = some u
    rw [List.getElem?_append_left (List.getElem?_eq_some_iff.1 hj).1]; exact hj
  ·exact ⟨m, by rw [List.getElem?_append_left (by rw [List.length_set]; exact hbT), List.getElem?_set_ne (fun h => e h.symm)]; exact hb, fun _ _ h => h, fun _ _ h => h, rfl⟩
theorem nx_pth {T T' : List Nod} {c r k : Nat} {s : Stp} {p : List Stp} {Q : Stp → Prop} (hI : Inv Q T k) (h : NxT T c s T' r) (hp : PthOf T c p) : PthOf T' r (p ++ [s]) := by
 have hp' := hp.grow (fun a n hn => by obtain ⟨n', h1, h2, h3, -⟩ := nx_grow h a n hn; exact ⟨n', h1, h2, h3⟩)
 rcases h with ⟨n, j, hn, hs, hx, rfl⟩ | ⟨n, hn, -, rfl, rfl⟩
 ·exact .step hn hx hs hp
 ·have hcT := (List.getElem?_eq_some_iff.1 hn).1
  have hl := (hI.nd n (List.mem_of_getElem? hn)).1
  refine .step (a := c) (j := n.steps.length) (n := ⟨n.steps ++ [s], n.tos ++ [(T.length : Int)], n.ends⟩) (by rw [List.getElem?_append_left (by rw [List.length_set]; exact hcT), List.getElem?_set_self hcT]) ?_ ?_ hp'
  ·show (n.tos ++ [(T.length : Int)])[n.steps.length]? = _
   rw [hl, List.getElem?_append_right (Nat.le_refl _)]; simp
  ·show (n.steps ++ [s])[n.steps.length]? = _
   rw [List.getElem?_append_right (Nat.le_refl _)]; simp
theorem ins_pth {T T' : List Nod} {c k : Nat} {p : List Stp} {Q : Stp → Prop} (hI : Inv Q T k) (h : InsS T p T' c) (hp : ∀ s ∈ p, Q s) : PthOf T' c p := by
 induction h with
 | nil => exact .root
 | snoc hi hk ih => exact nx_pth (hI.ins hi (fun s hs => hp s (by simp [hs]))) hk (ih (fun s hs => hp s (by simp [hs])))
end Go.Proofs.YtbabdhepnjacdaaDoor
