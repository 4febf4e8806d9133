/-
 A trie as it grows: the math, and next in its words.
-/
import Derived.Test.YtbabdhepnjacdaaDoorTjA
namespace Go.Proofs.YtbabdhepnjacdaaDoor
open Go.RowKit Go.Shelf
def nulN : Nod := ⟨[], [], []⟩
/-- A step more, from node a: the trie behind it, and where it leads. -/
def NxT (T : List Nod) (a : Nat) (s : Stp) (T' : List Nod) (r : Nat) : Prop :=
 (∃ (n : Nod) (j : Nat), T[a]? = some n ∧ n.steps[j]? = some s ∧ n.tos[j]? = some (r : Int) ∧ T' = T) ∨ (∃ n : Nod, T[a]? = some n ∧ s ∉ n.steps ∧ r = T.length ∧ T' = T.set a ⟨n.steps ++ [s], n.tos ++ [(T.length : Int)], n.ends⟩ ++ [nulN])
/-- A path gone through, from node 0. -/
inductive InsS (T : List Nod) : List Stp → List Nod → Nat → Prop
 | nil : InsS T [] T 0
 | snoc {p : List Stp} {s : Stp} {T1 T2 : List Nod} {c r : Nat} (h : InsS T p T1 c) (k : NxT T1 c s T2 r) : InsS T (p ++ [s]) T2 r
inductive BldT : List (List Stp) → List Nod → Prop
 | nil : BldT [] [nulN]
 | snoc {L : List (List Stp)} {p : List Stp} {T T1 : List Nod} {c : Nat} {n : Nod} (h : BldT L T) (k : InsS T p T1 c) (hn : T1[c]? = some n) : BldT (L ++ [p]) (T1.set c ⟨n.steps, n.tos, n.ends ++ [(L.length : Int)]⟩)
def WfB (T : List Nod) : Prop := WfT T ∧ ∀ (a : Nat) (n : Nod), T[a]? = some n → n.steps.length < T.length
/-- The trie in memory. -/
def MemT (B : Nat) (w : World) (gb : Nat) (T : List Nod) (nb : Nat → Nat) : Prop := ∃ ln vl, RelT T ln vl nb ∧ (∀ a k, T.length ≤ a → k < 3 → ln a k = 0 ∧ vl a k = []) ∧ GrS B w gb T.length ln vl nb
theorem MemT.kept {B gb : Nat} {w w' : World} {T : List Nod} {nb : Nat → Nat} (h : MemT B w gb T nb) (hb : Below w.heap.size w w') : MemT B w' gb T nb := by
 obtain ⟨ln, vl, h1, h2, h3⟩ := h
 exact ⟨ln, vl, h1, h2, h3.kept hb⟩
theorem set_get {T : List Nod} {a : Nat} {x : Nod} (b : Nat) (n : Nod) (hn : (T.set a x ++ [nulN])[b]? = some n) : (b = a ∧ a < T.length ∧ n = x) ∨ (b ≠ a ∧ T[b]? = some n) ∨ (b = T.length ∧ n = nulN) := by
 by_cases hb : b < T.length
 ·rw [List.getElem?_append_left (by rw [List.length_set]; exact hb)] at hn
  by_cases e : b = a
  ·subst e
   rw [List.getElem?_set_self hb] at hn
   cases hn
   exact .inl ⟨rfl, hb, rfl⟩
  ·rw [List.getElem?_set_ne (fun h => e h.symm)] at hn
   exact .inr (.inl ⟨e, hn⟩)
 ·have hl := (List.getElem?_eq_some_iff.1 hn).1
  rw [List.length_append, List.length_set, List.length_singleton] at hl
  have hbe : b = T.length := by omega
  rw [List.getElem?_append_right (by rw [List.length_set]; omega), List.length_set, hbe] at hn
  simp at hn
  exact .inr (.inr ⟨hbe, hn.symm⟩)
theorem nulN_wf (T : List Nod) (a : Nat) : nulN.steps.length = nulN.tos.length ∧ (∀ s ∈ nulN.steps, s.name.size ≤ capT) ∧ stpB nulN.steps ∧ (∀ x ∈ nulN.tos, (a : Int) < x ∧ x < (T.length : Int)) ∧ (∀ x ∈ nulN.ends, 0 ≤ x ∧ x < 256) ∧ nulN.steps.length ≤ 1048576 :=
 ⟨rfl, fun s h => by simp [nulN] at h, fun s h => by simp [nulN] at h, fun x h => by simp [nulN] at h, fun x h => by simp [nulN] at h, Nat.zero_le _⟩
theorem WfB.next {T : List Nod} (h : WfB T) {a : Nat} {n : Nod} (hn : T[a]? = some n) {s : Stp} (hs : s.name.size ≤ capT) (hk : i64B s.kind) (hp : i64B s.place) (hT : T.length ≤ 1048575) : WfB (T.set a ⟨n.steps ++ [s], n.tos ++ [(T.length : Int)], n.ends⟩ ++ [nulN]) := by
 have hl : (T.set a ⟨n.steps ++ [s], n.tos ++ [(T.length : Int)], n.ends⟩ ++ [nulN]).length = T.length + 1 := by rw [List.length_append, List.length_set]; rfl
 have haT := (List.getElem?_eq_some_iff.1 hn).1
 refine ⟨fun b m hb => ?_, fun b m hb => ?_⟩
 ·rw [hl]
  rcases set_get b m hb with ⟨rfl, h1, rfl⟩ | ⟨h1, h2⟩ | ⟨rfl, rfl⟩
  ·obtain ⟨w1, w2, w3, w4, w5, w6⟩ := h.1 b n hn
   have w7 := h.2 b n hn
   refine ⟨by simp [w1], fun u hu => ?_, fun u hu => ?_, fun x hx => ?_, w5, by simp; omega⟩
   ·rcases List.mem_append.1 hu with hu | hu
    ·exact w2 u hu
    ·obtain rfl := List.mem_singleton.1 hu; exact hs
   ·rcases List.mem_append.1 hu with hu | hu
    ·exact w3 u hu
    ·obtain rfl := List.mem_singleton.1 hu; exact ⟨hk, hp⟩
   ·rcases List.mem_append.1 hx with hx | hx
    ·have := w4 x hx; omega
    ·obtain rfl := List.mem_singleton.1 hx; omega
  ·obtain ⟨w1, w2, w3, w4, w5, w6⟩ := h.1 b m h2
   exact ⟨w1, w2, w3, fun x hx => by have := w4 x hx; omega, w5, w6⟩
  ·obtain ⟨w1, w2, w3, w4, w5, w6⟩ := nulN_wf T T.length
   exact ⟨w1, w2, w3, fun x hx => by simp [nulN] at hx, w5, w6⟩
 ·rw [hl]
  rcases set_get b m hb with ⟨rfl, h1, rfl⟩ | ⟨h1, h2⟩ | ⟨rfl, rfl⟩
  ·have := h.2 b n hn
   simp
   omega
  ·have := h.2 b m h2; omega
  ·show 0 < _; omega
theorem nextT_calls (B gb : Nat) (T : List Nod) (hT : T.length ≤ 1048575) (nb : Nat → Nat) (hW : Hid (WfB T)) (a : Nat) (n : Nod) (hn : Hid (T[a]? = some n)) (s : Stp) (hs : s.name.size ≤ 1048576) (hk : i64B s.kind) (hp : i64B s.place) (w : World) (h : Hid (MemT B w gb T nb)) (hBw : B ≤ w.heap.size) :
  Calls Tryd.prog 31 #[.pointer (some ⟨gb, 0, none⟩), .pointer (some ⟨nb a, 0, none⟩), .agg #[.int .i64 s.kind, .string s.name, .int .i64 s.place]] w fun e w' => (∃ (r : Nat) (T' : List Nod) (nb' : Nat → Nat), e = .returned (.pointer (some ⟨nb' r, 0, none⟩)) ∧ NxT T a s T' r ∧ MemT B w' gb T' nb' ∧ WfB T' ∧ r < T'.length ∧ T'.length ≤ T.length + 1 ∧ T.length ≤ T'.length ∧ ∀ x, x < T.length → nb' x = nb x) ∧ Below B w w' ∧ w.heap.size ≤ w'.heap.size := by
 obtain ⟨ln, vl, hR, hZ, hG⟩ := h.out
 have haT := (List.getElem?_eq_some_iff.1 hn.out).1
 obtain ⟨r0, r1, r2⟩ := hR a n hn.out
 obtain ⟨w1, w2, w3, w4, w5, w6⟩ := hW.out.1 a n hn.out
 refine Calls.mono (next23_calls B gb T.length ln vl nb (by omega) a haT s hs n.steps (n.tos.map fun x => nb x.toNat) n.steps.length (hid rfl) (hid (by rw [List.length_map, w1])) w6 (hid r0) (hid ⟨by rw [r1.1, w1], r1.2⟩) (hid w2) w (hid hG) hBw (hid (fun k hk => (hZ _ k (Nat.le_refl _) hk).1)) (hid (fun k hk => (hZ _ k (Nat.le_refl _) hk).2))) ?_
 rintro e w' ⟨⟨r, rfl, hcase⟩, hb, hsz⟩
 refine ⟨?_, hb, hsz⟩
 rcases hcase with ⟨j, h1, h2, h3⟩ | ⟨h1, h2, h3⟩
 ·rw [List.getElem?_map] at h2
  cases hx : n.tos[j]? with
  | none => rw [hx] at h2; cases h2
  | some x =>
   rw [hx] at h2
   simp at h2
   subst h2
   have hx2 := w4 x (List.mem_of_getElem? hx)
   exact ⟨x.toNat, T, nb, rfl, .inl ⟨n, j, hn.out, h1, by rw [hx]; congr 1; omega, rfl⟩, ⟨ln, vl, hR, hZ, h3⟩, hW.out, by omega, by omega, Nat.le_refl _, fun _ _ => rfl⟩
 ·refine ⟨T.length, T.set a ⟨n.steps ++ [s], n.tos ++ [(T.length : Int)], n.ends⟩ ++ [nulN], fun x => if x = T.length then r else nb x, by simp, .inr ⟨n, hn.out, h1, rfl, rfl⟩, ?_, hW.out.next hn.out (by unfold capT; omega) hk hp hT, by rw [List.length_append, List.length_set]; exact Nat.lt_succ_self _, by rw [List.length_append, List.length_set]; exact Nat.le_refl _, by rw [List.length_append, List.length_set]; exact Nat.le_succ _, fun x hx => if_neg (by omega)⟩
  have hl : (T.set a ⟨n.steps ++ [s], n.tos ++ [(T.length : Int)], n.ends⟩ ++ [nulN]).length = T.length + 1 := by rw [List.length_append, List.length_set]; rfl
  refine ⟨_, _, fun b m hb' => ?_, fun b k hb' hk3 => ?_, by rw [hl]; exact h3⟩
  ·have hmap : ∀ L : List Int, (∀ x ∈ L, x < (T.length : Int) ∧ 0 ≤ x) → (L.map fun x => (if x.toNat = T.length then r else nb x.toNat)) = L.map fun x => nb x.toNat := fun L hL => List.map_congr_left (fun x hx => if_neg (by have := hL x hx; omega))
   rcases set_get b m hb' with ⟨rfl, g1, rfl⟩ | ⟨g1, g2⟩ | ⟨rfl, rfl⟩
   ·refine ⟨⟨?_, ?_⟩, ⟨?_, ?_⟩, ⟨?_, ?_⟩⟩
    ·rw [updF_ne (by omega), updF_same]; simp
    ·rw [updF_ne (by omega), updF_same]; simp
    ·rw [updF_same]; simp [w1]
    ·rw [updF_same]
     show _ = ((n.tos ++ [(T.length : Int)]).map fun x => (if x.toNat = T.length then r else nb x.toNat)).map ptrV
     rw [List.map_append, List.map_append, hmap n.tos (fun x hx => by have := w4 x hx; omega)]
     simp
    ·rw [updF_ne (by omega), updF_ne (by omega)]; exact r2.1
    ·rw [updF_ne (by omega), updF_ne (by omega)]; exact r2.2
   ·obtain ⟨s0, s1, s2⟩ := hR b m g2
    have wb := (hW.out.1 b m g2).2.2.2.1
    refine ⟨⟨?_, ?_⟩, ⟨?_, ?_⟩, ⟨?_, ?_⟩⟩
    ·rw [updF_ne (by omega), updF_ne (by omega)]; exact s0.1
    ·rw [updF_ne (by omega), updF_ne (by omega)]; exact s0.2
    ·rw [updF_ne (by omega), updF_ne (by omega)]; exact s1.1
    ·rw [updF_ne (by omega), updF_ne (by omega), hmap m.tos (fun x hx => by have := wb x hx; omega)]; exact s1.2
    ·rw [updF_ne (by omega), updF_ne (by omega)]; exact s2.1
    ·rw [updF_ne (by omega), updF_ne (by omega)]; exact s2.2
   ·have z := fun k hk => hZ T.length k (Nat.le_refl _) hk
    refine ⟨⟨?_, ?_⟩, ⟨?_, ?_⟩, ⟨?_, ?_⟩⟩
    ·rw [updF_ne (by omega), updF_ne (by omega)]; exact (z 0 (by decide)).1
    ·rw [updF_ne (by omega), updF_ne (by omega)]; exact (z 0 (by decide)).2
    ·rw [updF_ne (by omega), updF_ne (by omega)]; exact (z 1 (by decide)).1
    ·rw [updF_ne (by omega), updF_ne (by omega)]; exact (z 1 (by decide)).2
    ·rw [updF_ne (by omega), updF_ne (by omega)]; exact (z 2 (by decide)).1
    ·rw [updF_ne (by omega), updF_ne (by omega)]; exact (z 2 (by decide)).2
  ·rw [hl] at hb'
   rw [updF_ne (by omega), updF_ne (by omega), updF_ne (by omega), updF_ne (by omega)]
   exact hZ b k (by omega) hk3
end Go.Proofs.YtbabdhepnjacdaaDoor
