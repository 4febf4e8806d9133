/-
 Tries: the math.
-/
import Derived.Test.YtbabdhepnjacdaaDoorPyJ
namespace Go.Proofs.YtbabdhepnjacdaaDoor
open Go.RowKit Go.Shelf
instance decStp : DecidableEq Stp := fun a b => match a, b with
 | ⟨k, n, p⟩, ⟨k', n', p'⟩ => decidable_of_iff (k = k' ∧ n = n' ∧ p = p') (by simp)
/-- No two alike and all below n: at most n. -/
theorem pig_len : ∀ (n : Nat) (L : List Int), L.Nodup → (∀ x ∈ L, 0 ≤ x ∧ x < (n : Int)) → L.length ≤ n
 | 0, L, _, h => by
  cases L with
  | nil => exact Nat.le_refl _
  | cons a L => have := h a (by simp); omega
 | n + 1, L, hd, h => by
  have h1 := pig_len n (L.erase (n : Int)) (hd.erase _) (fun x hx => by
   have h2 := (hd.mem_erase_iff).1 hx
   have := h x h2.2
   have := h2.1
   omega)
  have := List.length_erase (a := (n : Int)) (l := L)
  by_cases hc : (n : Int) ∈ L
  ·rw [if_pos hc] at this; omega
  ·rw [if_neg hc] at this; omega
theorem pig_mem (n : Nat) (L : List Int) (hd : L.Nodup) (h : ∀ x ∈ L, 0 ≤ x ∧ x < (n : Int)) (hl : n ≤ L.length) (i : Nat) (hi : i < n) : (i : Int) ∈ L := by
 by_cases hc : (i : Int) ∈ L
 ·exact hc
 ·exfalso
  have h1 := pig_len n ((i : Int) :: L) (List.nodup_cons.2 ⟨hc, hd⟩) (fun x hx => by
   rcases List.mem_cons.1 hx with rfl | hx
   ·omega
   ·exact h x hx)
  simp at h1
  omega
/-- All below n are there, and no more than n: just these, each once. -/
theorem pig_all : ∀ (n : Nat) (L : List Int), (∀ i : Nat, i < n → (i : Int) ∈ L) → L.length ≤ n → L.Nodup ∧ ∀ x ∈ L, 0 ≤ x ∧ x < (n : Int)
 | 0, L, _, h => by
  cases L with
  | nil => exact ⟨List.nodup_nil, fun x hx => by simp at hx⟩
  | cons a L => simp at h
 | n + 1, L, hm, hl => by
  have hn := hm n (by omega)
  have hle := List.length_erase (a := (n : Int)) (l := L)
  rw [if_pos hn] at hle
  have ih := pig_all n (L.erase (n : Int)) (fun i hi => (List.mem_erase_of_ne (by omega)).2 (hm i (by omega))) (by omega)
  have hp := List.perm_cons_erase hn
  refine ⟨(hp.nodup_iff).2 (List.nodup_cons.2 ⟨fun hx => ?_, ih.1⟩), fun x hx => ?_⟩
  ·have := ih.2 _ hx; omega
  ·rcases List.mem_cons.1 (hp.mem_iff.1 hx) with rfl | hx
   ·omega
   ·have := ih.2 x hx; omega
theorem nodup_le : ∀ {A B : List Int}, A.Nodup → (∀ x ∈ A, x ∈ B) → A.length ≤ B.length
 | [], _, _, _ => Nat.zero_le _
 | a :: A, B, hd, h => by
  have hd' := List.nodup_cons.1 hd
  have ha := h a (by simp)
  have := nodup_le (B := B.erase a) hd'.2 (fun x hx => (List.mem_erase_of_ne (fun e => hd'.1 (by rw [← e]; exact hx))).2 (h x (by simp [hx])))
  have hl := List.length_erase (a := a) (l := B)
  rw [if_pos ha] at hl
  have := List.length_pos_of_mem ha
  simp
  omega
theorem nodup_count {L : List Int} (h : L.Nodup) {x : Int} (hx : x ∈ L) : L.count x = 1 := by rw [h.count, if_pos hx]
/-- A node of a trie. -/
structure Nod where
 steps : List Stp
 tos : List Int
 ends : List Int
/-- All numbers to which its nodes lead; all its ends. -/
def toA (t : List Nod) : List Int := t.flatMap Nod.tos
def enA (t : List Nod) : List Int := t.flatMap Nod.ends
/-- Is the node right by itself, at its place among N? -/
def nodOk (N i : Nat) (n : Nod) : Prop := n.steps.length = n.tos.length ∧ n.steps.all fmS = true ∧ n.steps.Nodup ∧ (∀ x ∈ n.tos, (i : Int) < x ∧ x < (N : Int)) ∧ n.ends.Pairwise (· < ·)
/-- A trie, as the document has it. -/
def FrmR (t : List Nod) : Prop := t ≠ [] ∧ (enA t).length ≤ 256 ∧ (∀ (i : Nat) (n : Nod), t[i]? = some n → nodOk t.length i n) ∧ (∀ i : Nat, 0 < i → i < t.length → (toA t).count (i : Int) = 1) ∧ ∀ k : Nat, k < (enA t).length → (enA t).count (k : Int) = 1
/-- One by one: nodes; what they lead to; where they end. -/
def NodP (t : List Nod) : Prop := ∀ n ∈ t, n.steps.length = n.tos.length ∧ n.steps.all fmS = true ∧ n.steps.Nodup
def ToOk (t : List Nod) (N : Nat) : Prop := ∀ (i : Nat) (n : Nod), t[i]? = some n → ∀ x ∈ n.tos, (i : Int) < x ∧ x < (N : Int)
def LnkP (t : List Nod) : Prop := ToOk t t.length ∧ (toA t).Nodup ∧ (toA t).length + 1 = t.length
def EndP (t : List Nod) : Prop := (∀ n ∈ t, n.ends.Pairwise (· < ·)) ∧ (∀ x ∈ enA t, 0 ≤ x ∧ x < 256) ∧ (enA t).Nodup ∧ ∃ g : Int, ((enA t).length : Int) = g + 1 ∧ (∀ x ∈ enA t, x ≤ g) ∧ (g = -1 ∨ g ∈ enA t)
theorem toA_bd {t : List Nod} {N : Nat} (h : ToOk t N) : ∀ x ∈ toA t, 1 ≤ x ∧ x < (N : Int) := fun x hx => by
 obtain ⟨n, hn, hx⟩ := List.mem_flatMap.1 hx
 obtain ⟨i, hi, e⟩ := List.mem_iff_getElem.1 hn
 have := h i n (by rw [List.getElem?_eq_getElem hi, e]) x hx
 omega
theorem lnk_iff {t : List Nod} (h0 : t ≠ []) (h : ToOk t t.length) : (∀ i : Nat, 0 < i → i < t.length → (toA t).count (i : Int) = 1) ↔ (toA t).Nodup ∧ (toA t).length + 1 = t.length := by
 have hb := toA_bd h
 have hl : 0 < t.length := List.length_pos_iff.2 h0
 have hm : ∀ x, x ∈ (toA t).map (· - 1) → 0 ≤ x ∧ x < ((t.length - 1 : Nat) : Int) := fun x hx => by
  obtain ⟨y, hy, rfl⟩ := List.mem_map.1 hx
  have := hb y hy
  omega
 have hin : ∀ x y : Int, x - 1 = y - 1 → x = y := fun x y e => by omega
 constructor
 ·intro hc
  have hd : (toA t).Nodup := List.nodup_iff_count.2 fun x => by
   by_cases hx : x ∈ toA t
   ·have h1 := hb x hx
    have := hc x.toNat (by omega) (by omega)
    rw [show ((x.toNat : Nat) : Int) = x by omega] at this
    omega
   ·rw [List.count_eq_zero_of_not_mem hx]; omega
  refine ⟨hd, ?_⟩
  have hd' : ((toA t).map (· - 1)).Nodup := List.Pairwise.map _ (fun x y hne e => hne (hin x y e)) hd
  have h1 := pig_len _ _ hd' hm
  rw [List.length_map] at h1
  -- each of 1 .. is there
  have h3 : t.length - 1 ≤ (toA t).length := by
   have hs : ∀ x ∈ (List.range (t.length - 1)).map (fun i : Nat => ((i : Int) + 1)), x ∈ toA t := fun x hx => by
    obtain ⟨i, hi, rfl⟩ := List.mem_map.1 hx
    have hi := List.mem_range.1 hi
    have := hc (i + 1) (by omega) (by omega)
    have h4 : 0 < (toA t).count (((i + 1 : Nat)) : Int) := by omega
    have h5 := List.count_pos_iff.1 h4
    simpa using h5
   have hnd : ((List.range (t.length - 1)).map (fun i : Nat => ((i : Int) + 1))).Nodup := List.Pairwise.map _ (fun x y hne e => hne (by omega)) List.nodup_range
   have := (nodup_le hnd hs)
   simpa using this
  omega
 ·rintro ⟨hd, hlen⟩ i hi hlt
  have hd' : ((toA t).map (· - 1)).Nodup := List.Pairwise.map _ (fun x y hne e => hne (hin x y e)) hd
  have := pig_mem (t.length - 1) _ hd' hm (by rw [List.length_map]; omega) (i - 1) (by omega)
  obtain ⟨y, hy, e⟩ := List.mem_map.1 this
  have : y = (i : Int) := by omega
  subst this
  exact nodup_count hd hy
theorem end_iff {t : List Nod} (hs : ∀ n ∈ t, n.ends.Pairwise (· < ·)) : ((enA t).length ≤ 256 ∧ ∀ k : Nat, k < (enA t).length → (enA t).count (k : Int) = 1) ↔ EndP t := by
 constructor
 ·rintro ⟨hl, hc⟩
  have h1 := pig_all (enA t).length (enA t) (fun i hi => List.count_pos_iff.1 (by rw [hc i hi]; exact Nat.one_pos)) (Nat.le_refl _)
  refine ⟨hs, fun x hx => ⟨(h1.2 x hx).1, by have := (h1.2 x hx).2; omega⟩, h1.1, ((enA t).length : Int) - 1, by omega, fun x hx => by have := (h1.2 x hx).2; omega, ?_⟩
  by_cases h0 : (enA t).length = 0
  ·left; omega
  ·right
   have := List.count_pos_iff.1 (show 0 < (enA t).count (((enA t).length - 1 : Nat) : Int) by rw [hc _ (by omega)]; exact Nat.one_pos)
   rwa [show (((enA t).length - 1 : Nat) : Int) = ((enA t).length : Int) - 1 by omega] at this
 ·rintro ⟨-, hb, hd, g, hg, hle, hgm⟩
  have hm : ∀ x ∈ enA t, 0 ≤ x ∧ x < ((enA t).length : Int) := fun x hx => ⟨(hb x hx).1, by have := hle x hx; omega⟩
  refine ⟨?_, fun k hk => nodup_count hd (pig_mem _ _ hd hm (Nat.le_refl _) k hk)⟩
  rcases hgm with h | h
  ·omega
  ·have := (hb g h).2; omega
theorem frm_iff (t : List Nod) : FrmR t ↔ NodP t ∧ LnkP t ∧ EndP t := by
 constructor
 ·rintro ⟨h0, hl, hn, hc, he⟩
  have hto : ToOk t t.length := fun i n hi => (hn i n hi).2.2.2.1
  have hs : ∀ n ∈ t, n.ends.Pairwise (· < ·) := fun n hn' => by
   obtain ⟨i, hi, e⟩ := List.mem_iff_getElem.1 hn'
   exact (hn i n (by rw [List.getElem?_eq_getElem hi, e])).2.2.2.2
  refine ⟨fun n hn' => ?_, ⟨hto, (lnk_iff h0 hto).1 hc⟩, (end_iff hs).1 ⟨hl, he⟩⟩
  obtain ⟨i, hi, e⟩ := List.mem_iff_getElem.1 hn'
  have := hn i n (by rw [List.getElem?_eq_getElem hi, e])
  exact ⟨this.1, this.2.1, this.2.2.1⟩
 ·rintro ⟨hn, ⟨hto, hlk⟩, he⟩
  have h0 : t ≠ [] := fun e => by subst e; have := hlk.2; simp [toA] at this
  have h1 := (end_iff he.1).2 he
  refine ⟨h0, h1.1, fun i n hi => ?_, (lnk_iff h0 hto).2 hlk, h1.2⟩
  have hm := List.mem_of_getElem? hi
  exact ⟨(hn n hm).1, (hn n hm).2.1, (hn n hm).2.2, hto i n hi, he.1 n hm⟩
end Go.Proofs.YtbabdhepnjacdaaDoor
