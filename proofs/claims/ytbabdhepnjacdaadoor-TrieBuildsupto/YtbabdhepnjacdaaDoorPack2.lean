/-
  Texts of mine that others lean on, one behind the other.
-/
import Derived.Test.YtbabdhepnjacdaaDoorPack1
/-
 tree.Depth and tree.Count.
-/
namespace Go.Proofs.YtbabdhepnjacdaaDoor
open Go.RowKit Go.Shelf
theorem ValAt.six {w : World} {u : Vt} {L : List Value} (h : ValAt w u (.agg L.toArray)) : ∃ k b r t ko N kc vo M vc, L = [.int .i64 k, .bool b, .string r, .string t, .slice ko N kc, .slice vo M vc] := by
 obtain ⟨ko, kc, vo, vc, h⟩ := h.cells
 exact ⟨_, _, _, _, _, _, _, _, _, _, by simpa using congrArg Array.toList h⟩
end Go.Proofs.YtbabdhepnjacdaaDoor

/-
 Utf8RefMath, Utf8Walk, one behind the other.
-/
/- What the reference reckons of the first bytes of a form: the least and the greatest number that they can begin; that goes together with the state. -/
namespace Go.Proofs.YtbabdhepnjacdaaDoor
def sizeB (x : Nat) : Nat := if x < 128 then 1 else if x < 192 then 0 else if x < 224 then 2 else if x < 240 then 3 else if x < 248 then 4 else 0
def leadB (x : Nat) : Nat := if x < 128 then x else if x < 224 then x - 192 else if x < 240 then x - 224 else x - 240
def accB (l : Nat) (t : List Nat) : Nat := t.foldl (fun a y => a * 64 + (y - 128)) l
def okC (t : List Nat) : Prop := ∀ y ∈ t, 128 ≤ y ∧ y < 192
theorem accB_snoc (l : Nat) (t : List Nat) (y : Nat) : accB l (t ++ [y]) = accB l t * 64 + (y - 128) := by unfold accB; rw [List.foldl_append]; rfl
theorem okC_snoc {t : List Nat} {y : Nat} (h : okC t) (h1 : 128 ≤ y) (h2 : y < 192) : okC (t ++ [y]) := by
 intro z hz
 rcases List.mem_append.1 hz with hz | hz
 ·exact h z hz
 ·simp at hz; subst hz; exact ⟨h1, h2⟩
set_option maxRecDepth 10000 in
theorem accB_lt (t : List Nat) : ∀ l, okC t → accB l t < (l + 1) * 64 ^ t.length := by
 induction t with
 | nil => intro l _; rw [List.length_nil, Nat.pow_zero]; show l < _; omega
 | cons y t ih =>
  intro l h
  have h1 := h y (by simp)
  have h2 := ih (l * 64 + (y - 128)) (fun z hz => h z (by simp [hz]))
  show accB (l * 64 + (y - 128)) t < _
  refine Nat.lt_of_lt_of_le h2 ?_
  rw [List.length_cons, Nat.pow_succ, show (l + 1) * (64 ^ t.length * 64) = ((l + 1) * 64) * 64 ^ t.length by rw [Nat.mul_comm (64 ^ t.length) 64, Nat.mul_assoc]]
  exact Nat.mul_le_mul_right _ (by omega)
theorem leadB_le {x : Nat} (hx : x < 256) : leadB x ≤ 127 := by unfold leadB; split <;> (try split) <;> (try split) <;> omega
theorem accB_small {x : Nat} (hx : x < 256) {t : List Nat} (h : okC t) (hl : t.length ≤ 3) : accB (leadB x) t < 33554432 := by
 have h1 := accB_lt t (leadB x) h
 have h2 := leadB_le hx
 have h3 : 64 ^ t.length ≤ 64 ^ 3 := Nat.pow_le_pow_right (by decide) hl
 have h4 : (leadB x + 1) * 64 ^ t.length ≤ 128 * 64 ^ 3 := Nat.mul_le_mul (by omega) h3
 have h5 : 128 * 64 ^ 3 = 33554432 := by decide
 omega
/-- The bytes x, then t can be a beginning, as far as their shape goes. -/
def SpanOk (x : Nat) (t : List Nat) : Prop := okC t ∧ t.length < sizeB x
/-- The least and the greatest number that begins so. -/
def loB (x : Nat) (t : List Nat) : Nat := accB (leadB x) t * 64 ^ (sizeB x - (t.length + 1))
def hiB5u (x : Nat) (t : List Nat) : Nat := (accB (leadB x) t + 1) * 64 ^ (sizeB x - (t.length + 1)) - 1
/-- Some character begins so. -/
def SomeB (x : Nat) (t : List Nat) : Prop := SpanOk x t ∧ ∃ c, loB x t ≤ c ∧ c ≤ hiB5u x t ∧ sizeN c = sizeB x
theorem sizeB_cases (x : Nat) (hx : x < 256) : (x < 128 ∧ sizeB x = 1 ∧ leadB x = x) ∨ (128 ≤ x ∧ x < 192 ∧ sizeB x = 0) ∨ (192 ≤ x ∧ x < 224 ∧ sizeB x = 2 ∧ leadB x = x - 192) ∨ (224 ≤ x ∧ x < 240 ∧ sizeB x = 3 ∧ leadB x = x - 224) ∨ (240 ≤ x ∧ x < 248 ∧ sizeB x = 4 ∧ leadB x = x - 240) ∨ (248 ≤ x ∧ sizeB x = 0) := by
 unfold sizeB leadB
 by_cases h1 : x < 128
 ·rw [if_pos h1, if_pos h1]; omega
 rw [if_neg h1, if_neg h1]
 by_cases h2 : x < 192
 ·rw [if_pos h2]; omega
 rw [if_neg h2]
 by_cases h3 : x < 224
 ·rw [if_pos h3, if_pos h3]; omega
 rw [if_neg h3, if_neg h3]
 by_cases h4 : x < 240
 ·rw [if_pos h4, if_pos h4]; omega
 rw [if_neg h4, if_neg h4]
 by_cases h5 : x < 248
 ·rw [if_pos h5]; omega
 rw [if_neg h5]; omega
/-- sizeN, told by bounds. -/
theorem sizeN_iff (c : Nat) : (sizeN c = 1 ↔ c < 128) ∧ (sizeN c = 2 ↔ 128 ≤ c ∧ c < 2048) ∧ (sizeN c = 3 ↔ 2048 ≤ c ∧ c < 65536 ∧ ¬ (55296 ≤ c ∧ c ≤ 57343)) ∧ (sizeN c = 4 ↔ 65536 ≤ c ∧ c ≤ 1114111) := by
 unfold sizeN
 split
 ·omega
 ·split
  ·omega
  ·split
   ·omega
   ·split <;> omega
theorem pow64u : (64 : Nat) ^ 0 = 1 ∧ (64 : Nat) ^ 1 = 64 ∧ (64 : Nat) ^ 2 = 4096 ∧ (64 : Nat) ^ 3 = 262144 := by decide
theorem stp_none {q : Q5} {x : Nat} (h : stp q x = none) : (q.left = 0 → (128 ≤ x ∧ x < 194) ∨ 244 < x) ∧ (q.left ≠ 0 → x < q.lo ∨ q.hi < x) := by
 unfold stp at h
 split at h
 ·rename_i h0
  refine ⟨fun _ => ?_, fun k => absurd h0 k⟩
  unfold begQ at h
  split at h
  ·omega
  ·split at h
   ·cases h
   ·split at h
    ·cases h
    ·split at h
     ·cases h
     ·split at h
      ·omega
      ·cases h
 ·rename_i h0
  refine ⟨fun k => absurd k h0, fun _ => ?_⟩
  split at h
  ·assumption
  ·cases h
theorem stp_some {q q' : Q5} {x : Nat} (h : stp q x = some q') : (q.left = 0 → x < 128 ∧ q' = q ∨ 194 ≤ x ∧ x < 224 ∧ q'.left = 1 ∨ 224 ≤ x ∧ x < 240 ∧ q'.left = 2 ∨ 240 ≤ x ∧ x ≤ 244 ∧ q'.left = 3) ∧ (q.left ≠ 0 → q.lo ≤ x ∧ x ≤ q.hi ∧ q'.left = q.left - 1) := by
 unfold stp at h
 split at h
 ·rename_i h0
  refine ⟨fun _ => ?_, fun k => absurd h0 k⟩
  unfold begQ at h
  split at h
  ·cases h
  ·split at h
   ·cases h; right; right; right; exact ⟨by omega, by omega, rfl⟩
   ·split at h
    ·cases h; right; right; left; exact ⟨by omega, by omega, rfl⟩
    ·split at h
     ·cases h; right; left; exact ⟨by omega, by omega, rfl⟩
     ·split at h
      ·cases h
      ·cases h; left; exact ⟨by omega, rfl⟩
 ·rename_i h0
  refine ⟨fun k => absurd k h0, fun _ => ?_⟩
  split at h
  ·cases h
  ·cases h; exact ⟨by omega, by omega, rfl⟩
/-- The list of the bytes behind the first one. -/
theorem begins_none {b : List Nat} {q : Q5} {r x : Nat} (h : FormAt b q r) (hx : x < 256) (hs : stp q x = none) (y : Nat) (t : List Nat) (e : b ++ [x] = y :: t) (hy : y < 256) : ¬ SomeB y t := by
 rintro ⟨⟨h1, h2⟩, c, h3, h4, h5⟩
 obtain ⟨p0, p1, p2, p3⟩ := pow64u
 obtain ⟨n1, n2, n3, n4⟩ := sizeN_iff c
 have hn := stp_none hs
 have hc := sizeB_cases y hy
 match b, h with
 | [], h =>
  obtain ⟨rfl, rfl⟩ : x = y ∧ [] = t := by simpa using e
  have hn := hn.1 h
  unfold loB hiB5u accB at *
  simp only [List.foldl_nil, List.length_nil] at *
  rcases hc with ⟨a, b, d⟩ | ⟨a, b, d⟩ | ⟨a, b, d, f⟩ | ⟨a, b, d, f⟩ | ⟨a, b, d, f⟩ | ⟨a, b⟩
  ·omega
  ·omega
  ·rw [d] at h3 h4 h5; simp only [Nat.reduceAdd, Nat.reduceSub] at h3 h4; rw [f] at h3 h4; omega
  ·omega
  ·rw [d] at h3 h4 h5; simp only [Nat.reduceAdd, Nat.reduceSub] at h3 h4; rw [f] at h3 h4; omega
  ·omega
 | [u], h =>
  obtain ⟨rfl, rfl⟩ : u = y ∧ [x] = t := by simpa using e
  have hx2 := h1 x (by simp)
  have l1 := secLo_ge u
  have l2 := secHi_le u
  have fs := sec_facts u
  have fm := sec_more u
  unfold loB hiB5u accB at *
  simp only [List.foldl_nil, List.foldl_cons, List.length_nil, List.length_cons] at *
  rcases h with ⟨a, b, rfl, _⟩ | ⟨a, b, rfl, _⟩ | ⟨a, b, rfl, _⟩
  ·have hn := hn.2 (by simp)
   have m1 := fm.1 (by omega) (by omega)
   have m2 := fm.2 (by omega) (by omega)
   simp only at hn
   omega
  ·have hn : x < secLo u ∨ secHi u < x := hn.2 (by simp)
   obtain ⟨d, f⟩ : sizeB u = 3 ∧ leadB u = u - 224 := by omega
   rw [d] at h3 h4 h5
   simp only [Nat.reduceAdd, Nat.reduceSub] at h3 h4
   rw [f] at h3 h4
   by_cases k1 : u = 224
   ·have := fs.1 k1; have := fm.2 (by omega) (by omega); omega
   ·have g1 := fm.1 k1 (by omega)
    by_cases k2 : u = 237
    ·have := fs.2.2.1 k2; omega
    ·have := fm.2 k2 (by omega); omega
  ·have hn : x < secLo u ∨ secHi u < x := hn.2 (by simp)
   obtain ⟨d, f⟩ : sizeB u = 4 ∧ leadB u = u - 240 := by omega
   rw [d] at h3 h4 h5
   simp only [Nat.reduceAdd, Nat.reduceSub] at h3 h4
   rw [f] at h3 h4
   by_cases k1 : u = 240
   ·have := fs.2.1 k1; have := fm.2 (by omega) (by omega); omega
   ·have g1 := fm.1 (by omega) k1
    by_cases k2 : u = 244
    ·have := fs.2.2.2 k2; omega
    ·have := fm.2 (by omega) k2; omega
 | [u, v], h =>
  obtain ⟨rfl, rfl⟩ : u = y ∧ [v, x] = t := by simpa using e
  have hx2 := h1 x (by simp)
  obtain ⟨_, _, h⟩ := h
  rcases h with ⟨a, b, rfl, _⟩ | ⟨a, b, rfl, _⟩ <;> (have hn : x < 128 ∨ 191 < x := hn.2 (by simp)) <;> omega
 | [u, v, z], h =>
  obtain ⟨rfl, rfl⟩ : u = y ∧ [v, z, x] = t := by simpa using e
  have hx2 := h1 x (by simp)
  obtain ⟨_, _, _, _, a, b, rfl, _⟩ := h
  have hn : x < 128 ∨ 191 < x := hn.2 (by simp)
  omega
set_option maxRecDepth 10000 in
theorem begins_some {b : List Nat} {q q' : Q5} {r x : Nat} (h : FormAt b q r) (hx : x < 256) (hs : stp q x = some q') (y : Nat) (t : List Nat) (e : b ++ [x] = y :: t) (hy : y < 256) :
  SomeB y t ∧ (t.length + 1 = sizeB y ↔ q'.left = 0) ∧ (q'.left = 0 → loB y t = nextR b r x q'.left ∧ hiB5u y t = nextR b r x q'.left) := by
 obtain ⟨p0, p1, p2, p3⟩ := pow64u
 have hc := sizeB_cases y hy
 obtain ⟨m0, m1, m2, m3⟩ := mask_first hx
 have hn := stp_some hs
 match b, h with
 | [], h =>
  obtain ⟨rfl, rfl⟩ : x = y ∧ [] = t := by simpa using e
  have hn := hn.1 h
  have h : q.left = 0 := h
  unfold SomeB SpanOk loB hiB5u accB nextR
  simp only [List.foldl_nil, List.length_nil, if_true, Nat.zero_add]
  have ho : okC [] := fun y hy => by cases hy
  rcases hn with ⟨a, rfl⟩ | ⟨a, b, d⟩ | ⟨a, b, d⟩ | ⟨a, b, d⟩
  ·obtain ⟨s1, s2⟩ : sizeB x = 1 ∧ leadB x = x := by omega
   rw [s1, s2, h, m0 a]
   simp only [Nat.reduceSub, p0, Nat.mul_one, Nat.add_sub_cancel]
   exact ⟨⟨⟨ho, by omega⟩, x, by omega, by omega, (sizeN_iff x).1.2 a⟩, by simp, fun _ => ⟨trivial, trivial⟩⟩
  ·obtain ⟨s1, s2⟩ : sizeB x = 2 ∧ leadB x = x - 192 := by omega
   rw [s1, s2]
   simp only [Nat.reduceSub, p1]
   exact ⟨⟨⟨ho, by omega⟩, (x - 192) * 64, by omega, by omega, (sizeN_iff _).2.1.2 (by omega)⟩, by omega, by omega⟩
  ·obtain ⟨s1, s2⟩ : sizeB x = 3 ∧ leadB x = x - 224 := by omega
   rw [s1, s2]
   simp only [Nat.reduceSub, p2]
   refine ⟨⟨⟨ho, by omega⟩, max 2048 ((x - 224) * 4096), by omega, by omega, (sizeN_iff _).2.2.1.2 (by omega)⟩, by omega, by omega⟩
  ·obtain ⟨s1, s2⟩ : sizeB x = 4 ∧ leadB x = x - 240 := by omega
   rw [s1, s2]
   simp only [Nat.reduceSub, p3]
   refine ⟨⟨⟨ho, by omega⟩, max 65536 ((x - 240) * 262144), by omega, by omega, (sizeN_iff _).2.2.2.2 (by omega)⟩, by omega, by omega⟩
 | [u], h =>
  obtain ⟨rfl, rfl⟩ : u = y ∧ [x] = t := by simpa using e
  have l1 := secLo_ge u
  have l2 := secHi_le u
  have fs := sec_facts u
  have fm := sec_more u
  unfold SomeB SpanOk loB hiB5u accB nextR
  simp only [List.foldl_nil, List.foldl_cons, List.length_nil, List.length_cons, Nat.zero_add, Nat.reduceAdd]
  rw [if_neg (by simp)]
  rcases h with ⟨a, b, rfl, rfl⟩ | ⟨a, b, rfl, rfl⟩ | ⟨a, b, rfl, rfl⟩
  ·obtain ⟨k1, k2, k3⟩ : secLo u ≤ x ∧ x ≤ secHi u ∧ q'.left = 1 - 1 := hn.2 (by simp)
   have ho : okC [x] := okC_snoc (t := []) (fun y hy => by cases hy) (by omega) (by omega)
   obtain ⟨s1, s2⟩ : sizeB u = 2 ∧ leadB u = u - 192 := by omega
   rw [s1, s2]
   simp only [Nat.reduceSub, p0, Nat.mul_one, Nat.add_sub_cancel]
   refine ⟨⟨⟨ho, by omega⟩, (u - 192) * 64 + (x - 128), by omega, by omega, (sizeN_iff _).2.1.2 (by omega)⟩, ⟨fun _ => by omega, fun _ => trivial⟩, by omega⟩
  ·obtain ⟨k1, k2, k3⟩ : secLo u ≤ x ∧ x ≤ secHi u ∧ q'.left = 2 - 1 := hn.2 (by simp)
   have ho : okC [x] := okC_snoc (t := []) (fun y hy => by cases hy) (by omega) (by omega)
   obtain ⟨s1, s2⟩ : sizeB u = 3 ∧ leadB u = u - 224 := by omega
   rw [s1, s2]
   simp only [Nat.reduceSub, p1]
   refine ⟨⟨⟨ho, by omega⟩, ((u - 224) * 64 + (x - 128)) * 64, by omega, by omega, (sizeN_iff _).2.2.1.2 ?_⟩, by omega, by omega⟩
   omega
  ·obtain ⟨k1, k2, k3⟩ : secLo u ≤ x ∧ x ≤ secHi u ∧ q'.left = 3 - 1 := hn.2 (by simp)
   have ho : okC [x] := okC_snoc (t := []) (fun y hy => by cases hy) (by omega) (by omega)
   obtain ⟨s1, s2⟩ : sizeB u = 4 ∧ leadB u = u - 240 := by omega
   rw [s1, s2]
   simp only [Nat.reduceSub, p2]
   refine ⟨⟨⟨ho, by omega⟩, ((u - 240) * 64 + (x - 128)) * 4096, by omega, by omega, (sizeN_iff _).2.2.2.2 ?_⟩, by omega, by omega⟩
   omega
 | [u, v], h =>
  obtain ⟨rfl, rfl⟩ : u = y ∧ [v, x] = t := by simpa using e
  obtain ⟨k1, k2, h⟩ := h
  have l1 := secLo_ge u
  have l2 := secHi_le u
  have fs := sec_facts u
  unfold SomeB SpanOk loB hiB5u accB nextR
  simp only [List.foldl_nil, List.foldl_cons, List.length_nil, List.length_cons, Nat.zero_add, Nat.reduceAdd]
  rw [if_neg (by simp)]
  rcases h with ⟨a, b, rfl, rfl⟩ | ⟨a, b, rfl, rfl⟩
  ·obtain ⟨k3, k4, k5⟩ : 128 ≤ x ∧ x ≤ 191 ∧ q'.left = 1 - 1 := hn.2 (by simp)
   have ho : okC [v, x] := okC_snoc (t := [v]) (okC_snoc (t := []) (fun y hy => by cases hy) (by omega) (by omega)) (by omega) (by omega)
   obtain ⟨s1, s2⟩ : sizeB u = 3 ∧ leadB u = u - 224 := by omega
   rw [s1, s2]
   simp only [Nat.reduceSub, p0, Nat.mul_one, Nat.add_sub_cancel]
   refine ⟨⟨⟨ho, by omega⟩, ((u - 224) * 64 + (v - 128)) * 64 + (x - 128), by omega, by omega, (sizeN_iff _).2.2.1.2 ?_⟩, ⟨fun _ => by omega, fun _ => trivial⟩, by omega⟩
   omega
  ·obtain ⟨k3, k4, k5⟩ : 128 ≤ x ∧ x ≤ 191 ∧ q'.left = 2 - 1 := hn.2 (by simp)
   have ho : okC [v, x] := okC_snoc (t := [v]) (okC_snoc (t := []) (fun y hy => by cases hy) (by omega) (by omega)) (by omega) (by omega)
   obtain ⟨s1, s2⟩ : sizeB u = 4 ∧ leadB u = u - 240 := by omega
   rw [s1, s2]
   simp only [Nat.reduceSub, p1]
   refine ⟨⟨⟨ho, by omega⟩, (((u - 240) * 64 + (v - 128)) * 64 + (x - 128)) * 64, by omega, by omega, (sizeN_iff _).2.2.2.2 ?_⟩, by omega, by omega⟩
   omega
 | [u, v, z], h =>
  obtain ⟨rfl, rfl⟩ : u = y ∧ [v, z, x] = t := by simpa using e
  obtain ⟨k1, k2, z1, z2, a, b, rfl, rfl⟩ := h
  have l1 := secLo_ge u
  have l2 := secHi_le u
  have fs := sec_facts u
  unfold SomeB SpanOk loB hiB5u accB nextR
  simp only [List.foldl_nil, List.foldl_cons, List.length_nil, List.length_cons, Nat.zero_add, Nat.reduceAdd]
  rw [if_neg (by simp)]
  obtain ⟨k3, k4, k5⟩ : 128 ≤ x ∧ x ≤ 191 ∧ q'.left = 1 - 1 := hn.2 (by simp)
  have ho : okC [v, z, x] := okC_snoc (t := [v, z]) (okC_snoc (t := [v]) (okC_snoc (t := []) (fun y hy => by cases hy) (by omega) (by omega)) (by omega) (by omega)) (by omega) (by omega)
  obtain ⟨s1, s2⟩ : sizeB u = 4 ∧ leadB u = u - 240 := by omega
  rw [s1, s2]
  simp only [Nat.reduceSub, p0, Nat.mul_one, Nat.add_sub_cancel]
  refine ⟨⟨⟨ho, by omega⟩, (((u - 240) * 64 + (v - 128)) * 64 + (z - 128)) * 64 + (x - 128), by omega, by omega, (sizeN_iff _).2.2.2.2 ?_⟩, ⟨fun _ => by omega, fun _ => trivial⟩, by omega⟩
  omega
end Go.Proofs.YtbabdhepnjacdaaDoor
/- How a text is gone through, form by form. -/
namespace Go.Proofs.YtbabdhepnjacdaaDoor
/-- What a text tells: where each character begins, and the character. -/
def telOf (s : ByteArray) : List (Nat × Nat) := tel s5.q 0 0 0 (byts s)
/-- The first i bytes are a beginning; behind the last whole form, at p, stand the bytes b; the forms ahead of it are pre. -/
def WalkAt (s : ByteArray) (p i : Nat) (b : List Nat) (q : Q5) (r : Nat) (pre : List (Nat × Nat)) : Prop :=
 p + b.length = i ∧ i ≤ s.size ∧ b = ((byts s).drop p).take b.length ∧ FormAt b q r ∧ runS s5 ((byts s).take i) = ⟨i, false, q⟩ ∧ telOf s = pre ++ tel q p r i ((byts s).drop i) ∧ pre.length ≤ p
theorem form_nil {b : List Nat} {q : Q5} {r : Nat} (h : FormAt b q r) : b = [] ↔ q.left = 0 := by
 match b, h with
 | [], h => exact ⟨fun _ => h, fun _ => rfl⟩
 | [x], h => rcases h with ⟨_, _, rfl, _⟩ | ⟨_, _, rfl, _⟩ | ⟨_, _, rfl, _⟩ <;> simp
 | [x, y], h => obtain ⟨_, _, ⟨_, _, rfl, _⟩ | ⟨_, _, rfl, _⟩⟩ := h <;> simp
 | [x, y, z], h => obtain ⟨_, _, _, _, _, _, rfl, _⟩ := h; simp
theorem form_len {b : List Nat} {q : Q5} {r : Nat} (h : FormAt b q r) : b.length ≤ 3 := by
 match b, h with
 | [], _ => simp
 | [x], _ => simp
 | [x, y], _ => simp
 | [x, y, z], _ => simp
theorem WalkAt.start (s : ByteArray) : WalkAt s 0 0 [] s5.q 0 [] := ⟨rfl, Nat.zero_le _, rfl, rfl, rfl, rfl, Nat.zero_le _⟩
section
variable {s : ByteArray} {p i : Nat} {b : List Nat} {q : Q5} {r : Nat} {pre : List (Nat × Nat)}
theorem WalkAt.bad (h : WalkAt s p i b q r pre) (hi : i < s.size) (hs : stp q (byt s i) = none) : badOf s = i ∧ telOf s = pre := by
 obtain ⟨h1, h2, h3, h4, h5, h6, h7⟩ := h
 constructor
 ·unfold badOf
  have e : byts s = (byts s).take (i + 1) ++ (byts s).drop (i + 1) := (List.take_append_drop _ _).symm
  rw [e, runS_append, byts_take s i hi, runS_snoc, h5, tk_none rfl hs, runS_wrong rfl]
  rfl
 ·rw [h6, byts_drop s i hi, tel, hs]
  exact List.append_nil _
theorem WalkAt.next (h : WalkAt s p i b q r pre) (hi : i < s.size) {q' : Q5} (hs : stp q (byt s i) = some q') :
  (q'.left = 0 → WalkAt s (i + 1) (i + 1) [] q' (nextR b r (byt s i) q'.left) (pre ++ [(p, nextR b r (byt s i) q'.left)])) ∧
   (q'.left ≠ 0 → WalkAt s p (i + 1) (b ++ [byt s i]) q' (nextR b r (byt s i) q'.left) pre) := by
 obtain ⟨h1, h2, h3, h4, h5, h6, h7⟩ := h
 have hrun : runS s5 ((byts s).take (i + 1)) = ⟨i + 1, false, q'⟩ := by rw [byts_take s i hi, runS_snoc, h5, tk_some rfl hs]
 have hr : (if i = p then byt s i &&& (127 >>> q'.left) else r * 64 + byt s i % 64) = nextR b r (byt s i) q'.left := by
  unfold nextR
  by_cases e : b = []
  ·subst e
   rw [if_pos (by simpa using h1.symm), if_pos rfl]
  ·rw [if_neg e, if_neg]
   intro k
   apply e
   apply List.eq_nil_of_length_eq_zero
   omega
 have hb : b ++ [byt s i] = ((byts s).drop p).take (b ++ [byt s i]).length := by
  have hd := byts_drop s i hi
  rw [List.length_append, List.length_cons, List.length_nil, Nat.zero_add, List.take_add_one, ← h3, List.getElem?_drop, h1, byts_get s i hi]
  rfl
 rcases form_step h4 (byt_lt s i) hs with ⟨a, _, _⟩ | ⟨a, c⟩
 ·refine ⟨fun _ => ⟨rfl, hi, by simp, a, hrun, ?_, by simp; omega⟩, fun k => absurd a k⟩
  rw [h6, byts_drop s i hi, tel, hs]
  simp only [if_pos a]
  rw [hr, List.append_assoc]
  rfl
 ·refine ⟨fun k => by omega, fun _ => ⟨by simp; omega, hi, hb, c, hrun, ?_, h7⟩⟩
  rw [h6, byts_drop s i hi, tel, hs]
  simp only [if_neg (show ¬ q'.left = 0 by omega)]
  rw [hr]
theorem WalkAt.done (h : WalkAt s p s.size b q r pre) : telOf s = pre ∧ badOf s = (if q.left = 0 then -1 else (s.size : Int)) := by
 obtain ⟨h1, h2, h3, h4, h5, h6, h7⟩ := h
 constructor
 ·rw [h6, List.drop_of_length_le (by rw [byts_length]; exact Nat.le_refl _), tel]
  exact List.append_nil _
 ·unfold badOf
  rw [byts_whole] at h5
  rw [h5]
  unfold badI
  by_cases e : q.left = 0
  ·rw [if_pos e, if_neg]
   intro k
   rcases k with k | k
   ·cases k
   ·have : 0 < q.left := k
    omega
  ·rw [if_neg e, if_pos (.inr (by show 0 < q.left; omega))]
end
end Go.Proofs.YtbabdhepnjacdaaDoor

/-
 What utf8.Size answers: how many bytes a character takes.
-/
namespace Go.Proofs.YtbabdhepnjacdaaDoor
open Go.RowKit
def sizeZ (r : Int) : Nat := if r < 0 then 0 else sizeN r.toNat
end Go.Proofs.YtbabdhepnjacdaaDoor

/-
 What quarryref05.Size answers: how many bytes a character takes.
-/
namespace Go.Proofs.YtbabdhepnjacdaaDoor
open Go.RowKit
set_option maxRecDepth 10000 in
set_option maxHeartbeats 1000000 in
theorem refSize_calls (r : Int) (w : World) : Calls Tryd.prog 87 #[.int .i32 r] w fun e w' => e = .returned (.int .i64 (sizeZ r : Int)) ∧ w' = w := by
 by_cases h0 : r < 0
 ·have e : sizeZ r = 0 := by unfold sizeZ; rw [if_pos (by omega)]
  have i0 : (r < 0) := by omega
  have i1 : ¬ ((55296 : Int) ≤ r) := by omega
  have i2 : (r ≤ 57343) := by omega
  have i3 : ¬ ((1114111 : Int) < r) := by omega
  have i4 : (r < 128) := by omega
  have i5 : (r < 2048) := by omega
  have i6 : (r < 65536) := by omega
  rw [e]
  clear e h0
  go_enter Tryd.func87, Tryd.ntmps87
  go_wp2
  go_ret
  exact ⟨rfl, rfl⟩
 by_cases h1 : r < 128
 ·have e : sizeZ r = 1 := by unfold sizeZ sizeN; rw [if_neg (by omega), if_neg (by omega), if_pos (by omega)]
  have i0 : ¬ (r < 0) := by omega
  have i1 : ¬ ((55296 : Int) ≤ r) := by omega
  have i2 : (r ≤ 57343) := by omega
  have i3 : ¬ ((1114111 : Int) < r) := by omega
  have i4 : (r < 128) := by omega
  have i5 : (r < 2048) := by omega
  have i6 : (r < 65536) := by omega
  rw [e]
  clear e h0 h1
  go_enter Tryd.func87, Tryd.ntmps87
  go_wp2
  go_ret
  exact ⟨rfl, rfl⟩
 by_cases h2 : r < 2048
 ·have e : sizeZ r = 2 := by unfold sizeZ sizeN; rw [if_neg (by omega), if_neg (by omega), if_neg (by omega), if_pos (by omega)]
  have i0 : ¬ (r < 0) := by omega
  have i1 : ¬ ((55296 : Int) ≤ r) := by omega
  have i2 : (r ≤ 57343) := by omega
  have i3 : ¬ ((1114111 : Int) < r) := by omega
  have i4 : ¬ (r < 128) := by omega
  have i5 : (r < 2048) := by omega
  have i6 : (r < 65536) := by omega
  rw [e]
  clear e h0 h1 h2
  go_enter Tryd.func87, Tryd.ntmps87
  go_wp2
  go_ret
  exact ⟨rfl, rfl⟩
 by_cases h3 : r < 55296
 ·have e : sizeZ r = 3 := by unfold sizeZ sizeN; rw [if_neg (by omega), if_neg (by omega), if_neg (by omega), if_neg (by omega), if_pos (by omega)]
  have i0 : ¬ (r < 0) := by omega
  have i1 : ¬ ((55296 : Int) ≤ r) := by omega
  have i2 : (r ≤ 57343) := by omega
  have i3 : ¬ ((1114111 : Int) < r) := by omega
  have i4 : ¬ (r < 128) := by omega
  have i5 : ¬ (r < 2048) := by omega
  have i6 : (r < 65536) := by omega
  rw [e]
  clear e h0 h1 h2 h3
  go_enter Tryd.func87, Tryd.ntmps87
  go_wp2
  go_ret
  exact ⟨rfl, rfl⟩
 by_cases h4 : r < 57344
 ·have e : sizeZ r = 0 := by unfold sizeZ sizeN; rw [if_neg (by omega), if_pos (by omega)]
  have i0 : ¬ (r < 0) := by omega
  have i1 : ((55296 : Int) ≤ r) := by omega
  have i2 : (r ≤ 57343) := by omega
  have i3 : ¬ ((1114111 : Int) < r) := by omega
  have i4 : ¬ (r < 128) := by omega
  have i5 : ¬ (r < 2048) := by omega
  have i6 : (r < 65536) := by omega
  rw [e]
  clear e h0 h1 h2 h3 h4
  go_enter Tryd.func87, Tryd.ntmps87
  go_wp2
  go_ret
  exact ⟨rfl, rfl⟩
 by_cases h5 : r < 65536
 ·have e : sizeZ r = 3 := by unfold sizeZ sizeN; rw [if_neg (by omega), if_neg (by omega), if_neg (by omega), if_neg (by omega), if_pos (by omega)]
  have i0 : ¬ (r < 0) := by omega
  have i1 : ((55296 : Int) ≤ r) := by omega
  have i2 : ¬ (r ≤ 57343) := by omega
  have i3 : ¬ ((1114111 : Int) < r) := by omega
  have i4 : ¬ (r < 128) := by omega
  have i5 : ¬ (r < 2048) := by omega
  have i6 : (r < 65536) := by omega
  rw [e]
  clear e h0 h1 h2 h3 h4 h5
  go_enter Tryd.func87, Tryd.ntmps87
  go_wp2
  go_ret
  exact ⟨rfl, rfl⟩
 by_cases h6 : r ≤ 1114111
 ·have e : sizeZ r = 4 := by unfold sizeZ sizeN; rw [if_neg (by omega), if_neg (by omega), if_neg (by omega), if_neg (by omega), if_neg (by omega)]
  have i0 : ¬ (r < 0) := by omega
  have i1 : ((55296 : Int) ≤ r) := by omega
  have i2 : ¬ (r ≤ 57343) := by omega
  have i3 : ¬ ((1114111 : Int) < r) := by omega
  have i4 : ¬ (r < 128) := by omega
  have i5 : ¬ (r < 2048) := by omega
  have i6 : ¬ (r < 65536) := by omega
  rw [e]
  clear e h0 h1 h2 h3 h4 h5 h6
  go_enter Tryd.func87, Tryd.ntmps87
  go_wp2
  go_ret
  exact ⟨rfl, rfl⟩
 have e : sizeZ r = 0 := by unfold sizeZ sizeN; rw [if_neg (by omega), if_pos (by omega)]
 have i0 : ¬ (r < 0) := by omega
 have i1 : ((55296 : Int) ≤ r) := by omega
 have i2 : ¬ (r ≤ 57343) := by omega
 have i3 : ((1114111 : Int) < r) := by omega
 have i4 : ¬ (r < 128) := by omega
 have i5 : ¬ (r < 2048) := by omega
 have i6 : ¬ (r < 65536) := by omega
 rw [e]
 clear e h0 h1 h2 h3 h4 h5 h6
 go_enter Tryd.func87, Tryd.ntmps87
 go_wp2
 go_ret
 exact ⟨rfl, rfl⟩
end Go.Proofs.YtbabdhepnjacdaaDoor

/-
 What quarryref05.span and quarryref05.Begins answer of the first bytes of a form.
-/
namespace Go.Proofs.YtbabdhepnjacdaaDoor
open Go.RowKit
/-- What span answers. -/
noncomputable def spanV (x : Nat) (t : List Nat) : Value := open Classical in if SpanOk x t then .tuple #[.int .i64 (sizeB x : Int), .int .i64 (loB x t : Int), .int .i64 (hiB5u x t : Int)] else .tuple #[.int .i64 0, .int .i64 1, .int .i64 0]
theorem spanV_pos {x : Nat} {t : List Nat} (h : SpanOk x t) : spanV x t = .tuple #[.int .i64 (sizeB x : Int), .int .i64 (loB x t : Int), .int .i64 (hiB5u x t : Int)] := if_pos h
theorem spanV_neg {x : Nat} {t : List Nat} (h : ¬ SpanOk x t) : spanV x t = .tuple #[.int .i64 0, .int .i64 1, .int .i64 0] := if_neg h
set_option maxRecDepth 10000 in
set_option maxHeartbeats 2000000 in
theorem span_calls (x : Nat) (t : List Nat) (hx : x < 256) (hlen : t.length ≤ 3) (g cap : Nat) (w : World) (hc0 : w.cell? ⟨g, 0, none⟩ = some (.int .u8 (x : Int))) (hct : ∀ (i y : Nat), t[i]? = some y → w.cell? ⟨g, i + 1, none⟩ = some (.int .u8 (y : Int)) ∧ y < 256) :
  Calls Tryd.prog 86 #[.slice (some ⟨g, 0, none⟩) (t.length + 1) cap] w fun e w' => e = .returned (spanV x t) ∧ w' = w := by
 have hct' := hid hct
 clear hct
 obtain ⟨n, hn⟩ : ∃ n : Nat, n = t.length + 1 := ⟨_, rfl⟩
 rw [← hn]
 have hn' := hid hn
 have hn4 : n ≤ 4 := by omega
 have hn1 : 1 ≤ n := by omega
 have hni : (1 : Int) ≤ (n : Int) := by omega
 have hnp : (0 : Int) < (n : Int) := by omega
 have hxi : (x : Int) < 256 := by omega
 clear hn hlen
 rcases sizeB_cases x hx with ⟨h1, hS, hL⟩ | ⟨h1, h2, hS⟩ | ⟨h1, h2, hS, hL⟩ | ⟨h1, h2, hS, hL⟩ | ⟨h1, h2, hS, hL⟩ | ⟨h1, hS⟩
 ·have i0 : ((x : Int) < 128) := by omega
  have i1 : ¬ ((192 : Int) ≤ (x : Int)) := by omega
  have i2 : ((x : Int) < 224) := by omega
  have i3 : ¬ ((224 : Int) ≤ (x : Int)) := by omega
  have i4 : ((x : Int) < 240) := by omega
  have i5 : ¬ ((240 : Int) ≤ (x : Int)) := by omega
  have i6 : ((x : Int) < 248) := by omega
  obtain ⟨l0, hl0⟩ : ∃ l0 : Nat, l0 = leadB x := ⟨_, rfl⟩
  have hl0i : (x : Int) = (l0 : Int) := by omega
  have hS' := hid hS
  have hl0' := hid hl0
  have hx' := hid hx
  clear h1 hS hL hx hl0
  go_enter Tryd.func86, Tryd.ntmps86
  go_wp2
  clear i0 i1 i2 i3 i4 i5 i6
  go_loopw [7, 8] (fun lo ii wr => ∃ (i L : Nat), 1 ≤ i ∧ i ≤ n ∧ i ≤ 1 ∧ Hid (L = accB l0 (t.take (i - 1))) ∧ Hid (okC (t.take (i - 1))) ∧ L < 33554432 ∧ lo = .int .i64 (L : Int) ∧ ii = .int .i64 (i : Int) ∧ w = wr) (fun _ ii _ => n - (intOf ii).toNat)
  case atStart =>
   refine ⟨1, l0, by omega, by omega, by omega, hid rfl, hid (fun y hy => by cases hy), ?_, rfl, rfl, rfl⟩
   have := leadB_le hx'.out
   have := hl0'.out
   omega
  case round =>
   obtain ⟨i, L, hi1, hin, hik, hL, hok, hLs, rfl, rfl, hwr⟩ := hrel
   subst hwr
   by_cases hlt : i < n
   ·have hli : (i : Int) < (n : Int) := by omega
    obtain ⟨y, hy⟩ : ∃ y, t[i - 1]? = some y := ⟨_, List.getElem?_eq_getElem (by have := hn'.out; omega)⟩
    have hcy := hct'.out _ _ hy
    rw [show i - 1 + 1 = i by omega] at hcy
    obtain ⟨hcy, hy256⟩ := hcy
    have hy' := hid hy
    have ht1 := hid (show t.take i = t.take (i - 1) ++ [y] by
     have := List.take_add_one (l := t) (i := i - 1)
     rw [hy, show i - 1 + 1 = i by omega] at this
     exact this)
    clear hy
    by_cases hki : i < 1
    ·omega
    ·have hkii : ¬ (i : Int) < 1 := by omega
     have hge : (1 : Int) ≤ (i : Int) := by omega
     have hno := hid (spanV_neg (x := x) (t := t) (fun h => by have := h.2; have := hn'.out; have := hS'.out; omega))
     go_wp2
     refine bodyPost_ret (v := .tuple #[.int .i64 0, .int .i64 1, .int .i64 0]) (by simp [results, Tryd.results86, go_sem]; try decide) rfl ⟨?_, rfl⟩
     rw [hno.out]
   ·obtain rfl : i = n := by omega
    have hall : t.take (i - 1) = t := List.take_of_length_le (by have := hn'.out; omega)
    rw [hall] at hL hok
    have hyes := hid (spanV_pos (x := x) (t := t) ⟨hok.out, by have := hn'.out; have := hS'.out; omega⟩)
    have hLs' := hid hLs
    have hn2 := hid hik
    clear hall hlt hLs
    go_wp2
    go_loopw [7, 10, 11] (fun lo hi jj wr => ∃ (j A B : Nat), i ≤ j ∧ j ≤ 1 ∧ Hid (A = L * 64 ^ (j - i)) ∧ Hid (B + 1 = (L + 1) * 64 ^ (j - i)) ∧ A < 33554432 ∧ B < 33554432 ∧ lo = .int .i64 (A : Int) ∧ hi = .int .i64 (B : Int) ∧ jj = .int .i64 (j : Int) ∧ w = wr) (fun _ _ jj _ => 1 - (intOf jj).toNat)
    case atStart => exact ⟨i, L, L, Nat.le_refl _, hn2.out, hid (by rw [Nat.sub_self, Nat.pow_zero, Nat.mul_one]), hid (by rw [Nat.sub_self, Nat.pow_zero, Nat.mul_one]), hLs'.out, hLs'.out, rfl, rfl, rfl, rfl⟩
    case round =>
     obtain ⟨j, A, B, hij, hjk, hA, hB, hAs, hBs, rfl, rfl, rfl, hwr⟩ := hrel
     subst hwr
     by_cases hlt : j < 1
     ·have hli : (j : Int) < 1 := by omega
      have hA1 := hid (show A * 64 = L * 64 ^ (j + 1 - i) by rw [hA.out, show j + 1 - i = (j - i) + 1 by omega, Nat.pow_succ, Nat.mul_assoc])
      have hB1 := hid (show B * 64 + 63 + 1 = (L + 1) * 64 ^ (j + 1 - i) by rw [show B * 64 + 63 + 1 = (B + 1) * 64 by omega, hB.out, show j + 1 - i = (j - i) + 1 by omega, Nat.pow_succ, Nat.mul_assoc])
      have hBb : B * 64 + 63 < 33554432 := by
       have h1 := accB_lt t (leadB x) hok.out
       rw [← hl0'.out, ← hL.out, show t.length = i - 1 by have := hn'.out; omega] at h1
       have h2 := leadB_le hx'.out
       rw [← hl0'.out] at h2
       have h3 : (L + 1) * 64 ^ (j + 1 - i) ≤ ((l0 + 1) * 64 ^ (i - 1)) * 64 ^ (j + 1 - i) := Nat.mul_le_mul_right _ h1
       rw [Nat.mul_assoc, ← Nat.pow_add, show i - 1 + (j + 1 - i) = j by omega] at h3
       have h4 : 64 ^ j ≤ 64 ^ 3 := Nat.pow_le_pow_right (by decide) (by omega)
       have h5 : (l0 + 1) * 64 ^ j ≤ 128 * 64 ^ 3 := Nat.mul_le_mul (by omega) h4
       have h6 : 128 * 64 ^ 3 = 33554432 := by decide
       have := hB1.out
       omega
      have hAB : A ≤ B := by
       have h1 := hA.out
       have h2 := hB.out
       have h3 : 1 ≤ 64 ^ (j - i) := Nat.pos_of_ne_zero (by simp)
       rw [Nat.add_mul, Nat.one_mul] at h2
       omega
      have hAi : (A : Int) < 33554432 := by omega
      have hBi : (B : Int) < 33554432 := by omega
      have hA64 : A * 64 < 33554432 := by omega
      clear hlt hAB
      go_wp2
      go_roundw
      case rel => exact ⟨j + 1, A * 64, B * 64 + 63, by omega, by omega, hA1, hB1, hA64, hBb, by simp, by simp, by simp, by first | trivial | rfl⟩
      case measure => simp [intOf]; omega
     ·obtain rfl : j = 1 := by omega
      go_wp2
      refine bodyPost_ret (v := .tuple #[.int .i64 1, .int .i64 (A : Int), .int .i64 (B : Int)]) (by simp [results, Tryd.results86, go_sem]; try decide) rfl ⟨?_, rfl⟩
      have e1 : loB x t = A := by unfold loB; rw [hS'.out, ← hl0'.out, ← hL.out, hA.out, hn'.out]
      have e2 : hiB5u x t = B := by unfold hiB5u; rw [hS'.out, ← hl0'.out, ← hL.out, ← hn'.out, ← hB.out]; omega
      rw [hyes.out, e1, e2, hS'.out]
      rfl
 ·have i0 : ¬ ((x : Int) < 128) := by omega
  have i1 : ¬ ((192 : Int) ≤ (x : Int)) := by omega
  have i2 : ((x : Int) < 224) := by omega
  have i3 : ¬ ((224 : Int) ≤ (x : Int)) := by omega
  have i4 : ((x : Int) < 240) := by omega
  have i5 : ¬ ((240 : Int) ≤ (x : Int)) := by omega
  have i6 : ((x : Int) < 248) := by omega
  have hno := hid (spanV_neg (x := x) (t := t) (fun h => by have := h.2; omega))
  clear h1 h2 hS hx
  go_enter Tryd.func86, Tryd.ntmps86
  go_wp2
  refine bodyPost_ret (v := .tuple #[.int .i64 0, .int .i64 1, .int .i64 0]) (by simp [results, Tryd.results86, go_sem]; try decide) rfl ⟨?_, rfl⟩
  rw [hno.out]
 ·have i0 : ¬ ((x : Int) < 128) := by omega
  have i1 : ((192 : Int) ≤ (x : Int)) := by omega
  have i2 : ((x : Int) < 224) := by omega
  have i3 : ¬ ((224 : Int) ≤ (x : Int)) := by omega
  have i4 : ((x : Int) < 240) := by omega
  have i5 : ¬ ((240 : Int) ≤ (x : Int)) := by omega
  have i6 : ((x : Int) < 248) := by omega
  obtain ⟨l0, hl0⟩ : ∃ l0 : Nat, l0 = leadB x := ⟨_, rfl⟩
  have hl0i : (x : Int) - 192 = (l0 : Int) := by omega
  have hS' := hid hS
  have hl0' := hid hl0
  have hx' := hid hx
  clear h1 h2 hS hL hx hl0
  go_enter Tryd.func86, Tryd.ntmps86
  go_wp2
  clear i0 i1 i2 i3 i4 i5 i6
  go_loopw [7, 8] (fun lo ii wr => ∃ (i L : Nat), 1 ≤ i ∧ i ≤ n ∧ i ≤ 2 ∧ Hid (L = accB l0 (t.take (i - 1))) ∧ Hid (okC (t.take (i - 1))) ∧ L < 33554432 ∧ lo = .int .i64 (L : Int) ∧ ii = .int .i64 (i : Int) ∧ w = wr) (fun _ ii _ => n - (intOf ii).toNat)
  case atStart =>
   refine ⟨1, l0, by omega, by omega, by omega, hid rfl, hid (fun y hy => by cases hy), ?_, rfl, rfl, rfl⟩
   have := leadB_le hx'.out
   have := hl0'.out
   omega
  case round =>
   obtain ⟨i, L, hi1, hin, hik, hL, hok, hLs, rfl, rfl, hwr⟩ := hrel
   subst hwr
   by_cases hlt : i < n
   ·have hli : (i : Int) < (n : Int) := by omega
    obtain ⟨y, hy⟩ : ∃ y, t[i - 1]? = some y := ⟨_, List.getElem?_eq_getElem (by have := hn'.out; omega)⟩
    have hcy := hct'.out _ _ hy
    rw [show i - 1 + 1 = i by omega] at hcy
    obtain ⟨hcy, hy256⟩ := hcy
    have hy' := hid hy
    have ht1 := hid (show t.take i = t.take (i - 1) ++ [y] by
     have := List.take_add_one (l := t) (i := i - 1)
     rw [hy, show i - 1 + 1 = i by omega] at this
     exact this)
    clear hy
    by_cases hki : i < 2
    ·have hkii : (i : Int) < 2 := by omega
     by_cases hy1 : y < 128
     ·have hno := hid (spanV_neg (x := x) (t := t) (fun h => by have := h.1 y (List.mem_of_getElem? hy'.out); omega))
      have hyi : (y : Int) < 128 := by omega
      go_wp2
      refine bodyPost_ret (v := .tuple #[.int .i64 0, .int .i64 1, .int .i64 0]) (by simp [results, Tryd.results86, go_sem]; try decide) rfl ⟨?_, rfl⟩
      rw [hno.out]
     ·have hyi : ¬ (y : Int) < 128 := by omega
      by_cases hy2 : 192 ≤ y
      ·have hno := hid (spanV_neg (x := x) (t := t) (fun h => by have := h.1 y (List.mem_of_getElem? hy'.out); omega))
       have hyj : (192 : Int) ≤ (y : Int) := by omega
       go_wp2
       refine bodyPost_ret (v := .tuple #[.int .i64 0, .int .i64 1, .int .i64 0]) (by simp [results, Tryd.results86, go_sem]; try decide) rfl ⟨?_, rfl⟩
       rw [hno.out]
      ·have hyj : ¬ (192 : Int) ≤ (y : Int) := by omega
       obtain ⟨M, hM⟩ : ∃ M : Nat, M = L * 64 + (y - 128) := ⟨_, rfl⟩
       have hMi := hid (show (L : Int) * 64 + (y : Int) - 128 = (M : Int) by omega)
       have hMa := hid (show M = accB l0 (t.take (i + 1 - 1)) by rw [hM, hL.out, show i + 1 - 1 = i by omega, ht1.out, accB_snoc])
       have hMo := hid (show okC (t.take (i + 1 - 1)) by rw [show i + 1 - 1 = i by omega, ht1.out]; exact okC_snoc hok.out (by omega) (by omega))
       have hMs : M < 33554432 := by
        rw [hMa.out, hl0'.out]
        refine accB_small hx'.out hMo.out ?_
        rw [List.length_take]; omega
       have hMs2 := hid hMs
       have hLs2 := hid hLs
       clear hM hlt hki hy1 hy2 hMs hLs
       go_wp2
       go_roundw
       case rel => exact ⟨i + 1, M, by omega, by omega, by omega, hMa, hMo, hMs2.out, by congr 1; have := hMi.out; have := hLs2.out; unfold wrap64; omega, by simp, by first | trivial | rfl⟩
       case measure => simp [intOf]; omega
    ·have hkii : ¬ (i : Int) < 2 := by omega
     have hge : (2 : Int) ≤ (i : Int) := by omega
     have hno := hid (spanV_neg (x := x) (t := t) (fun h => by have := h.2; have := hn'.out; have := hS'.out; omega))
     go_wp2
     refine bodyPost_ret (v := .tuple #[.int .i64 0, .int .i64 1, .int .i64 0]) (by simp [results, Tryd.results86, go_sem]; try decide) rfl ⟨?_, rfl⟩
     rw [hno.out]
   ·obtain rfl : i = n := by omega
    have hall : t.take (i - 1) = t := List.take_of_length_le (by have := hn'.out; omega)
    rw [hall] at hL hok
    have hyes := hid (spanV_pos (x := x) (t := t) ⟨hok.out, by have := hn'.out; have := hS'.out; omega⟩)
    have hLs' := hid hLs
    have hn2 := hid hik
    clear hall hlt hLs
    go_wp2
    go_loopw [7, 10, 11] (fun lo hi jj wr => ∃ (j A B : Nat), i ≤ j ∧ j ≤ 2 ∧ Hid (A = L * 64 ^ (j - i)) ∧ Hid (B + 1 = (L + 1) * 64 ^ (j - i)) ∧ A < 33554432 ∧ B < 33554432 ∧ lo = .int .i64 (A : Int) ∧ hi = .int .i64 (B : Int) ∧ jj = .int .i64 (j : Int) ∧ w = wr) (fun _ _ jj _ => 2 - (intOf jj).toNat)
    case atStart => exact ⟨i, L, L, Nat.le_refl _, hn2.out, hid (by rw [Nat.sub_self, Nat.pow_zero, Nat.mul_one]), hid (by rw [Nat.sub_self, Nat.pow_zero, Nat.mul_one]), hLs'.out, hLs'.out, rfl, rfl, rfl, rfl⟩
    case round =>
     obtain ⟨j, A, B, hij, hjk, hA, hB, hAs, hBs, rfl, rfl, rfl, hwr⟩ := hrel
     subst hwr
     by_cases hlt : j < 2
     ·have hli : (j : Int) < 2 := by omega
      have hA1 := hid (show A * 64 = L * 64 ^ (j + 1 - i) by rw [hA.out, show j + 1 - i = (j - i) + 1 by omega, Nat.pow_succ, Nat.mul_assoc])
      have hB1 := hid (show B * 64 + 63 + 1 = (L + 1) * 64 ^ (j + 1 - i) by rw [show B * 64 + 63 + 1 = (B + 1) * 64 by omega, hB.out, show j + 1 - i = (j - i) + 1 by omega, Nat.pow_succ, Nat.mul_assoc])
      have hBb : B * 64 + 63 < 33554432 := by
       have h1 := accB_lt t (leadB x) hok.out
       rw [← hl0'.out, ← hL.out, show t.length = i - 1 by have := hn'.out; omega] at h1
       have h2 := leadB_le hx'.out
       rw [← hl0'.out] at h2
       have h3 : (L + 1) * 64 ^ (j + 1 - i) ≤ ((l0 + 1) * 64 ^ (i - 1)) * 64 ^ (j + 1 - i) := Nat.mul_le_mul_right _ h1
       rw [Nat.mul_assoc, ← Nat.pow_add, show i - 1 + (j + 1 - i) = j by omega] at h3
       have h4 : 64 ^ j ≤ 64 ^ 3 := Nat.pow_le_pow_right (by decide) (by omega)
       have h5 : (l0 + 1) * 64 ^ j ≤ 128 * 64 ^ 3 := Nat.mul_le_mul (by omega) h4
       have h6 : 128 * 64 ^ 3 = 33554432 := by decide
       have := hB1.out
       omega
      have hAB : A ≤ B := by
       have h1 := hA.out
       have h2 := hB.out
       have h3 : 1 ≤ 64 ^ (j - i) := Nat.pos_of_ne_zero (by simp)
       rw [Nat.add_mul, Nat.one_mul] at h2
       omega
      have hAi : (A : Int) < 33554432 := by omega
      have hBi : (B : Int) < 33554432 := by omega
      have hA64 : A * 64 < 33554432 := by omega
      clear hlt hAB
      go_wp2
      go_roundw
      case rel => exact ⟨j + 1, A * 64, B * 64 + 63, by omega, by omega, hA1, hB1, hA64, hBb, by simp, by simp, by simp, by first | trivial | rfl⟩
      case measure => simp [intOf]; omega
     ·obtain rfl : j = 2 := by omega
      go_wp2
      refine bodyPost_ret (v := .tuple #[.int .i64 2, .int .i64 (A : Int), .int .i64 (B : Int)]) (by simp [results, Tryd.results86, go_sem]; try decide) rfl ⟨?_, rfl⟩
      have e1 : loB x t = A := by unfold loB; rw [hS'.out, ← hl0'.out, ← hL.out, hA.out, hn'.out]
      have e2 : hiB5u x t = B := by unfold hiB5u; rw [hS'.out, ← hl0'.out, ← hL.out, ← hn'.out, ← hB.out]; omega
      rw [hyes.out, e1, e2, hS'.out]
      rfl
 ·have i0 : ¬ ((x : Int) < 128) := by omega
  have i1 : ((192 : Int) ≤ (x : Int)) := by omega
  have i2 : ¬ ((x : Int) < 224) := by omega
  have i3 : ((224 : Int) ≤ (x : Int)) := by omega
  have i4 : ((x : Int) < 240) := by omega
  have i5 : ¬ ((240 : Int) ≤ (x : Int)) := by omega
  have i6 : ((x : Int) < 248) := by omega
  obtain ⟨l0, hl0⟩ : ∃ l0 : Nat, l0 = leadB x := ⟨_, rfl⟩
  have hl0i : (x : Int) - 224 = (l0 : Int) := by omega
  have hS' := hid hS
  have hl0' := hid hl0
  have hx' := hid hx
  clear h1 h2 hS hL hx hl0
  go_enter Tryd.func86, Tryd.ntmps86
  go_wp2
  clear i0 i1 i2 i3 i4 i5 i6
  go_loopw [7, 8] (fun lo ii wr => ∃ (i L : Nat), 1 ≤ i ∧ i ≤ n ∧ i ≤ 3 ∧ Hid (L = accB l0 (t.take (i - 1))) ∧ Hid (okC (t.take (i - 1))) ∧ L < 33554432 ∧ lo = .int .i64 (L : Int) ∧ ii = .int .i64 (i : Int) ∧ w = wr) (fun _ ii _ => n - (intOf ii).toNat)
  case atStart =>
   refine ⟨1, l0, by omega, by omega, by omega, hid rfl, hid (fun y hy => by cases hy), ?_, rfl, rfl, rfl⟩
   have := leadB_le hx'.out
   have := hl0'.out
   omega
  case round =>
   obtain ⟨i, L, hi1, hin, hik, hL, hok, hLs, rfl, rfl, hwr⟩ := hrel
   subst hwr
   by_cases hlt : i < n
   ·have hli : (i : Int) < (n : Int) := by omega
    obtain ⟨y, hy⟩ : ∃ y, t[i - 1]? = some y := ⟨_, List.getElem?_eq_getElem (by have := hn'.out; omega)⟩
    have hcy := hct'.out _ _ hy
    rw [show i - 1 + 1 = i by omega] at hcy
    obtain ⟨hcy, hy256⟩ := hcy
    have hy' := hid hy
    have ht1 := hid (show t.take i = t.take (i - 1) ++ [y] by
     have := List.take_add_one (l := t) (i := i - 1)
     rw [hy, show i - 1 + 1 = i by omega] at this
     exact this)
    clear hy
    by_cases hki : i < 3
    ·have hkii : (i : Int) < 3 := by omega
     by_cases hy1 : y < 128
     ·have hno := hid (spanV_neg (x := x) (t := t) (fun h => by have := h.1 y (List.mem_of_getElem? hy'.out); omega))
      have hyi : (y : Int) < 128 := by omega
      go_wp2
      refine bodyPost_ret (v := .tuple #[.int .i64 0, .int .i64 1, .int .i64 0]) (by simp [results, Tryd.results86, go_sem]; try decide) rfl ⟨?_, rfl⟩
      rw [hno.out]
     ·have hyi : ¬ (y : Int) < 128 := by omega
      by_cases hy2 : 192 ≤ y
      ·have hno := hid (spanV_neg (x := x) (t := t) (fun h => by have := h.1 y (List.mem_of_getElem? hy'.out); omega))
       have hyj : (192 : Int) ≤ (y : Int) := by omega
       go_wp2
       refine bodyPost_ret (v := .tuple #[.int .i64 0, .int .i64 1, .int .i64 0]) (by simp [results, Tryd.results86, go_sem]; try decide) rfl ⟨?_, rfl⟩
       rw [hno.out]
      ·have hyj : ¬ (192 : Int) ≤ (y : Int) := by omega
       obtain ⟨M, hM⟩ : ∃ M : Nat, M = L * 64 + (y - 128) := ⟨_, rfl⟩
       have hMi := hid (show (L : Int) * 64 + (y : Int) - 128 = (M : Int) by omega)
       have hMa := hid (show M = accB l0 (t.take (i + 1 - 1)) by rw [hM, hL.out, show i + 1 - 1 = i by omega, ht1.out, accB_snoc])
       have hMo := hid (show okC (t.take (i + 1 - 1)) by rw [show i + 1 - 1 = i by omega, ht1.out]; exact okC_snoc hok.out (by omega) (by omega))
       have hMs : M < 33554432 := by
        rw [hMa.out, hl0'.out]
        refine accB_small hx'.out hMo.out ?_
        rw [List.length_take]; omega
       have hMs2 := hid hMs
       have hLs2 := hid hLs
       clear hM hlt hki hy1 hy2 hMs hLs
       go_wp2
       go_roundw
       case rel => exact ⟨i + 1, M, by omega, by omega, by omega, hMa, hMo, hMs2.out, by congr 1; have := hMi.out; have := hLs2.out; unfold wrap64; omega, by simp, by first | trivial | rfl⟩
       case measure => simp [intOf]; omega
    ·have hkii : ¬ (i : Int) < 3 := by omega
     have hge : (3 : Int) ≤ (i : Int) := by omega
     have hno := hid (spanV_neg (x := x) (t := t) (fun h => by have := h.2; have := hn'.out; have := hS'.out; omega))
     go_wp2
     refine bodyPost_ret (v := .tuple #[.int .i64 0, .int .i64 1, .int .i64 0]) (by simp [results, Tryd.results86, go_sem]; try decide) rfl ⟨?_, rfl⟩
     rw [hno.out]
   ·obtain rfl : i = n := by omega
    have hall : t.take (i - 1) = t := List.take_of_length_le (by have := hn'.out; omega)
    rw [hall] at hL hok
    have hyes := hid (spanV_pos (x := x) (t := t) ⟨hok.out, by have := hn'.out; have := hS'.out; omega⟩)
    have hLs' := hid hLs
    have hn2 := hid hik
    clear hall hlt hLs
    go_wp2
    go_loopw [7, 10, 11] (fun lo hi jj wr => ∃ (j A B : Nat), i ≤ j ∧ j ≤ 3 ∧ Hid (A = L * 64 ^ (j - i)) ∧ Hid (B + 1 = (L + 1) * 64 ^ (j - i)) ∧ A < 33554432 ∧ B < 33554432 ∧ lo = .int .i64 (A : Int) ∧ hi = .int .i64 (B : Int) ∧ jj = .int .i64 (j : Int) ∧ w = wr) (fun _ _ jj _ => 3 - (intOf jj).toNat)
    case atStart => exact ⟨i, L, L, Nat.le_refl _, hn2.out, hid (by rw [Nat.sub_self, Nat.pow_zero, Nat.mul_one]), hid (by rw [Nat.sub_self, Nat.pow_zero, Nat.mul_one]), hLs'.out, hLs'.out, rfl, rfl, rfl, rfl⟩
    case round =>
     obtain ⟨j, A, B, hij, hjk, hA, hB, hAs, hBs, rfl, rfl, rfl, hwr⟩ := hrel
     subst hwr
     by_cases hlt : j < 3
     ·have hli : (j : Int) < 3 := by omega
      have hA1 := hid (show A * 64 = L * 64 ^ (j + 1 - i) by rw [hA.out, show j + 1 - i = (j - i) + 1 by omega, Nat.pow_succ, Nat.mul_assoc])
      have hB1 := hid (show B * 64 + 63 + 1 = (L + 1) * 64 ^ (j + 1 - i) by rw [show B * 64 + 63 + 1 = (B + 1) * 64 by omega, hB.out, show j + 1 - i = (j - i) + 1 by omega, Nat.pow_succ, Nat.mul_assoc])
      have hBb : B * 64 + 63 < 33554432 := by
       have h1 := accB_lt t (leadB x) hok.out
       rw [← hl0'.out, ← hL.out, show t.length = i - 1 by have := hn'.out; omega] at h1
       have h2 := leadB_le hx'.out
       rw [← hl0'.out] at h2
       have h3 : (L + 1) * 64 ^ (j + 1 - i) ≤ ((l0 + 1) * 64 ^ (i - 1)) * 64 ^ (j + 1 - i) := Nat.mul_le_mul_right _ h1
       rw [Nat.mul_assoc, ← Nat.pow_add, show i - 1 + (j + 1 - i) = j by omega] at h3
       have h4 : 64 ^ j ≤ 64 ^ 3 := Nat.pow_le_pow_right (by decide) (by omega)
       have h5 : (l0 + 1) * 64 ^ j ≤ 128 * 64 ^ 3 := Nat.mul_le_mul (by omega) h4
       have h6 : 128 * 64 ^ 3 = 33554432 := by decide
       have := hB1.out
       omega
      have hAB : A ≤ B := by
       have h1 := hA.out
       have h2 := hB.out
       have h3 : 1 ≤ 64 ^ (j - i) := Nat.pos_of_ne_zero (by simp)
       rw [Nat.add_mul, Nat.one_mul] at h2
       omega
      have hAi : (A : Int) < 33554432 := by omega
      have hBi : (B : Int) < 33554432 := by omega
      have hA64 : A * 64 < 33554432 := by omega
      clear hlt hAB
      go_wp2
      go_roundw
      case rel => exact ⟨j + 1, A * 64, B * 64 + 63, by omega, by omega, hA1, hB1, hA64, hBb, by simp, by simp, by simp, by first | trivial | rfl⟩
      case measure => simp [intOf]; omega
     ·obtain rfl : j = 3 := by omega
      go_wp2
      refine bodyPost_ret (v := .tuple #[.int .i64 3, .int .i64 (A : Int), .int .i64 (B : Int)]) (by simp [results, Tryd.results86, go_sem]; try decide) rfl ⟨?_, rfl⟩
      have e1 : loB x t = A := by unfold loB; rw [hS'.out, ← hl0'.out, ← hL.out, hA.out, hn'.out]
      have e2 : hiB5u x t = B := by unfold hiB5u; rw [hS'.out, ← hl0'.out, ← hL.out, ← hn'.out, ← hB.out]; omega
      rw [hyes.out, e1, e2, hS'.out]
      rfl
 ·have i0 : ¬ ((x : Int) < 128) := by omega
  have i1 : ((192 : Int) ≤ (x : Int)) := by omega
  have i2 : ¬ ((x : Int) < 224) := by omega
  have i3 : ((224 : Int) ≤ (x : Int)) := by omega
  have i4 : ¬ ((x : Int) < 240) := by omega
  have i5 : ((240 : Int) ≤ (x : Int)) := by omega
  have i6 : ((x : Int) < 248) := by omega
  obtain ⟨l0, hl0⟩ : ∃ l0 : Nat, l0 = leadB x := ⟨_, rfl⟩
  have hl0i : (x : Int) - 240 = (l0 : Int) := by omega
  have hS' := hid hS
  have hl0' := hid hl0
  have hx' := hid hx
  clear h1 h2 hS hL hx hl0
  go_enter Tryd.func86, Tryd.ntmps86
  go_wp2
  clear i0 i1 i2 i3 i4 i5 i6
  go_loopw [7, 8] (fun lo ii wr => ∃ (i L : Nat), 1 ≤ i ∧ i ≤ n ∧ i ≤ 4 ∧ Hid (L = accB l0 (t.take (i - 1))) ∧ Hid (okC (t.take (i - 1))) ∧ L < 33554432 ∧ lo = .int .i64 (L : Int) ∧ ii = .int .i64 (i : Int) ∧ w = wr) (fun _ ii _ => n - (intOf ii).toNat)
  case atStart =>
   refine ⟨1, l0, by omega, by omega, by omega, hid rfl, hid (fun y hy => by cases hy), ?_, rfl, rfl, rfl⟩
   have := leadB_le hx'.out
   have := hl0'.out
   omega
  case round =>
   obtain ⟨i, L, hi1, hin, hik, hL, hok, hLs, rfl, rfl, hwr⟩ := hrel
   subst hwr
   by_cases hlt : i < n
   ·have hli : (i : Int) < (n : Int) := by omega
    obtain ⟨y, hy⟩ : ∃ y, t[i - 1]? = some y := ⟨_, List.getElem?_eq_getElem (by have := hn'.out; omega)⟩
    have hcy := hct'.out _ _ hy
    rw [show i - 1 + 1 = i by omega] at hcy
    obtain ⟨hcy, hy256⟩ := hcy
    have hy' := hid hy
    have ht1 := hid (show t.take i = t.take (i - 1) ++ [y] by
     have := List.take_add_one (l := t) (i := i - 1)
     rw [hy, show i - 1 + 1 = i by omega] at this
     exact this)
    clear hy
    by_cases hki : i < 4
    ·have hkii : (i : Int) < 4 := by omega
     by_cases hy1 : y < 128
     ·have hno := hid (spanV_neg (x := x) (t := t) (fun h => by have := h.1 y (List.mem_of_getElem? hy'.out); omega))
      have hyi : (y : Int) < 128 := by omega
      go_wp2
      refine bodyPost_ret (v := .tuple #[.int .i64 0, .int .i64 1, .int .i64 0]) (by simp [results, Tryd.results86, go_sem]; try decide) rfl ⟨?_, rfl⟩
      rw [hno.out]
     ·have hyi : ¬ (y : Int) < 128 := by omega
      by_cases hy2 : 192 ≤ y
      ·have hno := hid (spanV_neg (x := x) (t := t) (fun h => by have := h.1 y (List.mem_of_getElem? hy'.out); omega))
       have hyj : (192 : Int) ≤ (y : Int) := by omega
       go_wp2
       refine bodyPost_ret (v := .tuple #[.int .i64 0, .int .i64 1, .int .i64 0]) (by simp [results, Tryd.results86, go_sem]; try decide) rfl ⟨?_, rfl⟩
       rw [hno.out]
      ·have hyj : ¬ (192 : Int) ≤ (y : Int) := by omega
       obtain ⟨M, hM⟩ : ∃ M : Nat, M = L * 64 + (y - 128) := ⟨_, rfl⟩
       have hMi := hid (show (L : Int) * 64 + (y : Int) - 128 = (M : Int) by omega)
       have hMa := hid (show M = accB l0 (t.take (i + 1 - 1)) by rw [hM, hL.out, show i + 1 - 1 = i by omega, ht1.out, accB_snoc])
       have hMo := hid (show okC (t.take (i + 1 - 1)) by rw [show i + 1 - 1 = i by omega, ht1.out]; exact okC_snoc hok.out (by omega) (by omega))
       have hMs : M < 33554432 := by
        rw [hMa.out, hl0'.out]
        refine accB_small hx'.out hMo.out ?_
        rw [List.length_take]; omega
       have hMs2 := hid hMs
       have hLs2 := hid hLs
       clear hM hlt hki hy1 hy2 hMs hLs
       go_wp2
       go_roundw
       case rel => exact ⟨i + 1, M, by omega, by omega, by omega, hMa, hMo, hMs2.out, by congr 1; have := hMi.out; have := hLs2.out; unfold wrap64; omega, by simp, by first | trivial | rfl⟩
       case measure => simp [intOf]; omega
    ·have hkii : ¬ (i : Int) < 4 := by omega
     have hge : (4 : Int) ≤ (i : Int) := by omega
     have hno := hid (spanV_neg (x := x) (t := t) (fun h => by have := h.2; have := hn'.out; have := hS'.out; omega))
     go_wp2
     refine bodyPost_ret (v := .tuple #[.int .i64 0, .int .i64 1, .int .i64 0]) (by simp [results, Tryd.results86, go_sem]; try decide) rfl ⟨?_, rfl⟩
     rw [hno.out]
   ·obtain rfl : i = n := by omega
    have hall : t.take (i - 1) = t := List.take_of_length_le (by have := hn'.out; omega)
    rw [hall] at hL hok
    have hyes := hid (spanV_pos (x := x) (t := t) ⟨hok.out, by have := hn'.out; have := hS'.out; omega⟩)
    have hLs' := hid hLs
    have hn2 := hid hik
    clear hall hlt hLs
    go_wp2
    go_loopw [7, 10, 11] (fun lo hi jj wr => ∃ (j A B : Nat), i ≤ j ∧ j ≤ 4 ∧ Hid (A = L * 64 ^ (j - i)) ∧ Hid (B + 1 = (L + 1) * 64 ^ (j - i)) ∧ A < 33554432 ∧ B < 33554432 ∧ lo = .int .i64 (A : Int) ∧ hi = .int .i64 (B : Int) ∧ jj = .int .i64 (j : Int) ∧ w = wr) (fun _ _ jj _ => 4 - (intOf jj).toNat)
    case atStart => exact ⟨i, L, L, Nat.le_refl _, hn2.out, hid (by rw [Nat.sub_self, Nat.pow_zero, Nat.mul_one]), hid (by rw [Nat.sub_self, Nat.pow_zero, Nat.mul_one]), hLs'.out, hLs'.out, rfl, rfl, rfl, rfl⟩
    case round =>
     obtain ⟨j, A, B, hij, hjk, hA, hB, hAs, hBs, rfl, rfl, rfl, hwr⟩ := hrel
     subst hwr
     by_cases hlt : j < 4
     ·have hli : (j : Int) < 4 := by omega
      have hA1 := hid (show A * 64 = L * 64 ^ (j + 1 - i) by rw [hA.out, show j + 1 - i = (j - i) + 1 by omega, Nat.pow_succ, Nat.mul_assoc])
      have hB1 := hid (show B * 64 + 63 + 1 = (L + 1) * 64 ^ (j + 1 - i) by rw [show B * 64 + 63 + 1 = (B + 1) * 64 by omega, hB.out, show j + 1 - i = (j - i) + 1 by omega, Nat.pow_succ, Nat.mul_assoc])
      have hBb : B * 64 + 63 < 33554432 := by
       have h1 := accB_lt t (leadB x) hok.out
       rw [← hl0'.out, ← hL.out, show t.length = i - 1 by have := hn'.out; omega] at h1
       have h2 := leadB_le hx'.out
       rw [← hl0'.out] at h2
       have h3 : (L + 1) * 64 ^ (j + 1 - i) ≤ ((l0 + 1) * 64 ^ (i - 1)) * 64 ^ (j + 1 - i) := Nat.mul_le_mul_right _ h1
       rw [Nat.mul_assoc, ← Nat.pow_add, show i - 1 + (j + 1 - i) = j by omega] at h3
       have h4 : 64 ^ j ≤ 64 ^ 3 := Nat.pow_le_pow_right (by decide) (by omega)
       have h5 : (l0 + 1) * 64 ^ j ≤ 128 * 64 ^ 3 := Nat.mul_le_mul (by omega) h4
       have h6 : 128 * 64 ^ 3 = 33554432 := by decide
       have := hB1.out
       omega
      have hAB : A ≤ B := by
       have h1 := hA.out
       have h2 := hB.out
       have h3 : 1 ≤ 64 ^ (j - i) := Nat.pos_of_ne_zero (by simp)
       rw [Nat.add_mul, Nat.one_mul] at h2
       omega
      have hAi : (A : Int) < 33554432 := by omega
      have hBi : (B : Int) < 33554432 := by omega
      have hA64 : A * 64 < 33554432 := by omega
      clear hlt hAB
      go_wp2
      go_roundw
      case rel => exact ⟨j + 1, A * 64, B * 64 + 63, by omega, by omega, hA1, hB1, hA64, hBb, by simp, by simp, by simp, by first | trivial | rfl⟩
      case measure => simp [intOf]; omega
     ·obtain rfl : j = 4 := by omega
      go_wp2
      refine bodyPost_ret (v := .tuple #[.int .i64 4, .int .i64 (A : Int), .int .i64 (B : Int)]) (by simp [results, Tryd.results86, go_sem]; try decide) rfl ⟨?_, rfl⟩
      have e1 : loB x t = A := by unfold loB; rw [hS'.out, ← hl0'.out, ← hL.out, hA.out, hn'.out]
      have e2 : hiB5u x t = B := by unfold hiB5u; rw [hS'.out, ← hl0'.out, ← hL.out, ← hn'.out, ← hB.out]; omega
      rw [hyes.out, e1, e2, hS'.out]
      rfl
 ·have i0 : ¬ ((x : Int) < 128) := by omega
  have i1 : ((192 : Int) ≤ (x : Int)) := by omega
  have i2 : ¬ ((x : Int) < 224) := by omega
  have i3 : ((224 : Int) ≤ (x : Int)) := by omega
  have i4 : ¬ ((x : Int) < 240) := by omega
  have i5 : ((240 : Int) ≤ (x : Int)) := by omega
  have i6 : ¬ ((x : Int) < 248) := by omega
  have hno := hid (spanV_neg (x := x) (t := t) (fun h => by have := h.2; omega))
  clear h1 hS hx
  go_enter Tryd.func86, Tryd.ntmps86
  go_wp2
  refine bodyPost_ret (v := .tuple #[.int .i64 0, .int .i64 1, .int .i64 0]) (by simp [results, Tryd.results86, go_sem]; try decide) rfl ⟨?_, rfl⟩
  rw [hno.out]
end Go.Proofs.YtbabdhepnjacdaaDoor

/-
 What quarryref05.Begins answers.
-/
namespace Go.Proofs.YtbabdhepnjacdaaDoor
open Go.RowKit
/-- What Begins answers: whether some character begins so; if so, one that does, and whether the bytes are the whole of it. -/
def BegV (S : Prop) (lo hi n z : Nat) (e : Ending) : Prop := ∃ (ok : Bool) (r : Int) (al : Bool), e = .returned (.tuple #[.bool ok, .int .i32 r, .bool al]) ∧ (ok = true ↔ S) ∧ (ok = true → ∃ c : Nat, r = (c : Int) ∧ lo ≤ c ∧ c ≤ hi) ∧ (ok = true → al = decide (n = z))
theorem sizeZ_nat (c : Nat) : sizeZ (c : Int) = sizeN c := by unfold sizeZ; rw [if_neg (by omega)]; rfl
theorem hiB_small {x : Nat} {t : List Nat} (hx : x < 256) (h : SpanOk x t) : hiB5u x t < 33554432 := by
 have h1 := accB_lt t (leadB x) h.1
 have h2 := leadB_le hx
 have hs : sizeB x ≤ 4 := by have := sizeB_cases x hx; omega
 have h0 := h.2
 have h3 : (accB (leadB x) t + 1) * 64 ^ (sizeB x - (t.length + 1)) ≤ ((leadB x + 1) * 64 ^ t.length) * 64 ^ (sizeB x - (t.length + 1)) := Nat.mul_le_mul_right _ h1
 rw [Nat.mul_assoc, ← Nat.pow_add] at h3
 have h4 : 64 ^ (t.length + (sizeB x - (t.length + 1))) ≤ 64 ^ 3 := Nat.pow_le_pow_right (by decide) (by omega)
 have h5 : (leadB x + 1) * 64 ^ (t.length + (sizeB x - (t.length + 1))) ≤ 128 * 64 ^ 3 := Nat.mul_le_mul (by omega) h4
 have h6 : 128 * 64 ^ 3 = 33554432 := by decide
 have h7 : 0 < (accB (leadB x) t + 1) * 64 ^ (sizeB x - (t.length + 1)) := Nat.mul_pos (by omega) (Nat.pos_of_ne_zero (by simp))
 unfold hiB5u
 omega
theorem less_by {c hi : Nat} (h : c ≤ hi) : hi + 1 - ((c : Int) + 1).toNat < hi + 1 - (c : Int).toNat := by omega
set_option maxRecDepth 10000 in
set_option maxHeartbeats 2000000 in
theorem begins_calls (x : Nat) (t : List Nat) (hx : x < 256) (hlen : t.length ≤ 3) (g cap : Nat) (w : World) (hc0 : w.cell? ⟨g, 0, none⟩ = some (.int .u8 (x : Int))) (hct : ∀ (i y : Nat), t[i]? = some y → w.cell? ⟨g, i + 1, none⟩ = some (.int .u8 (y : Int)) ∧ y < 256) :
  Calls Tryd.prog 85 #[.slice (some ⟨g, 0, none⟩) (t.length + 1) cap] w fun e w' => BegV (SomeB x t) (loB x t) (hiB5u x t) (t.length + 1) (sizeB x) e ∧ w' = w := by
 have hsp := hid (span_calls x t hx hlen g cap w hc0 hct)
 clear hc0 hct
 by_cases hS : SpanOk x t
 ·rw [spanV_pos hS] at hsp
  have hb := hiB_small hx hS
  have hz0 : 0 < sizeB x := by have := hS.2; omega
  obtain ⟨n, hn⟩ : ∃ n : Nat, n = t.length + 1 := ⟨_, rfl⟩
  obtain ⟨z, hz⟩ : ∃ z : Nat, z = sizeB x := ⟨_, rfl⟩
  obtain ⟨lo, hlo⟩ : ∃ lo : Nat, lo = loB x t := ⟨_, rfl⟩
  obtain ⟨hi, hhi⟩ : ∃ hi : Nat, hi = hiB5u x t := ⟨_, rfl⟩
  have hS' := hid hS
  have key : SomeB x t ↔ ∃ c, lo ≤ c ∧ c ≤ hi ∧ sizeN c = z := by
   rw [hlo, hhi, hz]
   exact ⟨fun h => h.2, fun h => ⟨hS, h⟩⟩
  rw [← hn, ← hz, ← hlo, ← hhi] at hsp ⊢
  rw [key]
  rw [← hz] at hz0
  rw [← hhi] at hb
  clear hz hlo hhi key hS hx hlen
  have hn' := hid hn
  clear hn
  go_enter Tryd.func85, Tryd.ntmps85
  go_wp2_with fail
  refine Calls.mono hsp.out ?_
  rintro e w1 ⟨rfl, hw1⟩
  rw [hw1]
  clear hw1 hsp
  go_wp2
  go_loopw [8] (fun cc wr => ∃ c : Nat, lo ≤ c ∧ cc = .int .i64 (c : Int) ∧ Hid (∀ d, lo ≤ d → d < c → sizeN d ≠ z) ∧ w = wr) (fun cc _ => hi + 1 - (intOf cc).toNat)
  case atStart => exact ⟨lo, Nat.le_refl _, rfl, hid (fun d h1 h2 => by omega), rfl⟩
  case round =>
   obtain ⟨c, hc, rfl, hno, hwr⟩ := hrel
   subst hwr
   by_cases hle : c ≤ hi
   ·have hlei : (c : Int) ≤ (hi : Int) := by omega
    have hci : (c : Int) < 2147483648 := by omega
    have hcw : (c : Int) % 4294967296 = (c : Int) := by omega
    have hsc := hid (refSize_calls (c : Int) w)
    rw [sizeZ_nat] at hsc
    go_wp2_with fail
    refine Calls.mono hsc.out ?_
    rintro e w1 ⟨rfl, hw1⟩
    rw [hw1]
    clear hw1 hsc
    by_cases heq : sizeN c = z
    ·have heqi : (sizeN c : Int) = (z : Int) := by omega
     have hfin := hid (show ∃ d, lo ≤ d ∧ d ≤ hi ∧ sizeN d = z from ⟨c, hc, hle, heq⟩)
     clear heq
     go_wp2
     refine bodyPost_ret (v := .tuple #[.bool true, .int .i32 (c : Int), .bool ((n : Int) == (z : Int))]) (by simp [results, Tryd.results85, go_sem]; try decide) rfl ⟨⟨true, (c : Int), _, rfl, ⟨fun _ => hfin.out, fun _ => rfl⟩, fun _ => ⟨c, rfl, hc, hle⟩, fun _ => ?_⟩, rfl⟩
     rw [Bool.eq_iff_iff]
     simp
     omega
    ·have heqi : ¬ ((sizeN c : Int) = (z : Int)) := by omega
     have hno1 := hid (show ∀ d, lo ≤ d → d < c + 1 → sizeN d ≠ z from fun d h1 h2 => by
      by_cases e : d = c
      ·subst e; exact heq
      ·exact hno.out d h1 (by omega))
     by_cases h1 : c = 55296
     ·subst h1
      by_cases h2 : 57343 < hi
      ·have h2i : (57343 : Int) < (hi : Int) := by omega
       have hno2 := hid (show ∀ d, lo ≤ d → d < 57344 → sizeN d ≠ z from fun d h1 h2 => by
        by_cases e : d < 55297
        ·exact hno1.out d h1 e
        ·have e0 : sizeN d = 0 := by unfold sizeN; rw [if_pos (.inl ⟨by omega, by omega⟩)]
         omega)
       clear heq hcw hci
       go_wp2
       go_roundw
       case rel => exact ⟨57344, by omega, by simp, hno2, by first | trivial | rfl⟩
       case measure => simp [intOf]; omega
      ·have h2i : ¬ (57343 : Int) < (hi : Int) := by omega
       clear heq hcw hci
       go_wp2
       go_roundw
       case rel => exact ⟨55297, by omega, by simp, hno1, by first | trivial | rfl⟩
       case measure => simp [intOf]; omega
     ·have h1i : ¬ ((c : Int) = 55296) := by omega
      have hwc : wrap64 ((c : Int) + 1) = (c : Int) + 1 := by unfold wrap64; omega
      have hle2 := hid hle
      have hb' := hid hb
      clear heq h1 hcw hci hb
      go_wp2
      go_roundw
      case rel => exact ⟨c + 1, by omega, by rw [hwc]; rfl, hno1, by first | trivial | rfl⟩
      case measure => rw [hwc]; exact less_by hle2.out
   ·have hlei : ¬ (c : Int) ≤ (hi : Int) := by omega
    have hnone := hid (show ¬ ∃ d, lo ≤ d ∧ d ≤ hi ∧ sizeN d = z from fun ⟨d, h1, h2, h3⟩ => hno.out d h1 (by omega) h3)
    go_wp2
    refine bodyPost_ret (v := .tuple #[.bool false, .int .i32 0, .bool false]) (by simp [results, Tryd.results85, go_sem]; try decide) rfl ⟨⟨false, 0, false, rfl, ⟨fun h => (by cases h), fun h => absurd h hnone.out⟩, fun h => (by cases h), fun h => (by cases h)⟩, rfl⟩
 ·rw [spanV_neg hS] at hsp
  have hS' := hid hS
  clear hS hx hlen
  obtain ⟨n, hn⟩ : ∃ n : Nat, n = t.length + 1 := ⟨_, rfl⟩
  rw [← hn] at hsp ⊢
  clear hn
  go_enter Tryd.func85, Tryd.ntmps85
  go_wp2_with fail
  refine Calls.mono hsp.out ?_
  rintro e w1 ⟨rfl, hw1⟩
  rw [hw1]
  clear hw1 hsp
  go_wp2
  go_loopw [8] (fun cc wr => cc = .int .i64 1 ∧ w = wr) (fun _ _ => 0)
  case atStart => exact ⟨rfl, rfl⟩
  case round =>
   obtain ⟨rfl, hwr⟩ := hrel
   subst hwr
   go_wp2
   refine bodyPost_ret (v := .tuple #[.bool false, .int .i32 0, .bool false]) (by simp [results, Tryd.results85, go_sem]; try decide) rfl ⟨⟨false, 0, false, rfl, ⟨fun h => (by cases h), fun h => absurd h.1 hS'.out⟩, fun h => (by cases h), fun h => (by cases h)⟩, rfl⟩
end Go.Proofs.YtbabdhepnjacdaaDoor
