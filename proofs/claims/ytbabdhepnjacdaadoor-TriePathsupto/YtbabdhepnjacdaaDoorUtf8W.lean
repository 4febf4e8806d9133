/-
 Utf8RefMath, Utf8Walk, one behind the other.
-/
import Derived.Test.YtbabdhepnjacdaaDoorPack1
/- What the reference reckons of the first bytes of a form: the least and the greatest number that they can begin; that goes together with the state. -/
namespace Go.Proofs.YtbabdhepnjacdaaDoor
def sizeB (x : Nat) : Nat := if x < 128 then 1 else if x < 192 then 0 else if x < 224 then 2 else if x < 240 then 3 else if x < 248 then 4 else 0
def leadB (x : Nat) : Nat := if x < 128 then x else if x < 224 then x - 192 else if x < 240 then x - 224 else x - 240
def accB (l : Nat) (t : List Nat) : Nat := t.foldl (fun a y => a * 64 + (y - 128)) l
def okC (t : List Nat) : Prop := ∀ y ∈ t, 128 ≤ y ∧ y < 192
theorem accB_snoc (l : Nat) (t : List Nat) (y : Nat) : accB l (t ++ [y]) = accB l t * 64 + (y - 128) := by unfold accB; rw [List.foldl_append]; rfl
theorem okC_snoc {t : List Nat} {y : Nat} (h : okC t) (h1 : 128 ≤ y) (h2 : y < 192) : okC (t ++ [y]) := by
 intro z hz
 rcases List.mem_append.1 hz with hz | hz
 ·exact h z hz
 ·simp at hz; subst hz; exact ⟨h1, h2⟩
set_option maxRecDepth 10000 in
theorem accB_lt (t : List Nat) : ∀ l, okC t → accB l t < (l + 1) * 64 ^ t.length := by
 induction t with
 | nil => intro l _; rw [List.length_nil, Nat.pow_zero]; show l < _; omega
 | cons y t ih =>
  intro l h
  have h1 := h y (by simp)
  have h2 := ih (l * 64 + (y - 128)) (fun z hz => h z (by simp [hz]))
  show accB (l * 64 + (y - 128)) t < _
  refine Nat.lt_of_lt_of_le h2 ?_
  rw [List.length_cons, Nat.pow_succ, show (l + 1) * (64 ^ t.length * 64) = ((l + 1) * 64) * 64 ^ t.length by rw [Nat.mul_comm (64 ^ t.length) 64, Nat.mul_assoc]]
  exact Nat.mul_le_mul_right _ (by omega)
theorem leadB_le {x : Nat} (hx : x < 256) : leadB x ≤ 127 := by unfold leadB; split <;> (try split) <;> (try split) <;> omega
theorem accB_small {x : Nat} (hx : x < 256) {t : List Nat} (h : okC t) (hl : t.length ≤ 3) : accB (leadB x) t < 33554432 := by
 have h1 := accB_lt t (leadB x) h
 have h2 := leadB_le hx
 have h3 : 64 ^ t.length ≤ 64 ^ 3 := Nat.pow_le_pow_right (by decide) hl
 have h4 : (leadB x + 1) * 64 ^ t.length ≤ 128 * 64 ^ 3 := Nat.mul_le_mul (by omega) h3
 have h5 : 128 * 64 ^ 3 = 33554432 := by decide
 omega
/-- The bytes x, then t can be a beginning, as far as their shape goes. -/
def SpanOk (x : Nat) (t : List Nat) : Prop := okC t ∧ t.length < sizeB x
/-- The least and the greatest number that begins so. -/
def loB (x : Nat) (t : List Nat) : Nat := accB (leadB x) t * 64 ^ (sizeB x - (t.length + 1))
def hiB5u (x : Nat) (t : List Nat) : Nat := (accB (leadB x) t + 1) * 64 ^ (sizeB x - (t.length + 1)) - 1
/-- Some character begins so. -/
def SomeB (x : Nat) (t : List Nat) : Prop := SpanOk x t ∧ ∃ c, loB x t ≤ c ∧ c ≤ hiB5u x t ∧ sizeN c = sizeB x
theorem sizeB_cases (x : Nat) (hx : x < 256) : (x < 128 ∧ sizeB x = 1 ∧ leadB x = x) ∨ (128 ≤ x ∧ x < 192 ∧ sizeB x = 0) ∨ (192 ≤ x ∧ x < 224 ∧ sizeB x = 2 ∧ leadB x = x - 192) ∨ (224 ≤ x ∧ x < 240 ∧ sizeB x = 3 ∧ leadB x = x - 224) ∨ (240 ≤ x ∧ x < 248 ∧ sizeB x = 4 ∧ leadB x = x - 240) ∨ (248 ≤ x ∧ sizeB x = 0) := by
 unfold sizeB leadB
 by_cases h1 : x < 128
 ·rw [if_pos h1, if_pos h1]; omega
 rw [if_neg h1, if_neg h1]
 by_cases h2 : x < 192
 ·rw [if_pos h2]; omega
 rw [if_neg h2]
 by_cases h3 : x < 224
 ·rw [if_pos h3, if_pos h3]; omega
 rw [if_neg h3, if_neg h3]
 by_cases h4 : x < 240
 ·rw [if_pos h4, if_pos h4]; omega
 rw [if_neg h4, if_neg h4]
 by_cases h5 : x < 248
 ·rw [if_pos h5]; omega
 rw [if_neg h5]; omega
/-- sizeN, told by bounds. -/
theorem sizeN_iff (c : Nat) : (sizeN c = 1 ↔ c < 128) ∧ (sizeN c = 2 ↔ 128 ≤ c ∧ c < 2048) ∧ (sizeN c = 3 ↔ 2048 ≤ c ∧ c < 65536 ∧ ¬ (55296 ≤ c ∧ c ≤ 57343)) ∧ (sizeN c = 4 ↔ 65536 ≤ c ∧ c ≤ 1114111) := by
 unfold sizeN
 split
 ·omega
 ·split
  ·omega
  ·split
   ·omega
   ·split <;> omega
theorem pow64u : (64 : Nat) ^ 0 = 1 ∧ (64 : Nat) ^ 1 = 64 ∧ (64 : Nat) ^ 2 = 4096 ∧ (64 : Nat) ^ 3 = 262144 := by decide
theorem stp_none {q : Q5} {x : Nat} (h : stp q x = none) : (q.left = 0 → (128 ≤ x ∧ x < 194) ∨ 244 < x) ∧ (q.left ≠ 0 → x < q.lo ∨ q.hi < x) := by
 unfold stp at h
 split at h
 ·rename_i h0
  refine ⟨fun _ => ?_, fun k => absurd h0 k⟩
  unfold begQ at h
  split at h
  ·omega
  ·split at h
   ·cases h
   ·split at h
    ·cases h
    ·split at h
     ·cases h
     ·split at h
      ·omega
      ·cases h
 ·rename_i h0
  refine ⟨fun k => absurd k h0, fun _ => ?_⟩
  split at h
  ·assumption
  ·cases h
theorem stp_some {q q' : Q5} {x : Nat} (h : stp q x = some q') : (q.left = 0 → x < 128 ∧ q' = q ∨ 194 ≤ x ∧ x < 224 ∧ q'.left = 1 ∨ 224 ≤ x ∧ x < 240 ∧ q'.left = 2 ∨ 240 ≤ x ∧ x ≤ 244 ∧ q'.left = 3) ∧ (q.left ≠ 0 → q.lo ≤ x ∧ x ≤ q.hi ∧ q'.left = q.left - 1) := by
 unfold stp at h
 split at h
 ·rename_i h0
  refine ⟨fun _ => ?_, fun k => absurd h0 k⟩
  unfold begQ at h
  split at h
  ·cases h
  ·split at h
   ·cases h; right; right; right; exact ⟨by omega, by omega, rfl⟩
   ·split at h
    ·cases h; right; right; left; exact ⟨by omega, by omega, rfl⟩
    ·split at h
     ·cases h; right; left; exact ⟨by omega, by omega, rfl⟩
     ·split at h
      ·cases h
      ·cases h; left; exact ⟨by omega, rfl⟩
 ·rename_i h0
  refine ⟨fun k => absurd k h0, fun _ => ?_⟩
  split at h
  ·cases h
  ·cases h; exact ⟨by omega, by omega, rfl⟩
/-- The list of the bytes behind the first one. -/
theorem begins_none {b : List Nat} {q : Q5} {r x : Nat} (h : FormAt b q r) (hx : x < 256) (hs : stp q x = none) (y : Nat) (t : List Nat) (e : b ++ [x] = y :: t) (hy : y < 256) : ¬ SomeB y t := by
 rintro ⟨⟨h1, h2⟩, c, h3, h4, h5⟩
 obtain ⟨p0, p1, p2, p3⟩ := pow64u
 obtain ⟨n1, n2, n3, n4⟩ := sizeN_iff c
 have hn := stp_none hs
 have hc := sizeB_cases y hy
 match b, h with
 | [], h =>
  obtain ⟨rfl, rfl⟩ : x = y ∧ [] = t := by simpa using e
  have hn := hn.1 h
  unfold loB hiB5u accB at *
  simp only [List.foldl_nil, List.length_nil] at *
  rcases hc with ⟨a, b, d⟩ | ⟨a, b, d⟩ | ⟨a, b, d, f⟩ | ⟨a, b, d, f⟩ | ⟨a, b, d, f⟩ | ⟨a, b⟩
  ·omega
  ·omega
  ·rw [d] at h3 h4 h5; simp only [Nat.reduceAdd, Nat.reduceSub] at h3 h4; rw [f] at h3 h4; omega
  ·omega
  ·rw [d] at h3 h4 h5; simp only [Nat.reduceAdd, Nat.reduceSub] at h3 h4; rw [f] at h3 h4; omega
  ·omega
 | [u], h =>
  obtain ⟨rfl, rfl⟩ : u = y ∧ [x] = t := by simpa using e
  have hx2 := h1 x (by simp)
  have l1 := secLo_ge u
  have l2 := secHi_le u
  have fs := sec_facts u
  have fm := sec_more u
  unfold loB hiB5u accB at *
  simp only [List.foldl_nil, List.foldl_cons, List.length_nil, List.length_cons] at *
  rcases h with ⟨a, b, rfl, _⟩ | ⟨a, b, rfl, _⟩ | ⟨a, b, rfl, _⟩
  ·have hn := hn.2 (by simp)
   have m1 := fm.1 (by omega) (by omega)
   have m2 := fm.2 (by omega) (by omega)
   simp only at hn
   omega
  ·have hn : x < secLo u ∨ secHi u < x := hn.2 (by simp)
   obtain ⟨d, f⟩ : sizeB u = 3 ∧ leadB u = u - 224 := by omega
   rw [d] at h3 h4 h5
   simp only [Nat.reduceAdd, Nat.reduceSub] at h3 h4
   rw [f] at h3 h4
   by_cases k1 : u = 224
   ·have := fs.1 k1; have := fm.2 (by omega) (by omega); omega
   ·have g1 := fm.1 k1 (by omega)
    by_cases k2 : u = 237
    ·have := fs.2.2.1 k2; omega
    ·have := fm.2 k2 (by omega); omega
  ·have hn : x < secLo u ∨ secHi u < x := hn.2 (by simp)
   obtain ⟨d, f⟩ : sizeB u = 4 ∧ leadB u = u - 240 := by omega
   rw [d] at h3 h4 h5
   simp only [Nat.reduceAdd, Nat.reduceSub] at h3 h4
   rw [f] at h3 h4
   by_cases k1 : u = 240
   ·have := fs.2.1 k1; have := fm.2 (by omega) (by omega); omega
   ·have g1 := fm.1 (by omega) k1
    by_cases k2 : u = 244
    ·have := fs.2.2.2 k2; omega
    ·have := fm.2 (by omega) k2; omega
 | [u, v], h =>
  obtain ⟨rfl, rfl⟩ : u = y ∧ [v, x] = t := by simpa using e
  have hx2 := h1 x (by simp)
  obtain ⟨_, _, h⟩ := h
  rcases h with ⟨a, b, rfl, _⟩ | ⟨a, b, rfl, _⟩ <;> (have hn : x < 128 ∨ 191 < x := hn.2 (by simp)) <;> omega
 | [u, v, z], h =>
  obtain ⟨rfl, rfl⟩ : u = y ∧ [v, z, x] = t := by simpa using e
  have hx2 := h1 x (by simp)
  obtain ⟨_, _, _, _, a, b, rfl, _⟩ := h
  have hn : x < 128 ∨ 191 < x := hn.2 (by simp)
  omega
set_option maxRecDepth 10000 in
theorem begins_some {b : List Nat} {q q' : Q5} {r x : Nat} (h : FormAt b q r) (hx : x < 256) (hs : stp q x = some q') (y : Nat) (t : List Nat) (e : b ++ [x] = y :: t) (hy : y < 256) :
  SomeB y t ∧ (t.length + 1 = sizeB y ↔ q'.left = 0) ∧ (q'.left = 0 → loB y t = nextR b r x q'.left ∧ hiB5u y t = nextR b r x q'.left) := by
 obtain ⟨p0, p1, p2, p3⟩ := pow64u
 have hc := sizeB_cases y hy
 obtain ⟨m0, m1, m2, m3⟩ := mask_first hx
 have hn := stp_some hs
 match b, h with
 | [], h =>
  obtain ⟨rfl, rfl⟩ : x = y ∧ [] = t := by simpa using e
  have hn := hn.1 h
  have h : q.left = 0 := h
  unfold SomeB SpanOk loB hiB5u accB nextR
  simp only [List.foldl_nil, List.length_nil, if_true, Nat.zero_add]
  have ho : okC [] := fun y hy => by cases hy
  rcases hn with ⟨a, rfl⟩ | ⟨a, b, d⟩ | ⟨a, b, d⟩ | ⟨a, b, d⟩
  ·obtain ⟨s1, s2⟩ : sizeB x = 1 ∧ leadB x = x := by omega
   rw [s1, s2, h, m0 a]
   simp only [Nat.reduceSub, p0, Nat.mul_one, Nat.add_sub_cancel]
   exact ⟨⟨⟨ho, by omega⟩, x, by omega, by omega, (sizeN_iff x).1.2 a⟩, by simp, fun _ => ⟨trivial, trivial⟩⟩
  ·obtain ⟨s1, s2⟩ : sizeB x = 2 ∧ leadB x = x - 192 := by omega
   rw [s1, s2]
   simp only [Nat.reduceSub, p1]
   exact ⟨⟨⟨ho, by omega⟩, (x - 192) * 64, by omega, by omega, (sizeN_iff _).2.1.2 (by omega)⟩, by omega, by omega⟩
  ·obtain ⟨s1, s2⟩ : sizeB x = 3 ∧ leadB x = x - 224 := by omega
   rw [s1, s2]
   simp only [Nat.reduceSub, p2]
   refine ⟨⟨⟨ho, by omega⟩, max 2048 ((x - 224) * 4096), by omega, by omega, (sizeN_iff _).2.2.1.2 (by omega)⟩, by omega, by omega⟩
  ·obtain ⟨s1, s2⟩ : sizeB x = 4 ∧ leadB x = x - 240 := by omega
   rw [s1, s2]
   simp only [Nat.reduceSub, p3]
   refine ⟨⟨⟨ho, by omega⟩, max 65536 ((x - 240) * 262144), by omega, by omega, (sizeN_iff _).2.2.2.2 (by omega)⟩, by omega, by omega⟩
 | [u], h =>
  obtain ⟨rfl, rfl⟩ : u = y ∧ [x] = t := by simpa using e
  have l1 := secLo_ge u
  have l2 := secHi_le u
  have fs := sec_facts u
  have fm := sec_more u
  unfold SomeB SpanOk loB hiB5u accB nextR
  simp only [List.foldl_nil, List.foldl_cons, List.length_nil, List.length_cons, Nat.zero_add, Nat.reduceAdd]
  rw [if_neg (by simp)]
  rcases h with ⟨a, b, rfl, rfl⟩ | ⟨a, b, rfl, rfl⟩ | ⟨a, b, rfl, rfl⟩
  ·obtain ⟨k1, k2, k3⟩ : secLo u ≤ x ∧ x ≤ secHi u ∧ q'.left = 1 - 1 := hn.2 (by simp)
   have ho : okC [x] := okC_snoc (t := []) (fun y hy => by cases hy) (by omega) (by omega)
   obtain ⟨s1, s2⟩ : sizeB u = 2 ∧ leadB u = u - 192 := by omega
   rw [s1, s2]
   simp only [Nat.reduceSub, p0, Nat.mul_one, Nat.add_sub_cancel]
   refine ⟨⟨⟨ho, by omega⟩, (u - 192) * 64 + (x - 128), by omega, by omega, (sizeN_iff _).2.1.2 (by omega)⟩, ⟨fun _ => by omega, fun _ => trivial⟩, by omega⟩
  ·obtain ⟨k1, k2, k3⟩ : secLo u ≤ x ∧ x ≤ secHi u ∧ q'.left = 2 - 1 := hn.2 (by simp)
   have ho : okC [x] := okC_snoc (t := []) (fun y hy => by cases hy) (by omega) (by omega)
   obtain ⟨s1, s2⟩ : sizeB u = 3 ∧ leadB u = u - 224 := by omega
   rw [s1, s2]
   simp only [Nat.reduceSub, p1]
   refine ⟨⟨⟨ho, by omega⟩, ((u - 224) * 64 + (x - 128)) * 64, by omega, by omega, (sizeN_iff _).2.2.1.2 ?_⟩, by omega, by omega⟩
   omega
  ·obtain ⟨k1, k2, k3⟩ : secLo u ≤ x ∧ x ≤ secHi u ∧ q'.left = 3 - 1 := hn.2 (by simp)
   have ho : okC [x] := okC_snoc (t := []) (fun y hy => by cases hy) (by omega) (by omega)
   obtain ⟨s1, s2⟩ : sizeB u = 4 ∧ leadB u = u - 240 := by omega
   rw [s1, s2]
   simp only [Nat.reduceSub, p2]
   refine ⟨⟨⟨ho, by omega⟩, ((u - 240) * 64 + (x - 128)) * 4096, by omega, by omega, (sizeN_iff _).2.2.2.2 ?_⟩, by omega, by omega⟩
   omega
 | [u, v], h =>
  obtain ⟨rfl, rfl⟩ : u = y ∧ [v, x] = t := by simpa using e
  obtain ⟨k1, k2, h⟩ := h
  have l1 := secLo_ge u
  have l2 := secHi_le u
  have fs := sec_facts u
  unfold SomeB SpanOk loB hiB5u accB nextR
  simp only [List.foldl_nil, List.foldl_cons, List.length_nil, List.length_cons, Nat.zero_add, Nat.reduceAdd]
  rw [if_neg (by simp)]
  rcases h with ⟨a, b, rfl, rfl⟩ | ⟨a, b, rfl, rfl⟩
  ·obtain ⟨k3, k4, k5⟩ : 128 ≤ x ∧ x ≤ 191 ∧ q'.left = 1 - 1 := hn.2 (by simp)
   have ho : okC [v, x] := okC_snoc (t := [v]) (okC_snoc (t := []) (fun y hy => by cases hy) (by omega) (by omega)) (by omega) (by omega)
   obtain ⟨s1, s2⟩ : sizeB u = 3 ∧ leadB u = u - 224 := by omega
   rw [s1, s2]
   simp only [Nat.reduceSub, p0, Nat.mul_one, Nat.add_sub_cancel]
   refine ⟨⟨⟨ho, by omega⟩, ((u - 224) * 64 + (v - 128)) * 64 + (x - 128), by omega, by omega, (sizeN_iff _).2.2.1.2 ?_⟩, ⟨fun _ => by omega, fun _ => trivial⟩, by omega⟩
   omega
  ·obtain ⟨k3, k4, k5⟩ : 128 ≤ x ∧ x ≤ 191 ∧ q'.left = 2 - 1 := hn.2 (by simp)
   have ho : okC [v, x] := okC_snoc (t := [v]) (okC_snoc (t := []) (fun y hy => by cases hy) (by omega) (by omega)) (by omega) (by omega)
   obtain ⟨s1, s2⟩ : sizeB u = 4 ∧ leadB u = u - 240 := by omega
   rw [s1, s2]
   simp only [Nat.reduceSub, p1]
   refine ⟨⟨⟨ho, by omega⟩, (((u - 240) * 64 + (v - 128)) * 64 + (x - 128)) * 64, by omega, by omega, (sizeN_iff _).2.2.2.2 ?_⟩, by omega, by omega⟩
   omega
 | [u, v, z], h =>
  obtain ⟨rfl, rfl⟩ : u = y ∧ [v, z, x] = t := by simpa using e
  obtain ⟨k1, k2, z1, z2, a, b, rfl, rfl⟩ := h
  have l1 := secLo_ge u
  have l2 := secHi_le u
  have fs := sec_facts u
  unfold SomeB SpanOk loB hiB5u accB nextR
  simp only [List.foldl_nil, List.foldl_cons, List.length_nil, List.length_cons, Nat.zero_add, Nat.reduceAdd]
  rw [if_neg (by simp)]
  obtain ⟨k3, k4, k5⟩ : 128 ≤ x ∧ x ≤ 191 ∧ q'.left = 1 - 1 := hn.2 (by simp)
  have ho : okC [v, z, x] := okC_snoc (t := [v, z]) (okC_snoc (t := [v]) (okC_snoc (t := []) (fun y hy => by cases hy) (by omega) (by omega)) (by omega) (by omega)) (by omega) (by omega)
  obtain ⟨s1, s2⟩ : sizeB u = 4 ∧ leadB u = u - 240 := by omega
  rw [s1, s2]
  simp only [Nat.reduceSub, p0, Nat.mul_one, Nat.add_sub_cancel]
  refine ⟨⟨⟨ho, by omega⟩, (((u - 240) * 64 + (v - 128)) * 64 + (z - 128)) * 64 + (x - 128), by omega, by omega, (sizeN_iff _).2.2.2.2 ?_⟩, ⟨fun _ => by omega, fun _ => trivial⟩, by omega⟩
  omega
end Go.Proofs.YtbabdhepnjacdaaDoor
/- How a text is gone through, form by form. -/
namespace Go.Proofs.YtbabdhepnjacdaaDoor
/-- What a text tells: where each character begins, and the character. -/
def telOf (s : ByteArray) : List (Nat × Nat) := tel s5.q 0 0 0 (byts s)
/-- The first i bytes are a beginning; behind the last whole form, at p, stand the bytes b; the forms ahead of it are pre. -/
def WalkAt (s : ByteArray) (p i : Nat) (b : List Nat) (q : Q5) (r : Nat) (pre : List (Nat × Nat)) : Prop :=
 p + b.length = i ∧ i ≤ s.size ∧ b = ((byts s).drop p).take b.length ∧ FormAt b q r ∧ runS s5 ((byts s).take i) = ⟨i, false, q⟩ ∧ telOf s = pre ++ tel q p r i ((byts s).drop i) ∧ pre.length ≤ p
theorem form_nil {b : List Nat} {q : Q5} {r : Nat} (h : FormAt b q r) : b = [] ↔ q.left = 0 := by
 match b, h with
 | [], h => exact ⟨fun _ => h, fun _ => rfl⟩
 | [x], h => rcases h with ⟨_, _, rfl, _⟩ | ⟨_, _, rfl, _⟩ | ⟨_, _, rfl, _⟩ <;> simp
 | [x, y], h => obtain ⟨_, _, ⟨_, _, rfl, _⟩ | ⟨_, _, rfl, _⟩⟩ := h <;> simp
 | [x, y, z], h => obtain ⟨_, _, _, _, _, _, rfl, _⟩ := h; simp
theorem form_len {b : List Nat} {q : Q5} {r : Nat} (h : FormAt b q r) : b.length ≤ 3 := by
 match b, h with
 | [], _ => simp
 | [x], _ => simp
 | [x, y], _ => simp
 | [x, y, z], _ => simp
theorem WalkAt.start (s : ByteArray) : WalkAt s 0 0 [] s5.q 0 [] := ⟨rfl, Nat.zero_le _, rfl, rfl, rfl, rfl, Nat.zero_le _⟩
section
variable {s : ByteArray} {p i : Nat} {b : List Nat} {q : Q5} {r : Nat} {pre : List (Nat × Nat)}
theorem WalkAt.bad (h : WalkAt s p i b q r pre) (hi : i < s.size) (hs : stp q (byt s i) = none) : badOf s = i ∧ telOf s = pre := by
 obtain ⟨h1, h2, h3, h4, h5, h6, h7⟩ := h
 constructor
 ·unfold badOf
  have e : byts s = (byts s).take (i + 1) ++ (byts s).drop (i + 1) := (List.take_append_drop _ _).symm
  rw [e, runS_append, byts_take s i hi, runS_snoc, h5, tk_none rfl hs, runS_wrong rfl]
  rfl
 ·rw [h6, byts_drop s i hi, tel, hs]
  exact List.append_nil _
theorem WalkAt.next (h : WalkAt s p i b q r pre) (hi : i < s.size) {q' : Q5} (hs : stp q (byt s i) = some q') :
  (q'.left = 0 → WalkAt s (i + 1) (i + 1) [] q' (nextR b r (byt s i) q'.left) (pre ++ [(p, nextR b r (byt s i) q'.left)])) ∧
   (q'.left ≠ 0 → WalkAt s p (i + 1) (b ++ [byt s i]) q' (nextR b r (byt s i) q'.left) pre) := by
 obtain ⟨h1, h2, h3, h4, h5, h6, h7⟩ := h
 have hrun : runS s5 ((byts s).take (i + 1)) = ⟨i + 1, false, q'⟩ := by rw [byts_take s i hi, runS_snoc, h5, tk_some rfl hs]
 have hr : (if i = p then byt s i &&& (127 >>> q'.left) else r * 64 + byt s i % 64) = nextR b r (byt s i) q'.left := by
  unfold nextR
  by_cases e : b = []
  ·subst e
   rw [if_pos (by simpa using h1.symm), if_pos rfl]
  ·rw [if_neg e, if_neg]
   intro k
   apply e
   apply List.eq_nil_of_length_eq_zero
   omega
 have hb : b ++ [byt s i] = ((byts s).drop p).take (b ++ [byt s i]).length := by
  have hd := byts_drop s i hi
  rw [List.length_append, List.length_cons, List.length_nil, Nat.zero_add, List.take_add_one, ← h3, List.getElem?_drop, h1, byts_get s i hi]
  rfl
 rcases form_step h4 (byt_lt s i) hs with ⟨a, _, _⟩ | ⟨a, c⟩
 ·refine ⟨fun _ => ⟨rfl, hi, by simp, a, hrun, ?_, by simp; omega⟩, fun k => absurd a k⟩
  rw [h6, byts_drop s i hi, tel, hs]
  simp only [if_pos a]
  rw [hr, List.append_assoc]
  rfl
 ·refine ⟨fun k => by omega, fun _ => ⟨by simp; omega, hi, hb, c, hrun, ?_, h7⟩⟩
  rw [h6, byts_drop s i hi, tel, hs]
  simp only [if_neg (show ¬ q'.left = 0 by omega)]
  rw [hr]
theorem WalkAt.done (h : WalkAt s p s.size b q r pre) : telOf s = pre ∧ badOf s = (if q.left = 0 then -1 else (s.size : Int)) := by
 obtain ⟨h1, h2, h3, h4, h5, h6, h7⟩ := h
 constructor
 ·rw [h6, List.drop_of_length_le (by rw [byts_length]; exact Nat.le_refl _), tel]
  exact List.append_nil _
 ·unfold badOf
  rw [byts_whole] at h5
  rw [h5]
  unfold badI
  by_cases e : q.left = 0
  ·rw [if_pos e, if_neg]
   intro k
   rcases k with k | k
   ·cases k
   ·have : 0 < q.left := k
    omega
  ·rw [if_neg e, if_pos (.inr (by show 0 < q.left; omega))]
end
end Go.Proofs.YtbabdhepnjacdaaDoor
