/-
 How many nodes a trie has: the math.
-/
import Derived.Test.YtbabdhepnjacdaaDoorTjF
namespace Go.Proofs.YtbabdhepnjacdaaDoor
open Go.RowKit Go.Shelf
def HasP (T : List Nod) (p : List Stp) : Prop := ∃ x, PthOf T x p
theorem pth_uniqI {t : List Nod} (hd : (toA t).Nodup) (hto : ToOk t t.length) {x : Nat} {p q : List Stp} (hp : PthOf t x p) (hq : PthOf t x q) : p = q := by
 induction hp generalizing q with
 | root =>
  generalize e : (0 : Nat) = y at hq
  cases hq with
  | root => rfl
  | step hn hx hs h =>
   have := hto _ _ hn _ (List.mem_of_getElem? hx)
   omega
 | step hn hx hs h ih =>
  cases hq with
  | root =>
   have := hto _ _ hn _ (List.mem_of_getElem? hx)
   omega
  | step hn' hx' hs' h' =>
   obtain ⟨rfl, rfl⟩ := to_uniq hd hn hx hn' hx'
   have := hn.symm.trans hn'
   cases this
   have := hs.symm.trans hs'
   cases this
   rw [ih h']
theorem pth_lt {Q : Stp → Prop} {T : List Nod} {k x : Nat} {p : List Stp} (hI : Inv Q T k) (hp : PthOf T x p) : x < T.length := by
 cases hp with
 | root => have := hI.len; omega
 | step hn hx _ _ =>
  have := hI.ok _ _ hn _ (List.mem_of_getElem? hx)
  omega
theorem snoc_inj {α : Type} {p q : List α} {s u : α} (h : p ++ [s] = q ++ [u]) : p = q ∧ s = u := by
 obtain ⟨h1, h2⟩ := List.append_inj' h rfl
 exact ⟨h1, by simpa using h2⟩
theorem pth_inj {T : List Nod} (hnd : ∀ n ∈ T, n.steps.Nodup) {x y : Nat} {p : List Stp} (hp : PthOf T x p) (hq : PthOf T y p) : x = y := by
 induction hp generalizing y with
 | root =>
  generalize e : ([] : List Stp) = q at hq
  cases hq with
  | root => rfl
  | step _ _ _ _ => simp at e
 | @step a j x n s p hn hx hs h ih =>
  generalize e : p ++ [s] = q at hq
  cases hq with
  | root => simp at e
  | @step a' j' _ n' s' p' hn' hx' hs' h' =>
   obtain ⟨rfl, rfl⟩ := snoc_inj e
   obtain rfl := ih h'
   have := hn.symm.trans hn'
   cases this
   obtain ⟨l1, e1⟩ := List.getElem?_eq_some_iff.1 hs
   obtain ⟨l2, e2⟩ := List.getElem?_eq_some_iff.1 hs'
   have hp := List.pairwise_iff_getElem.1 (hnd n (List.mem_of_getElem? hn))
   have hjj : j = j' := by
    rcases Nat.lt_trichotomy j j' with h | h | h
    ·exact absurd (e1.trans e2.symm) (hp j j' l1 l2 h)
    ·exact h
    ·exact absurd (e2.trans e1.symm) (hp j' j l2 l1 h)
   subst hjj
   have := hx.symm.trans hx'
   simp at this
   omega
theorem nx_old {Q : Stp → Prop} {T : List Nod} {k a : Nat} {s : Stp} {n : Nod} {p : List Stp} (hI : Inv Q T k) (hn : T[a]? = some n) (hp : PthOf T a p) {x : Nat} {q : List Stp}
  (h : PthOf (T.set a ⟨n.steps ++ [s], n.tos ++ [(T.length : Int)], n.ends⟩ ++ [nulN]) x q) : PthOf T x q ∨ (x = T.length ∧ q = p ++ [s]) := by
 have haT := (List.getElem?_eq_some_iff.1 hn).1
 induction h with
 | root => exact .inl .root
 | @step a1 j x n1 s1 q1 hn1 hx1 hs1 h1 ih =>
  rcases ih with h | ⟨rfl, -⟩
  ·have ha1 := pth_lt hI h
   rw [List.getElem?_append_left (by rw [List.length_set]; exact ha1)] at hn1
   by_cases e : a1 = a
   ·subst e
    rw [List.getElem?_set_self haT] at hn1
    cases hn1
    have hl := (hI.nd n (List.mem_of_getElem? hn)).1
    dsimp only at hx1 hs1
    by_cases hj : j < n.steps.length
    ·rw [List.getElem?_append_left hj] at hs1
     rw [List.getElem?_append_left (by omega)] at hx1
     exact .inl (.step hn hx1 hs1 h)
    ·have hj2 := (List.getElem?_eq_some_iff.1 hs1).1
     rw [List.length_append, List.length_singleton] at hj2
     obtain rfl : j = n.steps.length := by omega
     rw [List.getElem?_append_right (Nat.le_refl _)] at hs1
     rw [hl, List.getElem?_append_right (Nat.le_refl _)] at hx1
     simp at hs1 hx1
     subst hs1
     rw [pth_uniqI hI.dup hI.ok h hp]
     exact .inr ⟨by omega, rfl⟩
   ·rw [List.getElem?_set_ne (fun h => e h.symm)] at hn1
    exact .inl (.step hn1 hx1 hs1 h)
  ·rw [List.getElem?_append_right (by rw [List.length_set]; exact Nat.le_refl _)] at hn1
   simp at hn1
   subst hn1
   simp [nulN] at hx1
theorem has_grow {T T' : List Nod} {a r : Nat} {s : Stp} (h : NxT T a s T' r) {x : Nat} {q : List Stp} (hq : PthOf T x q) : PthOf T' x q :=
 hq.grow (fun b n hn => by obtain ⟨n', h1, h2, h3, -⟩ := nx_grow h b n hn; exact ⟨n', h1, h2, h3⟩)
theorem nx_has {Q : Stp → Prop} {T T' : List Nod} {k a r : Nat} {s : Stp} {p : List Stp} (hI : Inv Q T k) (h : NxT T a s T' r) (hp : PthOf T a p) (q : List Stp) : HasP T' q ↔ HasP T q ∨ q = p ++ [s] := by
 constructor
 ·rintro ⟨x, hx⟩
  rcases h with ⟨n, j, -, -, -, rfl⟩ | ⟨n, hn, -, -, rfl⟩
  ·exact .inl ⟨x, hx⟩
  ·rcases nx_old hI hn hp hx with h | ⟨-, h⟩
   ·exact .inl ⟨x, h⟩
   ·exact .inr h
 ·rintro (⟨x, hx⟩ | rfl)
  ·exact ⟨x, has_grow h hx⟩
  ·exact ⟨r, nx_pth hI h hp⟩
theorem nx_len {Q : Stp → Prop} {T T' : List Nod} {k a r : Nat} {s : Stp} {p : List Stp} (hI : Inv Q T k) (h : NxT T a s T' r) (hp : PthOf T a p) : (HasP T (p ++ [s]) → T'.length = T.length) ∧ (¬ HasP T (p ++ [s]) → T'.length = T.length + 1) := by
 have h0 := h
 rcases h with ⟨n, j, hn, hs, hx, rfl⟩ | ⟨n, hn, hsn, -, rfl⟩
 ·exact ⟨fun _ => rfl, fun hno => absurd ⟨r, PthOf.step hn hx hs hp⟩ hno⟩
 ·refine ⟨fun ⟨y, hy⟩ => ?_, fun _ => by rw [List.length_append, List.length_set]; rfl⟩
  exfalso
  generalize e : p ++ [s] = q at hy
  cases hy with
  | root => simp at e
  | @step a' j' _ n' s' p' hn' hx' hs' h' =>
   obtain ⟨rfl, rfl⟩ := snoc_inj e
   obtain rfl := pth_inj (fun n hn => (hI.nd n hn).2) hp h'
   have := hn.symm.trans hn'
   cases this
   exact hsn (List.mem_of_getElem? hs')
theorem pre_snoc {α : Type} (q p : List α) (s : α) : q <+: p ++ [s] ↔ q <+: p ∨ q = p ++ [s] := by
 rw [List.prefix_concat_iff]
 exact Or.comm
theorem ins_has {T T' : List Nod} {k c : Nat} {p : List Stp} (hI : Inv (fun _ => True) T k) (h : InsS T p T' c) : ∀ q, HasP T' q ↔ HasP T q ∨ q <+: p := by
 induction h with
 | nil =>
  intro q
  constructor
  ·exact .inl
  ·rintro (h | h)
   ·exact h
   ·rw [List.prefix_nil.1 h]; exact ⟨0, .root⟩
 | snoc hi hk ih =>
  intro q
  rw [nx_has (hI.ins hi (fun _ _ => trivial)) hk (ins_pth hI hi (fun _ _ => trivial)), ih, pre_snoc, or_assoc]
theorem ins_len2 {T T' : List Nod} {k c : Nat} {p : List Stp} (hI : Inv (fun _ => True) T k) (h : InsS T p T' c) : ∀ K, K ≤ p.length → (∀ i, i ≤ p.length → (HasP T (p.take i) ↔ i ≤ K)) → T'.length + K = T.length + p.length := by
 induction h with
 | nil => intro K hK _; simp at hK; simp [hK]
 | @snoc p s T1 T2 c r hi hk ih =>
  intro K hK hall
  have hI1 := hI.ins hi (fun _ _ => trivial)
  have hp1 := ins_pth hI hi (fun _ _ => trivial)
  have hln := nx_len hI1 hk hp1
  have hh := ins_has hI hi (p ++ [s])
  have hno : ¬ (p ++ [s]) <+: p := fun h => by have := h.length_le; simp at this; omega
  have hlast := hall (p ++ [s]).length (Nat.le_refl _)
  rw [List.take_length] at hlast
  have hsub : ∀ i, i ≤ p.length → (HasP T (p.take i) ↔ i ≤ K) := fun i hi' => by
   have := hall i (by rw [List.length_append, List.length_singleton]; omega)
   rwa [List.take_append_of_le_length hi'] at this
  rw [List.length_append, List.length_singleton] at hK hlast ⊢
  by_cases hKp : K ≤ p.length
  ·have h1 := ih K hKp hsub
   have h2 := hln.2 (fun h => by
    rcases hh.1 h with h | h
    ·have := hlast.1 h; omega
    ·exact hno h)
   omega
  ·obtain rfl : K = p.length + 1 := by omega
   have h1 := ih p.length (Nat.le_refl _) (fun i hi' => ⟨fun _ => hi', fun _ => (hsub i hi').2 (by omega)⟩)
   have h2 := hln.1 (hh.2 (.inl (hlast.2 (Nat.le_refl _))))
   omega
theorem set_has {T : List Nod} {c : Nat} {n : Nod} (e : List Int) (hn : T[c]? = some n) (q : List Stp) : HasP (T.set c ⟨n.steps, n.tos, e⟩) q ↔ HasP T q := by
 have hc := (List.getElem?_eq_some_iff.1 hn).1
 constructor
 ·rintro ⟨x, hx⟩
  refine ⟨x, hx.grow (fun b m hm => ?_)⟩
  by_cases hb : b = c
  ·subst hb
   rw [List.getElem?_set_self hc] at hm
   cases hm
   exact ⟨n, hn, fun _ _ h => h, fun _ _ h => h⟩
  ·rw [List.getElem?_set_ne (fun h => hb h.symm)] at hm
   exact ⟨m, hm, fun _ _ h => h, fun _ _ h => h⟩
 ·rintro ⟨x, hx⟩
  refine ⟨x, hx.grow (fun b m hm => ?_)⟩
  by_cases hb : b = c
  ·subst hb
   have := hn.symm.trans hm
   cases this
   exact ⟨_, List.getElem?_set_self hc, fun _ _ h => h, fun _ _ h => h⟩
  ·exact ⟨m, by rw [List.getElem?_set_ne (fun h => hb h.symm)]; exact hm, fun _ _ h => h, fun _ _ h => h⟩
theorem bld_has {L : List (List Stp)} {T : List Nod} (h : BldT L T) : ∀ q, HasP T q ↔ q = [] ∨ ∃ l ∈ L, q <+: l := by
 induction h with
 | nil =>
  intro q
  constructor
  ·rintro ⟨x, hx⟩
   cases hx with
   | root => exact .inl rfl
   | @step a _ _ n _ _ hn hx _ _ =>
    match a, hn with
    | 0, hn => simp at hn; subst hn; simp [nulN] at hx
    | a + 1, hn => simp at hn
  ·rintro (rfl | ⟨l, h, -⟩)
   ·exact ⟨0, .root⟩
   ·simp at h
 | @snoc L p T T1 c n h k hn ih =>
  intro q
  rw [set_has _ hn, ins_has (h.inv (fun _ _ _ _ => trivial)) k, ih]
  constructor
  ·rintro ((h | ⟨l, h1, h2⟩) | h)
   ·exact .inl h
   ·exact .inr ⟨l, List.mem_append_left _ h1, h2⟩
   ·exact .inr ⟨p, by simp, h⟩
  ·rintro (h | ⟨l, h1, h2⟩)
   ·exact .inl (.inl h)
   ·rcases List.mem_append.1 h1 with h1 | h1
    ·exact .inl (.inr ⟨l, h1, h2⟩)
    ·rw [List.mem_singleton.1 h1] at h2
     exact .inr h2
theorem bld_pre {L : List (List Stp)} {T : List Nod} (h : BldT L T) : ∀ i, i ≤ L.length → ∃ Ti, BldT (L.take i) Ti := by
 induction h with
 | nil => exact fun i hi => ⟨_, by rw [List.take_nil]; exact .nil⟩
 | @snoc L p T T1 c n h k hn ih =>
  intro i hi
  by_cases e : i ≤ L.length
  ·rw [List.take_append_of_le_length e]
   exact ih i e
  ·rw [List.take_of_length_le (by rw [List.length_append, List.length_singleton]; omega)]
   exact ⟨_, .snoc h k hn⟩
/-- The longest beginning that a path has in common with one of some. -/
def IsMost (A : List (List Stp)) (p : List Stp) (m : Nat) : Prop := m ≤ p.length ∧ ∀ i, i ≤ p.length → ((i = 0 ∨ ∃ l ∈ A, p.take i <+: l) ↔ i ≤ m)
def IsB (a b : List Stp) (n : Nat) : Prop := n ≤ a.length ∧ ∀ i, i ≤ a.length → (a.take i <+: b ↔ i ≤ n)
theorem most_nil (p : List Stp) : IsMost [] p 0 := ⟨Nat.zero_le _, fun i _ => by simp⟩
theorem most_snoc {A : List (List Stp)} {p l : List Stp} {m n : Nat} (h : IsMost A p m) (hb : IsB p l n) : IsMost (A ++ [l]) p (max m n) := by
 refine ⟨Nat.max_le.2 ⟨h.1, hb.1⟩, fun i hi => ?_⟩
 have h1 := h.2 i hi
 have h2 := hb.2 i hi
 constructor
 ·rintro (h0 | ⟨l', hl, hp⟩)
  ·omega
  ·rcases List.mem_append.1 hl with hl | hl
   ·have := h1.1 (.inr ⟨l', hl, hp⟩); omega
   ·rw [List.mem_singleton.1 hl] at hp
    have := h2.1 hp; omega
 ·intro hm
  by_cases e : i ≤ m
  ·rcases h1.2 e with h0 | ⟨l', hl, hp⟩
   ·exact .inl h0
   ·exact .inr ⟨l', List.mem_append_left _ hl, hp⟩
  ·exact .inr ⟨l, by simp, h2.2 (by omega)⟩
theorem pre_take {a b : List Stp} {i : Nat} (hi : i ≤ a.length) : a.take i <+: b ↔ a.take i = b.take i := by
 rw [List.prefix_iff_eq_take, List.length_take, Nat.min_eq_left hi]
theorem isB_end {a b : List Stp} {n : Nat} (hna : n ≤ a.length) (he : a.take n = b.take n) (hx : n = a.length ∨ b.length ≤ n ∨ a[n]? ≠ b[n]?) : IsB a b n := by
 refine ⟨hna, fun i hi => ?_⟩
 rw [pre_take hi]
 constructor
 ·intro h
  refine Classical.byContradiction fun hn => ?_
  rcases hx with rfl | hx | hx
  ·exact hn hi
  ·have := congrArg List.length h
   rw [List.length_take, List.length_take] at this
   omega
  ·have := congrArg (fun l => l[n]?) h
   simp only [List.getElem?_take, if_pos (show n < i by omega)] at this
   exact hx this
 ·intro h
  have := congrArg (List.take i) he
  rwa [List.take_take, List.take_take, Nat.min_eq_left h] at this
theorem bld_step {A : List (List Stp)} {p : List Stp} {T T' : List Nod} {m : Nat} (h : BldT A T) (h' : BldT (A ++ [p]) T') (hm : IsMost A p m) : T'.length + m = T.length + p.length := by
 generalize e : A ++ [p] = X at h'
 cases h' with
 | nil => simp at e
 | @snoc L q T0 T1 c n h0 k hn =>
  obtain ⟨rfl, rfl⟩ := snoc_inj e
  obtain rfl := bld_fun h h0
  rw [List.length_set]
  refine ins_len2 (h.inv (fun _ _ _ _ => trivial)) k m hm.1 (fun i hi => ?_)
  rw [bld_has h, ← hm.2 i hi, List.take_eq_nil_iff]
  constructor
  ·rintro ((h | h) | h)
   ·exact .inl h
   ·rw [h] at hi; simp at hi; exact .inl hi
   ·exact .inr h
  ·rintro (h | h)
   ·exact .inl (.inl h)
   ·exact .inr h
theorem all_pth {T : List Nod} (hf : FrmR T) : ∀ x, x < T.length → ∃ p, PthOf T x p := by
 intro x
 induction x using Nat.strongRecOn with
 | _ x ih =>
  intro hx
  by_cases h0 : x = 0
  ·subst h0; exact ⟨[], .root⟩
  ·have h1 := hf.2.2.2.1 x (by omega) hx
   have h2 := List.count_pos_iff.1 (show 0 < (toA T).count (x : Int) by omega)
   obtain ⟨n, hn, hxn⟩ := List.mem_flatMap.1 h2
   obtain ⟨a, ha, e⟩ := List.mem_iff_getElem.1 hn
   have hna : T[a]? = some n := by rw [List.getElem?_eq_getElem ha, e]
   obtain ⟨j, hj, e2⟩ := List.mem_iff_getElem.1 hxn
   have hok := hf.2.2.1 a n hna
   have hlt := (hok.2.2.2.1 _ hxn).1
   obtain ⟨p, hp⟩ := ih a (by omega) ha
   exact ⟨_, .step hna (by rw [List.getElem?_eq_getElem hj, e2]) (List.getElem?_eq_getElem (by rw [hok.1]; exact hj)) hp⟩
theorem len_le {L X : List (List Stp)} {T U : List Nod} (h : BldT L T) (h' : BldT X U) (hf : FrmR T) (hs : ∀ p, p ∈ L → p ∈ X) : T.length ≤ U.length := by
 classical
 have hI := h.inv (Q := fun _ => True) (fun _ _ _ _ => trivial)
 have hI' := h'.inv (Q := fun _ => True) (fun _ _ _ _ => trivial)
 have key : ∀ x, x < T.length → ∃ y : Nat, ∃ p, PthOf T x p ∧ PthOf U y p := fun x hx => by
  obtain ⟨p, hp⟩ := all_pth hf x hx
  have h1 := (bld_has h p).1 ⟨x, hp⟩
  obtain ⟨y, hy⟩ := (bld_has h' p).2 (h1.imp (fun h => h) (fun ⟨l, hl, hpl⟩ => ⟨l, hs l hl, hpl⟩))
  exact ⟨y, p, hp, hy⟩
 let F : Nat → Int := fun x => if hx : x < T.length then ((Classical.choose (key x hx) : Nat) : Int) else 0
 have hF : ∀ x (hx : x < T.length), ∃ y : Nat, F x = (y : Int) ∧ ∃ p, PthOf T x p ∧ PthOf U y p := fun x hx => ⟨_, dif_pos hx, Classical.choose_spec (key x hx)⟩
 have hl := pig_len U.length ((List.range T.length).map F) ?_ ?_
 ·simpa using hl
 ·have hr : (List.range T.length).Pairwise (fun a b => a ∈ List.range T.length ∧ b ∈ List.range T.length ∧ a ≠ b) := List.Pairwise.and_mem.1 List.nodup_range
  refine List.Pairwise.map _ (fun a b hab e => ?_) hr
  obtain ⟨ha, hb, hne⟩ := hab
  obtain ⟨y, e1, p, p1, p2⟩ := hF a (List.mem_range.1 ha)
  obtain ⟨y', e1', p', p1', p2'⟩ := hF b (List.mem_range.1 hb)
  have hyy : y = y' := by have := e1.symm.trans (e.trans e1'); omega
  subst hyy
  obtain rfl := pth_uniqI hI'.dup hI'.ok p2 p2'
  exact hne (pth_inj (fun n hn => (hI.nd n hn).2) p1 p1')
 ·intro z hz
  obtain ⟨x, hx, rfl⟩ := List.mem_map.1 hz
  obtain ⟨y, e1, p, -, p2⟩ := hF x (List.mem_range.1 hx)
  have := pth_lt hI' p2
  omega
/-- A list, from its place r on. -/
def rotL (L : List (List Stp)) (r : Nat) : List (List Stp) := L.drop r ++ L.take r
theorem rot_mem (L : List (List Stp)) (r : Nat) (p : List Stp) : p ∈ rotL L r ↔ p ∈ L := by
 have h : p ∈ L ↔ p ∈ L.take r ++ L.drop r := by rw [List.take_append_drop]
 rw [h]
 unfold rotL
 rw [List.mem_append, List.mem_append]
 exact Or.comm
theorem rot_len (L : List (List Stp)) (r : Nat) : (rotL L r).length = L.length := by
 unfold rotL
 rw [List.length_append, List.length_drop, List.length_take]
 omega
theorem rot_get {L : List (List Stp)} {r i : Nat} (hr : r < L.length) (hi : i < L.length) : (rotL L r)[i]? = L[(i + r) % L.length]? := by
 unfold rotL
 by_cases h : i + r < L.length
 ·rw [List.getElem?_append_left (by rw [List.length_drop]; omega), List.getElem?_drop, Nat.mod_eq_of_lt h, Nat.add_comm]
 ·rw [List.getElem?_append_right (by rw [List.length_drop]; omega), List.length_drop, List.getElem?_take_of_lt (by omega)]
  have : (i + r) % L.length = i + r - L.length := by rw [Nat.mod_eq_sub_mod (by omega), Nat.mod_eq_of_lt (by omega)]
  rw [this]
  congr 1
  omega
theorem rot_mid {L : List (List Stp)} {r : Nat} (h : MidP L) : MidP (rotL L r) := by
 obtain ⟨h1, h2, h3⟩ := h
 refine ⟨?_, fun p hp => h2 p ((rot_mem L r p).1 hp), fun p hp => h3 p ((rot_mem L r p).1 hp)⟩
 have e : (L.map List.length).sum = ((L.take r).map List.length).sum + ((L.drop r).map List.length).sum := by rw [← List.sum_append, ← List.map_append, List.take_append_drop]
 unfold rotL
 rw [List.map_append, List.sum_append]
 omega
end Go.Proofs.YtbabdhepnjacdaaDoor
