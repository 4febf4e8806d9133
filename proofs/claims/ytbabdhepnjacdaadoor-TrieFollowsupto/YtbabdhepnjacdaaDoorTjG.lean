/-
 To go through a trie with a row: the math.
-/
import Derived.Test.YtbabdhepnjacdaaDoorTjF
namespace Go.Proofs.YtbabdhepnjacdaaDoor
open Go.RowKit Go.Shelf
def tkA (s : Stp) (x : AskZ) : Bool := tkS s x.name x.place x.obj
/-- A path takes a row, one by one. -/
def TkR (p : List Stp) (R : List AskZ) : Prop := p.length = R.length ∧ ∀ (i : Nat) (s : Stp) (x : AskZ), p[i]? = some s → R[i]? = some x → tkA s x = true
theorem tkR_nil (R : List AskZ) : TkR [] R ↔ R = [] := by
 constructor
 ·rintro ⟨h, -⟩
  exact List.length_eq_zero_iff.1 h.symm
 ·rintro rfl
  exact ⟨rfl, fun i s x h => by simp at h⟩
theorem tkR_snoc (p : List Stp) (s : Stp) (R : List AskZ) (x : AskZ) : TkR (p ++ [s]) (R ++ [x]) ↔ TkR p R ∧ tkA s x = true := by
 constructor
 ·rintro ⟨h1, h2⟩
  have hl : p.length = R.length := by simpa using h1
  refine ⟨⟨hl, fun i s' x' hs hx => h2 i s' x' ?_ ?_⟩, h2 p.length s x (by simp) (by rw [hl]; simp)⟩
  ·rw [List.getElem?_append_left (List.getElem?_eq_some_iff.1 hs).1]; exact hs
  ·rw [List.getElem?_append_left (List.getElem?_eq_some_iff.1 hx).1]; exact hx
 ·rintro ⟨⟨h1, h2⟩, h3⟩
  refine ⟨by simp [h1], fun i s' x' hs hx => ?_⟩
  by_cases hi : i < p.length
  ·rw [List.getElem?_append_left hi] at hs
   rw [List.getElem?_append_left (by omega)] at hx
   exact h2 i s' x' hs hx
  ·have hl := (List.getElem?_eq_some_iff.1 hs).1
   rw [List.length_append, List.length_singleton] at hl
   obtain rfl : i = p.length := by omega
   rw [List.getElem?_append_right (Nat.le_refl _)] at hs
   rw [h1, List.getElem?_append_right (Nat.le_refl _)] at hx
   simp at hs hx
   subst hs hx
   exact h3
/-- What Go answers at a node. -/
def goF (t : List Nod) (x : AskZ) (a : Int) : List Int := match t[a.toNat]? with
 | some n => byN (gtL x.name x.place x.obj n.steps n.tos) t.length
 | none => []
def enF (t : List Nod) (a : Int) : List Int := match t[a.toNat]? with
 | some n => n.ends
 | none => []
theorem goF_at {t : List Nod} {k : Nat} {n : Nod} (hn : t[k]? = some n) (x : AskZ) : goF t x (k : Int) = byN (gtL x.name x.place x.obj n.steps n.tos) t.length := by simp [goF, hn]
theorem enF_at {t : List Nod} {k : Nat} {n : Nod} (hn : t[k]? = some n) : enF t (k : Int) = n.ends := by simp [enF, hn]
theorem isGo_eq {t : List Nod} (hf : FrmR t) {k : Nat} {n : Nod} (hn : t[k]? = some n) {x : AskZ} {L : List Int} {E : Int} (h : IsGo t (k : Int) x.name x.place x.obj L E) : L = goF t x (k : Int) ∧ E = 0 := by
 have h2 : IsGo t (k : Int) x.name x.place x.obj (goF t x (k : Int)) 0 := .inr (.inr ⟨hf, k, n, rfl, hn, goF_at hn x, rfl⟩)
 exact h.uniq h2
/-- Where a row comes to. -/
def NowR (t : List Nod) (R : List AskZ) (S : List Int) : Prop := S.Nodup ∧ ∀ a : Int, a ∈ S ↔ ∃ k : Nat, a = (k : Int) ∧ k < t.length ∧ ∃ p, PthOf t k p ∧ TkR p R
theorem gtL_mem (nm : ByteArray) (pl : Int) (ob : Bool) (y : Int) : ∀ (ss : List Stp) (ts : List Int), y ∈ gtL nm pl ob ss ts ↔ ∃ (j : Nat) (s : Stp), ss[j]? = some s ∧ ts[j]? = some y ∧ tkS s nm pl ob = true
 | [], ts => by simp [gtL]
 | _ :: _, [] => by simp [gtL]
 | s :: ss, x :: ts => by
  have ih := gtL_mem nm pl ob y ss ts
  unfold gtL
  constructor
  ·intro h
   split at h
   ·rename_i ht
    rcases List.mem_cons.1 h with rfl | h
    ·exact ⟨0, s, rfl, rfl, ht⟩
    ·obtain ⟨j, s', h1, h2, h3⟩ := ih.1 h
     exact ⟨j + 1, s', by simpa using h1, by simpa using h2, h3⟩
   ·obtain ⟨j, s', h1, h2, h3⟩ := ih.1 h
    exact ⟨j + 1, s', by simpa using h1, by simpa using h2, h3⟩
  ·rintro ⟨j, s', h1, h2, h3⟩
   match j, h1, h2 with
   | 0, h1, h2 =>
    simp at h1 h2
    subst h1 h2
    rw [if_pos h3]
    simp
   | j + 1, h1, h2 =>
    have := ih.2 ⟨j, s', by simpa using h1, by simpa using h2, h3⟩
    split
    ·exact List.mem_cons_of_mem _ this
    ·exact this
theorem now_zero {t : List Nod} (hf : FrmR t) : NowR t [] [0] := by
 refine ⟨by simp, fun a => ?_⟩
 have h0 : 0 < t.length := List.length_pos_iff.2 hf.1
 constructor
 ·intro h
  obtain rfl := List.mem_singleton.1 h
  exact ⟨0, rfl, h0, [], .root, (tkR_nil []).2 rfl⟩
 ·rintro ⟨k, rfl, -, p, hp, hk⟩
  have : p = [] := List.length_eq_zero_iff.1 hk.1
  subst this
  generalize e : ([] : List Stp) = q at hp
  cases hp with
  | root => simp
  | step _ _ _ _ => simp at e
theorem goF_nd {t : List Nod} (hf : FrmR t) (x : AskZ) (a : Int) : (goF t x a).Nodup := by
 unfold goF
 split
 ·rename_i n hn
  exact ris_nodup (byN_ris ((frm_node hf hn).2.1.sublist (gtL_sub _ _ _ _ _)) _)
 ·exact List.nodup_nil
theorem goF_mem {t : List Nod} {x : AskZ} {k : Nat} {y : Int} (h : y ∈ goF t x (k : Int)) : ∃ (n : Nod) (j : Nat) (s : Stp), t[k]? = some n ∧ n.steps[j]? = some s ∧ n.tos[j]? = some y ∧ tkA s x = true ∧ 0 ≤ y ∧ y < (t.length : Int) := by
 unfold goF at h
 split at h
 ·rename_i n hn
  obtain ⟨h1, h2, h3⟩ := byN_mem.1 h
  obtain ⟨j, s, g1, g2, g3⟩ := (gtL_mem _ _ _ _ _ _).1 h1
  exact ⟨n, j, s, by simpa using hn, g1, g2, g3, h2, h3⟩
 ·simp at h
theorem flat_nd {f : Int → List Int} {S : List Int} (hS : S.Nodup) (h1 : ∀ a, (f a).Nodup) (h2 : ∀ a ∈ S, ∀ b ∈ S, ∀ y, y ∈ f a → y ∈ f b → a = b) : (S.flatMap f).Nodup := by
 unfold List.Nodup
 rw [List.pairwise_flatMap]
 refine ⟨fun a _ => h1 a, ?_⟩
 have h3 : S.Pairwise (fun a b => a ∈ S ∧ b ∈ S ∧ a ≠ b) := by
  have := List.Pairwise.and_mem.1 hS
  exact this
 exact h3.imp (fun {a b} h x hx y hy e => by
  subst e
  exact h.2.2 (h2 a h.1 b h.2.1 x hx hy))
theorem now_nat {t : List Nod} {R : List AskZ} {S : List Int} (h : NowR t R S) {a : Int} (ha : a ∈ S) : ∃ (k : Nat) (n : Nod), a = (k : Int) ∧ t[k]? = some n := by
 obtain ⟨k, rfl, hk, -⟩ := (h.2 a).1 ha
 exact ⟨k, _, rfl, List.getElem?_eq_getElem hk⟩
theorem now_step {t : List Nod} (hf : FrmR t) {R : List AskZ} {S : List Int} (h : NowR t R S) (x : AskZ) : NowR t (R ++ [x]) (S.flatMap (goF t x)) := by
 obtain ⟨hd, hto⟩ := frm_lnk hf
 refine ⟨flat_nd h.1 (goF_nd hf x) (fun a ha b hb y h1 h2 => ?_), fun y => ?_⟩
 ·obtain ⟨k, n, rfl, -⟩ := now_nat h ha
  obtain ⟨k', n', rfl, -⟩ := now_nat h hb
  obtain ⟨m, j, s, g1, g2, g3, -⟩ := goF_mem h1
  obtain ⟨m', j', s', f1, f2, f3, -⟩ := goF_mem h2
  obtain ⟨rfl, -⟩ := to_uniq hd g1 g3 f1 f3
  rfl
 ·rw [List.mem_flatMap]
  constructor
  ·rintro ⟨a, ha, hy⟩
   obtain ⟨k, rfl, hk, p, hp, htk⟩ := (h.2 a).1 ha
   obtain ⟨n, j, s, g1, g2, g3, g4, g5, g6⟩ := goF_mem hy
   refine ⟨y.toNat, by omega, by omega, p ++ [s], .step g1 (by rw [g3]; congr 1; omega) g2 hp, (tkR_snoc _ _ _ _).2 ⟨htk, g4⟩⟩
  ·rintro ⟨k, rfl, hk, q, hq, htk⟩
   cases hq with
   | root =>
    have := htk.1
    simp at this
   | @step a j _ n s p hn hx hs hp =>
    obtain ⟨g1, g2⟩ := (tkR_snoc _ _ _ _).1 htk
    have hal := (List.getElem?_eq_some_iff.1 hn).1
    refine ⟨(a : Int), (h.2 _).2 ⟨a, rfl, hal, p, hp, g1⟩, ?_⟩
    rw [goF_at hn]
    exact byN_mem.2 ⟨(gtL_mem _ _ _ _ _ _).2 ⟨j, s, hs, hx, g2⟩, by omega, by omega⟩
theorem flat_take_len {f : Int → List Int} {S : List Int} (j : Nat) {N : Nat} (hd : (S.flatMap f).Nodup) (hb : ∀ x ∈ S.flatMap f, 0 ≤ x ∧ x < (N : Int)) : ((S.take j).flatMap f).length ≤ N := by
 have e : S.flatMap f = (S.take j).flatMap f ++ (S.drop j).flatMap f := by rw [← List.flatMap_append, List.take_append_drop]
 rw [e] at hd hb
 exact pig_len N _ (List.nodup_append.1 hd).1 (fun x hx => hb x (List.mem_append_left _ hx))
theorem now_bd {t : List Nod} {R : List AskZ} {S : List Int} (h : NowR t R S) : ∀ x ∈ S, 0 ≤ x ∧ x < (t.length : Int) := fun x hx => by
 obtain ⟨k, rfl, hk, -⟩ := (h.2 x).1 hx
 omega
theorem now_len {t : List Nod} {R : List AskZ} {S : List Int} (h : NowR t R S) : S.length ≤ t.length := pig_len _ _ h.1 (now_bd h)
theorem now_take {t : List Nod} (hf : FrmR t) {R : List AskZ} {S : List Int} (h : NowR t R S) (x : AskZ) (j : Nat) : ((S.take j).flatMap (goF t x)).length ≤ t.length :=
 flat_take_len j (now_step hf h x).1 (now_bd (now_step hf h x))
/-- The ends of where a row comes to. -/
theorem ends_nd {t : List Nod} (hf : FrmR t) {R : List AskZ} {S : List Int} (h : NowR t R S) : (S.flatMap (enF t)).Nodup ∧ ∀ x ∈ S.flatMap (enF t), 0 ≤ x ∧ x < ((enA t).length : Int) := by
 have he := ((frm_iff t).1 hf).2.2
 have hm := (pig_all (enA t).length (enA t) (fun i hi => List.count_pos_iff.1 (by rw [hf.2.2.2.2 i hi]; exact Nat.one_pos)) (Nat.le_refl _)).2
 refine ⟨flat_nd h.1 (fun a => ?_) (fun a ha b hb y h1 h2 => ?_), fun x hx => ?_⟩
 ·unfold enF
  split
  ·rename_i n hn
   exact ris_nodup (he.1 n (List.mem_of_getElem? hn))
  ·exact List.nodup_nil
 ·obtain ⟨k, n, rfl, hn⟩ := now_nat h ha
  obtain ⟨k', n', rfl, hn'⟩ := now_nat h hb
  rw [enF_at hn] at h1
  rw [enF_at hn'] at h2
  rw [end_uniq he.2.2.1 hn h1 hn' h2]
 ·obtain ⟨a, ha, hy⟩ := List.mem_flatMap.1 hx
  obtain ⟨k, n, rfl, hn⟩ := now_nat h ha
  rw [enF_at hn] at hy
  exact hm x (List.mem_flatMap.2 ⟨n, List.mem_of_getElem? hn, hy⟩)
theorem ends_mem {t : List Nod} {L : List (List Stp)} {R : List AskZ} {S : List Int} (hI : IsPths t L 0) (h : NowR t R S) {i : Nat} {p : List Stp} (hp : L[i]? = some p) : (i : Int) ∈ S.flatMap (enF t) ↔ TkR p R := by
 rcases hI with ⟨-, -, h0⟩ | ⟨hf, -, -, hall⟩
 ·omega
 obtain ⟨q, n, hn, hi, hpt⟩ := hall i p hp
 have he := ((frm_iff t).1 hf).2.2
 rw [List.mem_flatMap]
 constructor
 ·rintro ⟨a, ha, hy⟩
  obtain ⟨k, rfl, hk, p', hp', htk⟩ := (h.2 a).1 ha
  have hnk : t[k]? = some t[k] := List.getElem?_eq_getElem hk
  rw [enF_at hnk] at hy
  obtain rfl := end_uniq he.2.2.1 hnk hy hn hi
  rw [hpt.uniq hf hp']
  exact htk
 ·intro htk
  refine ⟨(q : Int), (h.2 _).2 ⟨q, rfl, (List.getElem?_eq_some_iff.1 hn).1, p, hpt, htk⟩, ?_⟩
  rw [enF_at hn]
  exact hi
/-- How many of the first i numbers are in X. -/
def cntX (X : List Int) (i : Nat) : Nat := ((List.range i).filter fun k : Nat => decide ((k : Int) ∈ X)).length
theorem cntX_succ (X : List Int) (i : Nat) : cntX X (i + 1) = cntX X i + (if (i : Int) ∈ X then 1 else 0) := by
 unfold cntX
 rw [List.range_succ, List.filter_append, List.length_append]
 by_cases h : (i : Int) ∈ X <;> simp [h]
theorem cntX_le (X : List Int) : ∀ i, cntX X i ≤ i
 | 0 => by simp [cntX]
 | i + 1 => by
  have := cntX_le X i
  rw [cntX_succ]
  split <;> omega
theorem cntX_all {X : List Int} {N : Nat} (hd : X.Nodup) (hb : ∀ x ∈ X, 0 ≤ x ∧ x < (N : Int)) : cntX X N = X.length := by
 have e : cntX X N = (((List.range N).filter fun k : Nat => decide ((k : Int) ∈ X)).map (fun k : Nat => (k : Int))).length := by rw [List.length_map]; rfl
 rw [e]
 refine Nat.le_antisymm (nodup_le ?_ (fun x hx => ?_)) (nodup_le hd (fun x hx => ?_))
 ·exact List.Pairwise.map _ (fun x y hne e => hne (by omega)) (List.nodup_range.sublist List.filter_sublist)
 ·obtain ⟨k, hk, rfl⟩ := List.mem_map.1 hx
  simpa using (List.mem_filter.1 hk).2
 ·have := hb x hx
  refine List.mem_map.2 ⟨x.toNat, List.mem_filter.2 ⟨List.mem_range.2 (by omega), ?_⟩, by omega⟩
  rw [show ((x.toNat : Nat) : Int) = x by omega]
  simpa using hx
theorem bld_en {L : List (List Stp)} {T : List Nod} (h : BldT L T) : (enA T).length = L.length := by
 have hI := h.inv (Q := fun _ => True) (fun _ _ _ _ => trivial)
 rw [hI.end_.length_eq]
 simp
end Go.Proofs.YtbabdhepnjacdaaDoor
