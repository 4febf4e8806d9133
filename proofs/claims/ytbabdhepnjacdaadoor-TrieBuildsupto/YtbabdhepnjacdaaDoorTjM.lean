/-
 A trie that grows as a row of nodes, in memory (the reference's Build).
-/
import Derived.Test.YtbabdhepnjacdaaDoorTjL
namespace Go.Proofs.YtbabdhepnjacdaaDoor
open Go.RowKit Go.Shelf
def teR (k : Nat) : TypeId := if k = 0 then 53 else 3
def tzR (k : Nat) : Nat := if k = 0 then 3 else 1
theorem teR_node (k : Nat) : (50 : TypeId) ≠ teR k := by
 unfold teR
 split <;> decide
theorem own_set {W : World} {B z g n cap j : Nat} {e : TypeId} {xs : List Value} (h : W.ownsRow B e z (.slice (some ⟨g, 0, none⟩) n cap) n xs) (x : Value) :
  (W.setCell ⟨g, j, none⟩ x).ownsRow B e z (.slice (some ⟨g, 0, none⟩) n cap) n (xs.set j x) := by
 obtain ⟨h1, h2⟩ := h
 refine ⟨by rw [List.length_set]; exact h1, ?_⟩
 rcases h2 with ⟨e, -⟩ | ⟨g', cap', cur, e, hB, hg, hn, hm, hs, ht⟩
 ·cases e
 ·cases e
  refine .inr ⟨g, cap, cur.setIfInBounds j x, rfl, hB, At.set hg j x, hn, hm, by rw [Array.size_setIfInBounds]; exact hs, ?_⟩
  rw [Array.toList_setIfInBounds, List.take_set, ht]
theorem own_at {W : World} {B z g n cap : Nat} {e : TypeId} {xs : List Value} (h : W.ownsRow B e z (.slice (some ⟨g, 0, none⟩) n cap) n xs) : B ≤ g ∧ ∃ cur, At W g cur e := by
 rcases h.2 with ⟨e, -⟩ | ⟨g', cap', cur, e, hB, hg, -⟩
 ·cases e
 ·cases e
  exact ⟨hB, cur, hg⟩
def ndC (vv : Nat → Nat → Value) (i : Nat) : List Value := [vv i 0, vv i 1, vv i 2]
structure RfX (B : Nat) (w : World) (K : Nat) (ln : Nat → Nat → Nat) (vl : Nat → Nat → List Value) (v : Value) (vv : Nat → Nat → Value) : Prop where
 row : w.ownsRow B 50 3 v K ((List.range K).flatMap (ndC vv))
 own : ∀ i k, i < K → k < 3 → w.ownsRow B (teR k) (tzR k) (vv i k) (ln i k) (vl i k)
 apt : ∀ i j k l, i < K → j < K → k < 3 → l < 3 → ¬ (i = j ∧ k = l) → Apt (vv i k) (vv j l)
theorem nd_set (vv : Nat → Nat → Value) (K : Nat) {i k : Nat} (hk : k < 3) (x : Value) : ((List.range K).flatMap (ndC vv)).set (i * 3 + k) x = (List.range K).flatMap (ndC (updF vv i k x)) := by
 have hl : ∀ (f : Nat → Nat → Value), ((List.range K).flatMap (ndC f)).length = K * 3 := fun f => tabL_len K (fun _ _ => rfl)
 apply List.ext_getElem?
 intro q
 by_cases hq : q < K * 3
 ·have e : q = q / 3 * 3 + q % 3 := (Nat.div_add_mod' q 3).symm
  have ha : q / 3 < K := by omega
  have hb : q % 3 < 3 := Nat.mod_lt _ (by decide)
  have hR := tabL_get (z := 3) (C := ndC (updF vv i k x)) K (fun _ _ => rfl) (q / 3) (q % 3) ha hb
  have hL := tabL_get (z := 3) (C := ndC vv) K (fun _ _ => rfl) (q / 3) (q % 3) ha hb
  rw [← e] at hR hL
  rw [hR]
  by_cases hc : i * 3 + k = q
  ·have e1 : q / 3 = i := by omega
   have e2 : q % 3 = k := by omega
   rw [hc, List.getElem?_set_self (by rw [hl]; exact hq), e1, e2]
   match k, hk with
   | 0, _ => simp [ndC, updF]
   | 1, _ => simp [ndC, updF]
   | 2, _ => simp [ndC, updF]
  ·rw [List.getElem?_set_ne hc, hL]
   have hne : ∀ b, b = q % 3 → ¬ (q / 3 = i ∧ b = k) := fun b hb' h => hc (by omega)
   generalize hm : q % 3 = m at hb hne ⊢
   match m, hb with
   | 0, _ => simp [ndC, updF_ne (hne 0 rfl)]
   | 1, _ => simp [ndC, updF_ne (hne 1 rfl)]
   | 2, _ => simp [ndC, updF_ne (hne 2 rfl)]
 ·rw [List.getElem?_eq_none (by rw [List.length_set, hl]; omega), List.getElem?_eq_none (by rw [hl]; omega)]
section
variable {B K : Nat} {w w' : World} {ln : Nat → Nat → Nat} {vl : Nat → Nat → List Value} {v : Value} {vv : Nat → Nat → Value}
theorem RfX.kept (h : RfX B w K ln vl v vv) (hb : Below w.heap.size w w') : RfX B w' K ln vl v vv where
 row := own_on h.row (fun g _ _ hl => hb.block g hl)
 own := fun i k hi hk => own_on (h.own i k hi hk) (fun g _ _ hl => hb.block g hl)
 apt := h.apt
theorem RfX.shape (h : RfX B w K ln vl v vv) (hK : 0 < K) : ∃ g cap, v = .slice (some ⟨g, 0, none⟩) K cap := by
 rcases h.row.2 with ⟨-, h0⟩ | ⟨g, cap, cur, e, -⟩
 ·omega
 ·exact ⟨g, cap, e⟩
theorem RfX.cell {g cap : Nat} (h : RfX B w K ln vl (.slice (some ⟨g, 0, none⟩) K cap) vv) {i k : Nat} (hi : i < K) (hk : k < 3) : w.cell? ⟨g, i * 3 + k, none⟩ = some (vv i k) := by
 rw [h.row.cellAt (i * 3 + k) (by omega), tabL_get (z := 3) (C := ndC vv) K (fun _ _ => rfl) i k hi hk]
 match k, hk with
 | 0, _ => rfl
 | 1, _ => rfl
 | 2, _ => rfl
theorem RfX.upd {g cap : Nat} (h0 : RfX B w K ln vl (.slice (some ⟨g, 0, none⟩) K cap) vv) {i k m : Nat} (hi : i < K) (hk : k < 3) {w1 w2 : World} (hb : Below w.heap.size w w1) {v' : Value} {news : List Value} (ho : w2.ownsRow B (teR k) (tzR k) v' (ln i k + m) (vl i k ++ news)) (hg : w1.grownBy w2 (vv i k).ownBlock)
  (hv : v'.ownBlock = (vv i k).ownBlock ∨ ∀ g, v'.ownBlock = some g → w1.heap.size ≤ g) :
  RfX B (w2.setCell ⟨g, i * 3 + k, none⟩ v') K (updF ln i k (ln i k + m)) (updF vl i k (vl i k ++ news)) (.slice (some ⟨g, 0, none⟩) K cap) (updF vv i k v') ∧ (∃ cur, At w2 g cur 50) ∧ w2.cell? ⟨g, i * 3 + k, none⟩ = some (vv i k) ∧ B ≤ g := by
 have h := h0.kept hb
 have hown := h.own i k hi hk
 have hrowA : Apt (vv i k) (.slice (some ⟨g, 0, none⟩) K cap) := own_apt hown h.row (teR_node k)
 have hrow2 : w2.ownsRow B 50 3 (.slice (some ⟨g, 0, none⟩) K cap) K ((List.range K).flatMap (ndC vv)) := own_grown h.row hg hrowA
 obtain ⟨hBg, cur, hat⟩ := own_at hrow2
 have hapt' : ∀ u : Value, Apt (vv i k) u → (∀ g, u.ownBlock = some g → g < w1.heap.size) → Apt v' u := fun u ha hl g hg1 hg2 => by
  rcases hv with e | e
  ·exact ha g (by rw [← e]; exact hg1) hg2
  ·have := e g hg1; have := hl g hg2; omega
 refine ⟨⟨?_, fun j k' hj hk' => ?_, fun a b k' l' ha hb' hk' hl' hab => ?_⟩, ⟨cur, hat⟩, ?_, hBg⟩
 ·rw [← nd_set vv K hk]
  exact own_set hrow2 v'
 ·by_cases e : j = i ∧ k' = k
  ·obtain ⟨rfl, rfl⟩ := e
   rw [updF_same, updF_same, updF_same]
   exact own_setCell ho hat (teR_node k')
  ·rw [updF_ne e, updF_ne e, updF_ne e]
   exact own_setCell (own_grown (h.own j k' hj hk') hg (h.apt i j k k' hi hj hk hk' (fun h => e ⟨h.1.symm, h.2.symm⟩))) hat (teR_node k')
 ·by_cases e1 : a = i ∧ k' = k
  ·obtain ⟨rfl, rfl⟩ := e1
   rw [updF_same, updF_ne (fun h => hab ⟨h.1.symm, h.2.symm⟩)]
   exact hapt' _ (h.apt a b k' l' ha hb' hk' hl' hab) (fun g hg1 => ((h.own b l' hb' hl').lt g hg1).2)
  ·rw [updF_ne e1]
   by_cases e2 : b = i ∧ l' = k
   ·obtain ⟨rfl, rfl⟩ := e2
    rw [updF_same]
    exact (hapt' _ (h.apt b a l' k' hb' ha hl' hk' (fun e => hab ⟨e.1.symm, e.2.symm⟩)) (fun g hg1 => ((h.own a k' ha hk').lt g hg1).2)).symm
   ·rw [updF_ne e2]
    exact h.apt a b k' l' ha hb' hk' hl' hab
 ·rw [hrow2.cellAt (i * 3 + k) (by omega), tabL_get (z := 3) (C := ndC vv) K (fun _ _ => rfl) i k hi hk]
  match k, hk with
  | 0, _ => rfl
  | 1, _ => rfl
  | 2, _ => rfl
theorem fm_congr (f g : Nat → List Value) : ∀ K, (∀ i, i < K → f i = g i) → (List.range K).flatMap f = (List.range K).flatMap g
 | 0, _ => rfl
 | K + 1, h => by
  rw [List.range_succ, List.flatMap_append, List.flatMap_append, fm_congr f g K (fun i hi => h i (by omega))]
  simp [h K (by omega)]
def vNil (vv : Nat → Nat → Value) (K : Nat) : Nat → Nat → Value := fun i k => if i = K then .slice none 0 0 else vv i k
theorem RfX.add (h0 : RfX B w K ln vl v vv) {w1 w2 : World} (hb : Below w.heap.size w w1) {v' : Value} (ho : w2.ownsRow B 50 3 v' (K + 1) ((List.range K).flatMap (ndC vv) ++ [.slice none 0 0, .slice none 0 0, .slice none 0 0])) (hg : w1.grownBy w2 v.ownBlock) (hln : ∀ k, k < 3 → ln K k = 0) (hvl : ∀ k, k < 3 → vl K k = []) :
  RfX B w2 (K + 1) ln vl v' (vNil vv K) := by
 have h := h0.kept hb
 refine ⟨?_, fun j k hj hk => ?_, fun a b k l ha hb' hk hl hab => ?_⟩
 ·rw [List.range_succ, List.flatMap_append]
  have e1 : (List.range K).flatMap (ndC (vNil vv K)) = (List.range K).flatMap (ndC vv) := by
   refine fm_congr _ _ K (fun i hi => ?_)
   have hne : i ≠ K := by omega
   simp [ndC, vNil, hne]
  rw [e1]
  simpa [ndC, vNil] using ho
 ·by_cases e : j = K
  ·subst e
   rw [hln k hk, hvl k hk]
   simp only [vNil, if_pos]
   exact World.ownsRow_nil _ _ _ _
  ·simp only [vNil, if_neg e]
   have hjK : j < K := by omega
   exact own_grown (h.own j k hjK hk) hg (own_apt h.row (h.own j k hjK hk) (teR_node k).symm)
 ·unfold vNil
  by_cases e1 : a = K
  ·rw [if_pos e1]
   intro g hg1
   cases hg1
  ·rw [if_neg e1]
   by_cases e2 : b = K
   ·rw [if_pos e2]
    intro g _ hg2
    cases hg2
   ·rw [if_neg e2]
    exact h.apt a b k l (by omega) (by omega) hk hl hab
end
/-- What stands in the rows. -/
def colL (n : Nod) (k : Nat) : Nat := if k = 0 then n.steps.length else if k = 1 then n.tos.length else n.ends.length
def colC (n : Nod) (k : Nat) : List Value := if k = 0 then n.steps.flatMap stC3 else if k = 1 then inC n.tos else inC n.ends
def RelF (T : List Nod) (ln : Nat → Nat → Nat) (vl : Nat → Nat → List Value) : Prop :=
 (∀ (a : Nat) (n : Nod), T[a]? = some n → ∀ k, k < 3 → ln a k = colL n k ∧ vl a k = colC n k) ∧ ∀ a k, T.length ≤ a → k < 3 → ln a k = 0 ∧ vl a k = []
theorem RelF.set {T : List Nod} {ln : Nat → Nat → Nat} {vl : Nat → Nat → List Value} (h : RelF T ln vl) {c k : Nat} {n n' : Nod} (hn : T[c]? = some n) {m : Nat} {xs : List Value}
  (hn' : ∀ l, l < 3 → colL n' l = (if l = k then m else colL n l) ∧ colC n' l = (if l = k then xs else colC n l)) : RelF (T.set c n') (updF ln c k m) (updF vl c k xs) := by
 have hc := (List.getElem?_eq_some_iff.1 hn).1
 refine ⟨fun a u hu l hl => ?_, fun a l ha hl => ?_⟩
 ·by_cases e : a = c
  ·subst e
   rw [List.getElem?_set_self hc] at hu
   cases hu
   have h1 := hn' l hl
   have h2 := h.1 a n hn l hl
   by_cases el : l = k
   ·subst el
    rw [updF_same, updF_same, h1.1, h1.2, if_pos rfl, if_pos rfl]
    exact ⟨rfl, rfl⟩
   ·rw [updF_ne (fun h => el h.2), updF_ne (fun h => el h.2), h1.1, h1.2, if_neg el, if_neg el]
    exact h2
  ·rw [List.getElem?_set_ne (fun h => e h.symm)] at hu
   rw [updF_ne (fun h => e h.1), updF_ne (fun h => e h.1)]
   exact h.1 a u hu l hl
 ·rw [List.length_set] at ha
  rw [updF_ne (by omega), updF_ne (by omega)]
  exact h.2 a l ha hl
theorem RelF.add {T : List Nod} {ln : Nat → Nat → Nat} {vl : Nat → Nat → List Value} (h : RelF T ln vl) : RelF (T ++ [nulN]) ln vl := by
 refine ⟨fun a u hu k hk => ?_, fun a l ha hl => h.2 a l (by rw [List.length_append] at ha; omega) hl⟩
 by_cases e : a < T.length
 ·rw [List.getElem?_append_left e] at hu
  exact h.1 a u hu k hk
 ·have hl := (List.getElem?_eq_some_iff.1 hu).1
  rw [List.length_append, List.length_singleton] at hl
  obtain rfl : a = T.length := by omega
  rw [List.getElem?_append_right (Nat.le_refl _)] at hu
  simp at hu
  subst hu
  have h0 := h.2 T.length k (Nat.le_refl _) hk
  rw [h0.1, h0.2]
  unfold colL colC
  match k, hk with
  | 0, _ => exact ⟨rfl, rfl⟩
  | 1, _ => exact ⟨rfl, rfl⟩
  | 2, _ => exact ⟨rfl, rfl⟩
/-- The trie in memory. -/
def RfT (B : Nat) (w : World) (v : Value) (T : List Nod) : Prop := ∃ ln vl vv, RelF T ln vl ∧ RfX B w T.length ln vl v vv
section
variable {B K : Nat} {w w' : World} {v : Value} {T : List Nod}
theorem RfT.kept (h : RfT B w v T) (hb : Below w.heap.size w w') : RfT B w' v T := by
 obtain ⟨ln, vl, vv, h1, h2⟩ := h
 exact ⟨ln, vl, vv, h1, h2.kept hb⟩
theorem RfT.shape (h : RfT B w v T) (hK : 0 < T.length) : ∃ g cap, v = .slice (some ⟨g, 0, none⟩) T.length cap := by
 obtain ⟨ln, vl, vv, h1, h2⟩ := h
 exact h2.shape hK
/-- What a node's cells are. -/
theorem RfT.node {g cap : Nat} (h : RfT B w (.slice (some ⟨g, 0, none⟩) K cap) T) (hK : T.length = K) {c : Nat} {n : Nod} (hn : T[c]? = some n) (hs : ∀ s ∈ n.steps, s.name.size ≤ capT) (ht : ∀ x ∈ n.tos, i64B x) (he : ∀ x ∈ n.ends, i64B x) :
  ∃ sa sc ta tc ea ec, w.rangeAt g (c * 3) [.slice sa n.steps.length sc, .slice ta n.tos.length tc, .slice ea n.ends.length ec] ∧ StepsAt w sa n.steps ∧ IntsZ w ta n.tos ∧ IntsZ w ea n.ends ∧ g < w.heap.size := by
 obtain ⟨ln, vl, vv, h1, h2⟩ := h
 subst hK
 have hc := (List.getElem?_eq_some_iff.1 hn).1
 have r0 := h1.1 c n hn 0 (by decide)
 have r1 := h1.1 c n hn 1 (by decide)
 have r2 := h1.1 c n hn 2 (by decide)
 have o0 : w.ownsRow B 53 3 (vv c 0) n.steps.length (n.steps.flatMap stC3) := by
  have h := h2.own c 0 hc (by decide)
  rw [r0.1, r0.2] at h
  exact h
 have o1 : InG B w (vv c 1) n.tos := by
  have h := h2.own c 1 hc (by decide)
  rw [r1.1, r1.2] at h
  exact h
 have o2 : InG B w (vv c 2) n.ends := by
  have h := h2.own c 2 hc (by decide)
  rw [r2.1, r2.2] at h
  exact h
 have c0 := h2.cell hc (k := 0) (by decide)
 have c1 := h2.cell hc (k := 1) (by decide)
 have c2 := h2.cell hc (k := 2) (by decide)
 obtain ⟨sa, sc, e0⟩ := own_shape o0
 obtain ⟨ta, tc, e1⟩ := o1.shape
 obtain ⟨ea, ec, e2⟩ := o2.shape
 rw [e0] at o0 c0
 rw [e1] at o1 c1
 rw [e2] at o2 c2
 have s0 : StO B w (.slice sa n.steps.length sc) n.steps := ⟨o0, fun i s hi => hs s (List.mem_of_getElem? hi)⟩
 refine ⟨sa, sc, ta, tc, ea, ec, fun j y hj => ?_, s0.row.2, (o1.row ht).2, (o2.row he).2, (h2.row.lt g rfl).2⟩
 match j, hj with
 | 0, hj => simp at hj; subst hj; exact c0
 | 1, hj => simp at hj; subst hj; exact c1
 | 2, hj => simp at hj; subst hj; exact c2
 | j + 3, hj => simp at hj
/-- One more behind a row of a node. -/
theorem RfT.app {g cap : Nat} (h : RfT B w (.slice (some ⟨g, 0, none⟩) K cap) T) (hK : T.length = K) {c : Nat} {n n' : Nod} (hn : T[c]? = some n) {k : Nat} (hk : k < 3) {w1 : World} (hb : Below w.heap.size w w1) (hB : B ≤ w.heap.size)
  {t : TypeId} {bys : Nat} {z0 : Value} (ht : Tryd.prog.underlying t = some (.slice (teR k))) (hinfo : (Tryd.prog.info? (teR k)).map (fun i => (i.zero, i.size, i.bytes)) = some (some z0, tzR k, bys)) (hz : z0.cells.size = tzR k) (h0 : 0 < tzR k) (hby : bys ≤ 64)
  (b : Nat) (news : List Value) (hl : news.length = tzR k) (hC : ∀ j u, news[j]? = some u → w1.cell? ((⟨b, 0, none⟩ : Addr).add j) = some u) (hone : ∀ u ∈ news, u.oneCell' = true) (hlt : colL n k < 1099511627776)
  (hn' : ∀ l, l < 3 → colL n' l = (if l = k then colL n k + 1 else colL n l) ∧ colC n' l = (if l = k then colC n k ++ news else colC n l)) :
  ∃ so sc so7 sc7 W7, w1.cell? ⟨g, c * 3 + k, none⟩ = some (.slice so (colL n k) sc) ∧ (∀ ty, (Builtin.append_ #[t, t] ty #[.slice so (colL n k) sc, .slice (some ⟨b, 0, none⟩) 1 1]).run Tryd.prog w1 = .ok (.slice so7 (colL n k + 1) sc7) W7) ∧ W7.cell? ⟨g, c * 3 + k, none⟩ = some (.slice so (colL n k) sc) ∧ (∃ cur, At W7 g cur 50) ∧
   RfT B (W7.setCell ⟨g, c * 3 + k, none⟩ (.slice so7 (colL n k + 1) sc7)) (.slice (some ⟨g, 0, none⟩) K cap) (T.set c n') ∧ Below B w1 W7 ∧ Below B w (W7.setCell ⟨g, c * 3 + k, none⟩ (.slice so7 (colL n k + 1) sc7)) := by
 obtain ⟨ln, vl, vv, h1, h2⟩ := h
 subst hK
 have hc := (List.getElem?_eq_some_iff.1 hn).1
 have r := h1.1 c n hn k hk
 have o := (h2.kept hb).own c k hc hk
 rw [r.1, r.2] at o
 have hB1 := Nat.le_trans hB hb.size
 obtain ⟨v7, W7, hr, ho, hg, hv⟩ := app_gen (B := B) ht hinfo hz h0 o ⟨b, 0, none⟩ 1 news hl hC hone hlt hby hB1
 have c1 := (h2.kept hb).cell hc hk
 obtain ⟨so, sc, e⟩ := own_shape o
 obtain ⟨so7, sc7, rfl⟩ := own_shape ho
 obtain ⟨g8, hat, hce, hBg⟩ := h2.upd (m := 1) (news := news) hc hk hb (by rw [r.1, r.2]; exact ho) hg hv
 have x1 : Below B w1 W7 := (Below.refl _ w1).grown hg hB1 (fun q hq => (o.lt q hq).1)
 rw [e] at c1 hr hce
 refine ⟨so, sc, so7, sc7, W7, c1, hr, hce, hat, ⟨_, _, _, ?_, by rw [List.length_set]; exact g8⟩, x1, ((hb.mono hB).trans x1).setCell (p := ⟨g, c * 3 + k, none⟩) hBg _⟩
 rw [r.1, r.2]
 exact h1.set hn hn'
end
end Go.Proofs.YtbabdhepnjacdaaDoor
