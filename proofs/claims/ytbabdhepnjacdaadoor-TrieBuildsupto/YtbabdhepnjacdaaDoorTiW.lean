/-
 A trie as it grows, in memory.
-/
import Derived.Test.YtbabdhepnjacdaaDoorTiT
import Derived.Test.YtbabdhepnjacdaaDoorTiU
namespace Go.Proofs.YtbabdhepnjacdaaDoor
open Go.RowKit Go.Shelf
def teF (k : Nat) : TypeId := if k = 0 then 53 else if k = 1 then 59 else 3
def tzF (k : Nat) : Nat := if k = 0 then 3 else 1
def Apt (a b : Value) : Prop := ∀ g, a.ownBlock = some g → b.ownBlock ≠ some g
theorem Apt.symm {a b : Value} (h : Apt a b) : Apt b a := fun g hb ha => h g ha hb
def ptrV (b : Nat) : Value := .pointer (some ⟨b, 0, none⟩)
def updF {α : Type} (f : Nat → Nat → α) (i k : Nat) (x : α) : Nat → Nat → α := fun a b => if a = i ∧ b = k then x else f a b
theorem updF_same {α : Type} (f : Nat → Nat → α) (i k : Nat) (x : α) : updF f i k x i k = x := if_pos ⟨rfl, rfl⟩
theorem updF_ne {α : Type} {f : Nat → Nat → α} {i k a b : Nat} {x : α} (h : ¬ (a = i ∧ b = k)) : updF f i k x a b = f a b := if_neg h
section
variable {B : Nat} {W W' : World}
theorem own_grown {e : TypeId} {z n : Nat} {u : Value} {xs : List Value} {row : Option Nat} (h : W.ownsRow B e z u n xs) (hg : W.grownBy W' row) (hne : ∀ g, row = some g → u.ownBlock ≠ some g) : W'.ownsRow B e z u n xs := own_on h (fun g hu _ hl => hg.block g hl (fun e => hne g e.symm hu))
theorem own_apt {e f : TypeId} {z y n m : Nat} {u v : Value} {xs ys : List Value} (h : W.ownsRow B e z u n xs) (k : W.ownsRow B f y v m ys) (hef : f ≠ e) : Apt u v := fun g hu hv => by
 rcases k.2 with ⟨rfl, -⟩ | ⟨g', cap, cur, rfl, -, hg, -⟩
 ·cases hv
 ·cases hv
  exact own_ne (t := f) (cs := cur) h hg hef hu
theorem at_grown {b : Nat} {cs : Array Value} {t e : TypeId} {z n : Nat} {v : Value} {xs : List Value} (h : At W b cs t) (hr : W.ownsRow B e z v n xs) (hg : W.grownBy W' v.ownBlock) (hte : t ≠ e) : At W' b cs t := (hg.block b h.lt (fun e' => own_ne hr h hte e'.symm)).trans h
theorem own_setCell {b k : Nat} {cs : Array Value} {t e : TypeId} {z n : Nat} {v x : Value} {xs : List Value} (hr : W.ownsRow B e z v n xs) (h : At W b cs t) (hte : t ≠ e) : (W.setCell ⟨b, k, none⟩ x).ownsRow B e z v n xs := own_on hr (fun g hv _ _ => Below.heap_setCell W ⟨b, k, none⟩ x g (fun e' => by
 have e2 : g = b := e'
 subst e2
 exact own_ne hr h hte hv))
theorem at_ne {b c : Nat} {cs ds : Array Value} {t u : TypeId} (h : At W b cs t) (k : At W c ds u) (htu : t ≠ u) : b ≠ c := fun e => by
 subst e
 have h1 : W.heap[b]? = some (.cells cs t) := h
 have h2 : W.heap[b]? = some (.cells ds u) := k
 rw [h1] at h2
 simp at h2
 exact htu h2.2
end
theorem te_ne {k k' : Nat} (hk : k < 3) (hk' : k' < 3) (h : k ≠ k') : teF k ≠ teF k' := by
 match k, k', hk, hk' with
 | 0, 1, _, _ => decide
 | 0, 2, _, _ => decide
 | 1, 0, _, _ => decide
 | 1, 2, _, _ => decide
 | 2, 0, _, _ => decide
 | 2, 1, _, _ => decide
 | 0, 0, _, _ => exact absurd rfl h
 | 1, 1, _, _ => exact absurd rfl h
 | 2, 2, _, _ => exact absurd rfl h
theorem te_node {k : Nat} (hk : k < 3) : (63 : TypeId) ≠ teF k := by
 match k, hk with
 | 0, _ => decide
 | 1, _ => decide
 | 2, _ => decide
theorem te_box {k : Nat} (hk : k < 3) : (58 : TypeId) ≠ teF k := by
 match k, hk with
 | 0, _ => decide
 | 1, _ => decide
 | 2, _ => decide
/-- The growth: its box, the row of its nodes, each node with its three rows; no row is another's. -/
structure GrX (B : Nat) (w : World) (gb K : Nat) (ln : Nat → Nat → Nat) (vl : Nat → Nat → List Value) (nb : Nat → Nat) (v : Value) (vv : Nat → Nat → Value) (num : Nat → Int) : Prop where
 box : At w gb #[v] 58
 boxB : B ≤ gb
 row : w.ownsRow B 59 1 v K ((List.range K).map fun i => ptrV (nb i))
 node : ∀ i, i < K → At w (nb i) #[vv i 0, vv i 1, vv i 2, .int .i64 (num i)] 63
 nodeB : ∀ i, i < K → B ≤ nb i
 inj : ∀ i j, i < K → j < K → nb i = nb j → i = j
 own : ∀ i k, i < K → k < 3 → w.ownsRow B (teF k) (tzF k) (vv i k) (ln i k) (vl i k)
 apt : ∀ i j k, i < K → j < K → k < 3 → i ≠ j → Apt (vv i k) (vv j k)
 aptG : ∀ i, i < K → Apt v (vv i 1)
section
variable {B gb K : Nat} {w w' : World} {ln : Nat → Nat → Nat} {vl : Nat → Nat → List Value} {nb : Nat → Nat} {v : Value} {vv : Nat → Nat → Value} {num : Nat → Int}
theorem GrX.kept (h : GrX B w gb K ln vl nb v vv num) (hb : Below w.heap.size w w') : GrX B w' gb K ln vl nb v vv num where
 box := h.box.keptAll hb
 boxB := h.boxB
 row := own_on h.row (fun g _ _ hl => hb.block g hl)
 node := fun i hi => (h.node i hi).keptAll hb
 nodeB := h.nodeB
 inj := h.inj
 own := fun i k hi hk => own_on (h.own i k hi hk) (fun g _ _ hl => hb.block g hl)
 apt := h.apt
 aptG := h.aptG
/-- What is put behind a row of a node, and stored there. -/
theorem GrX.upd (h0 : GrX B w gb K ln vl nb v vv num) {i k m : Nat} (hi : i < K) (hk : k < 3) {w1 w2 : World} (hb : Below w.heap.size w w1) {v' : Value} {news : List Value} (ho : w2.ownsRow B (teF k) (tzF k) v' (ln i k + m) (vl i k ++ news)) (hg : w1.grownBy w2 (vv i k).ownBlock)
  (hv : v'.ownBlock = (vv i k).ownBlock ∨ ∀ g, v'.ownBlock = some g → w1.heap.size ≤ g) :
  GrX B (w2.setCell ⟨nb i, k, none⟩ v') gb K (updF ln i k (ln i k + m)) (updF vl i k (vl i k ++ news)) nb v (updF vv i k v') num := by
 have h := h0.kept hb
 have hown := h.own i k hi hk
 have hnd : ∀ j, j < K → At w2 (nb j) #[vv j 0, vv j 1, vv j 2, .int .i64 (num j)] 63 := fun j hj => at_grown (h.node j hj) hown hg (te_node hk)
 have hbx : At w2 gb #[v] 58 := at_grown h.box hown hg (te_box hk)
 -- other rows lie apart from this one
 have hoth : ∀ j k', j < K → k' < 3 → ¬ (j = i ∧ k' = k) → Apt (vv i k) (vv j k') := fun j k' hj hk' hne => by
  by_cases e : k' = k
  ·subst e
   exact h.apt i j k' hi hj hk' (fun e => hne ⟨e.symm, rfl⟩)
  ·exact own_apt hown (h.own j k' hj hk') (te_ne hk' hk e)
 have hrowA : Apt (vv i k) v := by
  by_cases e : k = 1
  ·subst e; exact (h.aptG i hi).symm
  ·exact own_apt hown h.row (te_ne (k := 1) (k' := k) (by decide) hk (fun e' => e e'.symm))
 have hrow2 : w2.ownsRow B 59 1 v K ((List.range K).map fun i => ptrV (nb i)) := own_grown h.row hg hrowA
 have hapt' : ∀ u : Value, Apt (vv i k) u → (∀ g, u.ownBlock = some g → g < w1.heap.size) → Apt v' u := fun u ha hl g hg1 hg2 => by
  rcases hv with e | e
  ·exact ha g (by rw [← e]; exact hg1) hg2
  ·have := e g hg1; have := hl g hg2; omega
 refine ⟨hbx.other (fun e => at_ne hbx (hnd i hi) (by decide) e) _, h.boxB, own_setCell hrow2 (hnd i hi) (by decide), fun j hj => ?_, h.nodeB, h.inj, fun j k' hj hk' => ?_, fun a b k' ha hb' hk' hab => ?_, fun j hj => ?_⟩
 ·by_cases e : j = i
  ·subst e
   have hs := (hnd j hj).set k v'
   match k, hk, hs with
   | 0, _, hs => simpa [updF] using hs
   | 1, _, hs => simpa [updF] using hs
   | 2, _, hs => simpa [updF] using hs
  ·rw [updF_ne (fun h => e h.1), updF_ne (fun h => e h.1), updF_ne (fun h => e h.1)]
   exact (hnd j hj).other (fun e' => e (h.inj j i hj hi e')) _
 ·by_cases e : j = i ∧ k' = k
  ·obtain ⟨rfl, rfl⟩ := e
   rw [updF_same, updF_same, updF_same]
   exact own_setCell ho (hnd j hj) (te_node hk')
  ·rw [updF_ne e, updF_ne e, updF_ne e]
   exact own_setCell (own_grown (h.own j k' hj hk') hg (hoth j k' hj hk' e)) (hnd i hi) (te_node hk')
 ·by_cases e1 : a = i ∧ k' = k
  ·obtain ⟨rfl, rfl⟩ := e1
   rw [updF_same, updF_ne (fun h => hab h.1.symm)]
   exact hapt' _ (h.apt a b k' ha hb' hk' hab) (fun g hg1 => ((h.own b k' hb' hk').lt g hg1).2)
  ·rw [updF_ne e1]
   by_cases e2 : b = i ∧ k' = k
   ·obtain ⟨rfl, rfl⟩ := e2
    rw [updF_same]
    exact (hapt' _ (h.apt b a k' hb' ha hk' (fun e => hab e.symm)) (fun g hg1 => ((h.own a k' ha hk').lt g hg1).2)).symm
   ·rw [updF_ne e2]
    exact h.apt a b k' ha hb' hk' hab
 ·by_cases e : j = i ∧ 1 = k
  ·obtain ⟨rfl, rfl⟩ := e
   rw [updF_same]
   exact (hapt' v hrowA (fun g hg1 => (h.row.lt g hg1).2)).symm
  ·rw [updF_ne e]
   exact h.aptG j hj
/-- A new node. -/
theorem GrX.add (h0 : GrX B w gb K ln vl nb v vv num) {w1 w2 : World} {b : Nat} (hbw : w.heap.size ≤ b) (hb : Below w.heap.size w w1) (hn : At w1 b #[.slice none 0 0, .slice none 0 0, .slice none 0 0, .int .i64 0] 63) (hBw : B ≤ w.heap.size) {v' : Value} (ho : w2.ownsRow B 59 1 v' (K + 1) ((List.range K).map (fun i => ptrV (nb i)) ++ [ptrV b])) (hg : w1.grownBy w2 v.ownBlock)
  (hv : v'.ownBlock = v.ownBlock ∨ ∀ g, v'.ownBlock = some g → w1.heap.size ≤ g) (hln : ∀ k, k < 3 → ln K k = 0) (hvl : ∀ k, k < 3 → vl K k = []) :
  GrX B (w2.setCell ⟨gb, 0, none⟩ v') gb (K + 1) ln vl (fun i => if i = K then b else nb i) v' (fun i k => if i = K then .slice none 0 0 else vv i k) (fun i => if i = K then 0 else num i) := by
 have h := h0.kept hb
 have hnd : ∀ j, j < K → At w2 (nb j) #[vv j 0, vv j 1, vv j 2, .int .i64 (num j)] 63 := fun j hj => at_grown (h.node j hj) h.row hg (by decide)
 have hnew : At w2 b #[.slice none 0 0, .slice none 0 0, .slice none 0 0, .int .i64 0] 63 := at_grown hn h.row hg (by decide)
 have hbx : At w2 gb #[v] 58 := at_grown h.box h.row hg (by decide)
 have hlt : ∀ j, j < K → nb j < w.heap.size := fun j hj => (h0.node j hj).lt
 have hap : ∀ j k, j < K → k < 3 → Apt v (vv j k) := fun j k hj hk => by
  by_cases e : k = 1
  ·subst e; exact h.aptG j hj
  ·exact own_apt h.row (h.own j k hj hk) (te_ne (k := k) (k' := 1) hk (by decide) e)
 have hs := hbx.set 0 v'
 refine ⟨by simpa using hs, h.boxB, ?_, fun j hj => ?_, fun j hj => ?_, fun i j hi hj e => ?_, fun j k hj hk => ?_, fun i j k hi hj hk hij => ?_, fun j hj => ?_⟩
 ·have e : (List.range (K + 1)).map (fun i => ptrV (if i = K then b else nb i)) = (List.range K).map (fun i => ptrV (nb i)) ++ [ptrV b] := by
   rw [List.range_succ, List.map_append, List.map_singleton, if_pos rfl]
   congr 1
   apply List.map_congr_left
   intro a ha
   have := List.mem_range.1 ha
   rw [if_neg (by omega)]
  rw [e]
  exact own_setCell ho hbx (by decide)
 ·by_cases e : j = K
  ·subst e
   simp only [if_true]
   exact hnew.other (at_ne hnew hbx (by decide)) _
  ·simp only [if_neg e]
   exact (hnd j (by omega)).other (at_ne (hnd j (by omega)) hbx (by decide)) _
 ·split
  ·omega
  ·exact h.nodeB j (by omega)
 ·by_cases e1 : i = K <;> by_cases e2 : j = K
  ·omega
  ·rw [if_pos e1, if_neg e2] at e
   have := hlt j (by omega)
   omega
  ·rw [if_neg e1, if_pos e2] at e
   have := hlt i (by omega)
   omega
  ·rw [if_neg e1, if_neg e2] at e
   exact h.inj i j (by omega) (by omega) e
 ·by_cases e : j = K
  ·subst e
   rw [if_pos rfl, hln k hk, hvl k hk]
   exact World.ownsRow_nil _ B (teF k) (tzF k)
  ·rw [if_neg e]
   exact own_setCell (own_grown (h.own j k (by omega) hk) hg (hap j k (by omega) hk)) hbx (te_box hk)
 ·by_cases e1 : i = K
  ·rw [if_pos e1]; intro g hg1; cases hg1
  ·by_cases e2 : j = K
   ·rw [if_neg e1, if_pos e2]; intro g _ hg2; cases hg2
   ·rw [if_neg e1, if_neg e2]
    exact h.apt i j k (by omega) (by omega) hk hij
 ·by_cases e : j = K
  ·rw [if_pos e]; intro g _ hg2; cases hg2
  ·rw [if_neg e]
   intro g hg1 hg2
   rcases hv with e' | e'
   ·exact h.aptG j (by omega) g (by rw [← e']; exact hg1) hg2
   ·have := e' g hg1
    have := ((h.own j 1 (by omega) (by decide)).lt g hg2).2
    omega
end
end Go.Proofs.YtbabdhepnjacdaaDoor
