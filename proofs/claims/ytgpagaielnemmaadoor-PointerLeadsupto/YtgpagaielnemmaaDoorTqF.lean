/-
 Lists that grow by append: values, names; those of an object beside one another.
-/
import Derived.Test.YtgpagaielnemmaaDoorTpF
import Derived.Laws.OwnMore
import Derived.Deep.DeepAppendRoom
import Derived.Deep.Onto
namespace Go.Proofs.YtgpagaielnemmaaDoor
open Go.RowKit Go.Shelf
theorem appendV {P : Program} {w : World} {base n z bytes : Nat} {t ty e : TypeId} {i : TypeInfo} {z0 v : Value} {xs : List Value} (ht : P.underlying t = some (.slice e)) (hi : P.info? e = some i) (hz : i.zero = some z0) (hsize : i.size = z) (hby : i.bytes = bytes) (hzs : z0.cells.size = z) (hsz : 0 < z)
  (hown : w.ownsRow base e z v n xs) (a : Addr) (m c : Nat) (news : List Value) (hl : news.length = m * z) (hnews : ∀ j u, news[j]? = some u → w.cell? (a.add j) = some u) (h1 : ∀ u ∈ news, u.oneCell' = true) (h63 : n + m ≤ maxLen) (hbytes : (n + m) * bytes ≤ 140737488355328) (hbase : base ≤ w.heap.size) :
  ∃ v' w', (Builtin.append_ #[t, t] ty #[v, .slice (some a) m c]).run P w = .ok v' w' ∧ w'.ownsRow base e z v' (n + m) (xs ++ news) ∧
   ((∃ g cap, v = .slice (some ⟨g, 0, none⟩) n cap ∧ v' = .slice (some ⟨g, 0, none⟩) (n + m) cap ∧ w.grownBy w' (some g)) ∨ ((∀ g, v'.ownBlock = some g → w.heap.size ≤ g) ∧ w.grownBy w' none)) := by
 rcases hown.2 with ⟨rfl, rfl⟩ | ⟨g, cap, cur, rfl, hb, hg, hnc, hcm, hcs, htk⟩
 ·have hx : xs = [] := List.length_eq_zero_iff.1 (by rw [hown.1, Nat.zero_mul])
  subst hx
  obtain ⟨v', w', hr, s1, s2, -⟩ := run_append_own (P := P) w w.heap.size t ty e i z0 z bytes ht hi hz hsize hby hzs hsz (.slice none 0 0) 0 [] (World.ownsRow_nil w _ _ _) a m c news hl hnews h1 h63 hbytes (Nat.le_refl _)
  exact ⟨v', w', hr, s1.mono hbase, .inr ⟨fun g hg => (s1.lt g hg).1, s2⟩⟩
 ·by_cases hgr : cap < n + m
  ·obtain ⟨v', w', hr, s1, s2⟩ := run_append_arg_grows (P := P) w t ty e i z0 z bytes ht hi hz hsize hby hzs hsz ⟨g, 0, none⟩ n cap xs hown.1 (hown.cells (g := g) rfl) a m c news hl hnews hgr h63 hbytes
   exact ⟨v', w', hr, s1.mono hbase, .inr ⟨fun g hg => (s1.lt g hg).1, s2⟩⟩
  ·obtain ⟨w', hr, s1, s2⟩ := run_append_own_spare (P := P) w base t ty e i z ht hi hsize g n cap xs hown a m c news hl hnews h1 (by omega)
   exact ⟨_, w', hr, s1, .inl ⟨g, cap, rfl, rfl, s2⟩⟩
theorem infoVT : (Tryd.prog.info? 25).map (fun i => (i.zero, i.size, i.bytes)) = some (some (.agg #[.int .i64 0, .bool false, .string ⟨#[]⟩, .string ⟨#[]⟩, .slice none 0 0, .slice none 0 0]), 6, 96) := by kernel_rfl
theorem infoST : (Tryd.prog.info? 9).map (fun i => (i.zero, i.size, i.bytes)) = some (some (.string ⟨#[]⟩), 1, 16) := by kernel_rfl
theorem info_partsV {t : TypeId} {z : Value} {n m : Nat} (h : (Tryd.prog.info? t).map (fun i => (i.zero, i.size, i.bytes)) = some (some z, n, m)) : ∃ i, Tryd.prog.info? t = some i ∧ i.zero = some z ∧ i.size = n ∧ i.bytes = m := by
 cases hi : Tryd.prog.info? t with
 | none => rw [hi] at h; cases h
 | some i => rw [hi] at h; simp at h; exact ⟨i, rfl, h.1, h.2.1, h.2.2⟩
/-- The cells of values one behind the other. -/
def flatC (X : Nat → Array Value) : Nat → List Value
 | 0 => []
 | n + 1 => flatC X n ++ (X n).toList
theorem flatC_len {X : Nat → Array Value} : ∀ {n : Nat}, (∀ i, i < n → (X i).size = 6) → (flatC X n).length = n * 6
 | 0, _ => rfl
 | n + 1, h => by
  rw [flatC, List.length_append, flatC_len (fun i hi => h i (by omega))]
  have := h n (by omega)
  simp only [Array.length_toList, this]
  omega
theorem flatC_get {X : Nat → Array Value} : ∀ {n i j : Nat}, (∀ i, i < n → (X i).size = 6) → i < n → j < 6 → (flatC X n)[i * 6 + j]? = (X i)[j]?
 | 0, i, j, _, h, _ => by omega
 | n + 1, i, j, h, hi, hj => by
  have hl := flatC_len (X := X) (n := n) (fun i hi => h i (by omega))
  rw [flatC]
  by_cases e : i = n
  ·subst e
   rw [List.getElem?_append_right (by omega), hl, show i * 6 + j - i * 6 = j by omega]
   simp
  ·rw [List.getElem?_append_left (by omega)]
   exact flatC_get (fun i hi => h i (by omega)) (by omega) hj
theorem flatC_congr {X Y : Nat → Array Value} : ∀ {n : Nat}, (∀ i, i < n → X i = Y i) → flatC X n = flatC Y n
 | 0, _ => rfl
 | n + 1, h => by rw [flatC, flatC, flatC_congr (fun i hi => h i (by omega)), h n (by omega)]
/-- A list of values that grows: its row is owned, its values lie apart from it and from the block k. -/
def KidsG (B : Nat) (k : Option Nat) (w : World) (v : Value) (vs : List Vt) : Prop :=
 ∃ X : Nat → Array Value, w.ownsRow B 25 6 v vs.length (flatC X vs.length) ∧ (∀ i, i < vs.length → (X i).size = 6) ∧ ∀ (i : Nat) (u : Vt), vs[i]? = some u → ValOn (fun c => B ≤ c ∧ v.ownBlock ≠ some c ∧ k ≠ some c) w u (.agg (X i))
/-- A list of names that grows. -/
def KeysG (B : Nat) (w : World) (v : Value) (ks : List ByteArray) : Prop :=
 w.ownsRow B 9 1 v ks.length (ks.map Value.string) ∧ ∀ (i : Nat) (s : ByteArray), ks[i]? = some s → s.size ≤ capT
section
variable {B : Nat} {k : Option Nat} {W W' : World} {v v' : Value} {vs : List Vt} {ks : List ByteArray}
theorem own_on {e : TypeId} {z n : Nat} {xs : List Value} (h : W.ownsRow B e z v n xs) (hs : ∀ g, v.ownBlock = some g → B ≤ g → g < W.heap.size → W'.heap[g]? = W.heap[g]?) : W'.ownsRow B e z v n xs := by
 have hlt := h.lt
 refine ⟨h.1, ?_⟩
 rcases h.2 with h2 | ⟨g, cap, cur, rfl, hb, hg, h3⟩
 ·exact .inl h2
 ·exact .inr ⟨g, cap, cur, rfl, hb, (hs g rfl hb (hlt g rfl).2).trans hg, h3⟩
theorem KidsG.nil (B : Nat) (k : Option Nat) (W : World) : KidsG B k W (.slice none 0 0) [] := ⟨fun _ => #[], by simpa [flatC] using World.ownsRow_nil W B 25 6, fun i h => by simp at h, fun i u h => by simp at h⟩
theorem KeysG.nil (B : Nat) (W : World) : KeysG B W (.slice none 0 0) [] := ⟨by simpa using World.ownsRow_nil W B 9 1, fun i s h => by simp at h⟩
theorem KidsG.kept (h : KidsG B k W v vs) (hs : SameOn (fun c => B ≤ c) W W') : KidsG B k W' v vs := by
 obtain ⟨X, h1, h2, h3⟩ := h
 exact ⟨X, own_on h1 (fun g _ hg hl => hs.2 g hg hl), h2, fun i u hi => (h3 i u hi).kept (fun _ _ h => h) ⟨hs.1, fun c hc hl => hs.2 c hc.1 hl⟩⟩
theorem KeysG.kept (h : KeysG B W v ks) (hs : SameOn (fun c => B ≤ c) W W') : KeysG B W' v ks := ⟨own_on h.1 (fun g _ hg hl => hs.2 g hg hl), h.2⟩
theorem KidsG.blk (h : KidsG B k W v vs) {g : Nat} (hg : v.ownBlock = some g) : B ≤ g ∧ g < W.heap.size := by
 obtain ⟨X, h1, -⟩ := h
 exact h1.lt g hg
theorem KeysG.blk (h : KeysG B W v ks) {g : Nat} (hg : v.ownBlock = some g) : B ≤ g ∧ g < W.heap.size := h.1.lt g hg
theorem own_shape {e : TypeId} {z n : Nat} {xs : List Value} (h : W.ownsRow B e z v n xs) : ∃ so cap, v = .slice so n cap := by
 rcases h.2 with ⟨rfl, rfl⟩ | ⟨g, cap, cur, rfl, -⟩
 ·exact ⟨_, _, rfl⟩
 ·exact ⟨_, _, rfl⟩
theorem KidsG.shape (h : KidsG B k W v vs) : ∃ so cap, v = .slice so vs.length cap := by
 obtain ⟨X, h1, -⟩ := h
 exact own_shape h1
theorem KeysG.shape (h : KeysG B W v ks) : ∃ so cap, v = .slice so ks.length cap := own_shape h.1
/-- What is left at the end: a row of values. -/
theorem KidsG.row {vo : Option Addr} {n vc : Nat} (h : KidsG B k W (.slice vo n vc) vs) : ∃ X : Nat → Array Value, n = vs.length ∧ RowOn (fun c => B ≤ c) W vo vs.length X ∧ ∀ (i : Nat) (u : Vt), vs[i]? = some u → ValOn (fun c => B ≤ c) W u (.agg (X i)) := by
 obtain ⟨X, h1, h2, h3⟩ := h
 obtain ⟨so, cap, e⟩ := own_shape h1
 cases e
 refine ⟨X, rfl, fun i hi => ⟨h2 i hi, ?_⟩, fun i u hi => (h3 i u hi).mono (fun _ _ h => h.1)⟩
 rcases h1.2 with ⟨e, h0⟩ | ⟨g, cap, cur, e, hb, hg, -⟩
 ·omega
 ·cases e
  refine ⟨g, 0, rfl, hb, (h1.lt g rfl).2, fun j hj => ?_⟩
  rw [show 0 + i * 6 + j = i * 6 + j by omega, h1.cellAt (i * 6 + j) (by omega), flatC_get h2 hi hj]
theorem KeysG.row {vo : Option Addr} {n vc : Nat} (h : KeysG B W (.slice vo n vc) ks) : n = ks.length ∧ KeysOn (fun c => B ≤ c) W vo ks := by
 obtain ⟨h1, h2⟩ := h
 obtain ⟨so, cap, e⟩ := own_shape h1
 cases e
 refine ⟨rfl, fun i s hi => ⟨h2 i s hi, ?_⟩⟩
 have hl := (List.getElem?_eq_some_iff.1 hi).1
 rcases h1.2 with ⟨e, h0⟩ | ⟨g, cap, cur, e, hb, hg, -⟩
 ·omega
 ·cases e
  refine ⟨g, 0, rfl, hb, (h1.lt g rfl).2, ?_⟩
  rw [show 0 + i = i by omega, h1.cellAt i (by omega)]
  simp [hi]
theorem grown_weaken {row : Option Nat} (h : W.grownBy W' none) : W.grownBy W' row := ⟨h.os, h.tape, h.output, h.size, fun c hc _ => h.block c hc (by simp)⟩
/-- One value more. -/
theorem KidsG.app {u : Vt} {C : Array Value} {ty : TypeId} (h : KidsG B k W v vs) (hu : ValOn (fun c => B ≤ c ∧ v.ownBlock ≠ some c ∧ k ≠ some c) W u (.agg C)) (ad : Addr) (c : Nat) (hC : ∀ (j : Nat) (y : Value), C[j]? = some y → W.cell? (ad.add j) = some y) (hn : vs.length < 1099511627776) (hB : B ≤ W.heap.size) :
  ∃ v' W', (Builtin.append_ #[23, 23] ty #[v, .slice (some ad) 1 c]).run Tryd.prog W = .ok v' W' ∧ KidsG B k W' v' (vs ++ [u]) ∧ W.grownBy W' v.ownBlock ∧ (v'.ownBlock = v.ownBlock ∨ ∃ g, v'.ownBlock = some g ∧ W.heap.size ≤ g) := by
 obtain ⟨X, h1, h2, h3⟩ := h
 obtain ⟨ko, kc, vo, vc, e⟩ := hu.six
 have hsz : C.size = 6 := by cases e; rfl
 have ho : ∀ y ∈ C.toList, y.oneCell' = true := by
  cases e
  intro y hy
  simp at hy
  rcases hy with rfl | rfl | rfl | rfl | rfl | rfl <;> rfl
 obtain ⟨i0, hi, hz0, hz1, hz2⟩ := info_partsV infoVT
 obtain ⟨v', W', hr, r1, r2⟩ := appendV (P := Tryd.prog) (ty := ty) Tryd.underlying23 hi hz0 hz1 hz2 rfl (by decide) h1 ad 1 c C.toList (by simp [hsz]) (fun j y hj => hC j y (by simpa using hj)) ho (by unfold maxLen; omega) (by omega) hB
 have hg : W.grownBy W' v.ownBlock := by
  rcases r2 with ⟨g, cap, rfl, rfl, hg⟩ | ⟨-, hg⟩
  ·exact hg
  ·exact grown_weaken hg
 have hb : v'.ownBlock = v.ownBlock ∨ ∃ g, v'.ownBlock = some g ∧ W.heap.size ≤ g := by
  rcases r2 with ⟨g, cap, rfl, rfl, -⟩ | ⟨hf, -⟩
  ·exact .inl rfl
  ·rcases r1.2 with ⟨-, h0⟩ | ⟨g, cap, cur, rfl, -⟩
   ·omega
   ·exact .inr ⟨g, rfl, hf g rfl⟩
 have hS : ∀ b, b < W.heap.size → (B ≤ b ∧ v.ownBlock ≠ some b ∧ k ≠ some b) → (B ≤ b ∧ v'.ownBlock ≠ some b ∧ k ≠ some b) := fun b hl hc => by
  refine ⟨hc.1, ?_, hc.2.2⟩
  rcases hb with e | ⟨g, e, hgl⟩
  ·rw [e]; exact hc.2.1
  ·rw [e]; intro hx; injection hx with hx; omega
 have hO : SameOn (fun c => B ≤ c ∧ v.ownBlock ≠ some c ∧ k ≠ some c) W W' := ⟨hg.size, fun b hc hl => hg.block b hl (fun e => hc.2.1 e.symm)⟩
 refine ⟨v', W', hr, ⟨fun i => if i = vs.length then C else X i, ?_, ?_, ?_⟩, hg, hb⟩
 ·have e1 : flatC (fun i => if i = vs.length then C else X i) (vs ++ [u]).length = flatC X vs.length ++ C.toList := by
   rw [List.length_append, List.length_singleton, flatC]
   simp only [if_true]
   rw [flatC_congr (Y := X) (fun i hi => if_neg (by omega))]
  rw [e1, List.length_append, List.length_singleton]
  exact r1
 ·intro i hi
  rw [List.length_append, List.length_singleton] at hi
  by_cases e : i = vs.length
  ·simp only [if_pos e]; exact hsz
  ·simp only [if_neg e]; exact h2 i (by omega)
 ·intro i y hy
  by_cases e : i = vs.length
  ·subst e
   rw [List.getElem?_append_right (Nat.le_refl _)] at hy
   simp at hy
   subst hy
   simp only [if_true]
   exact hu.kept hS hO
  ·have hl := (List.getElem?_eq_some_iff.1 hy).1
   rw [List.length_append, List.length_singleton] at hl
   rw [List.getElem?_append_left (by omega)] at hy
   simp only [if_neg e]
   exact (h3 i y hy).kept hS hO
/-- One name more. -/
theorem KeysG.app {u : ByteArray} {ty : TypeId} (h : KeysG B W v ks) (hu : u.size ≤ capT) (ad : Addr) (c : Nat) (hC : W.cell? (ad.add 0) = some (.string u)) (hn : ks.length < 1099511627776) (hB : B ≤ W.heap.size) :
  ∃ v' W', (Builtin.append_ #[22, 22] ty #[v, .slice (some ad) 1 c]).run Tryd.prog W = .ok v' W' ∧ KeysG B W' v' (ks ++ [u]) ∧ W.grownBy W' v.ownBlock ∧ (v'.ownBlock = v.ownBlock ∨ ∃ g, v'.ownBlock = some g ∧ W.heap.size ≤ g) := by
 obtain ⟨h1, h2⟩ := h
 obtain ⟨i0, hi, hz0, hz1, hz2⟩ := info_partsV infoST
 obtain ⟨v', W', hr, r1, r2⟩ := appendV (P := Tryd.prog) (ty := ty) Tryd.underlying22 hi hz0 hz1 hz2 rfl (by decide) h1 ad 1 c [.string u] (by simp) (fun j y hj => by
  match j, hj with
  | 0, hj => simp at hj; subst hj; exact hC) (by simp; rfl) (by unfold maxLen; omega) (by omega) hB
 refine ⟨v', W', hr, ⟨?_, ?_⟩, ?_, ?_⟩
 ·rw [List.length_append, List.length_singleton, List.map_append, List.map_cons, List.map_nil]
  exact r1
 ·intro i s hs
  by_cases e : i = ks.length
  ·subst e
   rw [List.getElem?_append_right (Nat.le_refl _)] at hs
   simp at hs
   subst hs
   exact hu
  ·have hl := (List.getElem?_eq_some_iff.1 hs).1
   rw [List.length_append, List.length_singleton] at hl
   rw [List.getElem?_append_left (by omega)] at hs
   exact h2 i s hs
 ·rcases r2 with ⟨g, cap, rfl, rfl, hg⟩ | ⟨-, hg⟩
  ·exact hg
  ·exact grown_weaken hg
 ·rcases r2 with ⟨g, cap, rfl, rfl, -⟩ | ⟨hf, -⟩
  ·exact .inl rfl
  ·rcases r1.2 with ⟨-, h0⟩ | ⟨g, cap, cur, rfl, -⟩
   ·omega
   ·exact .inr ⟨g, rfl, hf g rfl⟩
end
/-- An object's two lists, each beside the other. -/
def ObjG (B : Nat) (w : World) (kv vv : Value) (ks : List ByteArray) (vs : List Vt) : Prop := KeysG B w kv ks ∧ KidsG B kv.ownBlock w vv vs ∧ ∀ g, kv.ownBlock = some g → vv.ownBlock ≠ some g
section
variable {B : Nat} {W W' : World} {kv vv kv' vv' : Value} {vs vs' : List Vt} {ks ks' : List ByteArray}
theorem ObjG.nil (B : Nat) (W : World) : ObjG B W (.slice none 0 0) (.slice none 0 0) [] [] := ⟨KeysG.nil B W, KidsG.nil B _ W, fun g h => by cases h⟩
theorem ObjG.kept (h : ObjG B W kv vv ks vs) (hs : SameOn (fun c => B ≤ c) W W') : ObjG B W' kv vv ks vs := ⟨h.1.kept hs, h.2.1.kept hs, h.2.2⟩
theorem ObjG.key (h : ObjG B W kv vv ks vs) (hk : KeysG B W' kv' ks') (hg : W.grownBy W' kv.ownBlock) (ha : kv'.ownBlock = kv.ownBlock ∨ ∃ g, kv'.ownBlock = some g ∧ W.heap.size ≤ g) : ObjG B W' kv' vv ks' vs := by
 obtain ⟨X, h1, h2, h3⟩ := h.2.1
 refine ⟨hk, ⟨X, own_on h1 (fun g hv hb hl => hg.block g hl (fun e => h.2.2 g e.symm hv)), h2, fun i u hi => (h3 i u hi).kept (fun b hl hc => ⟨hc.1, hc.2.1, ?_⟩) ⟨hg.size, fun c hc hl => hg.block c hl (fun e => hc.2.2 e.symm)⟩⟩, ?_⟩
 ·rcases ha with e | ⟨g, e, hgl⟩
  ·rw [e]; exact hc.2.2
  ·rw [e]; intro hx; injection hx with hx; omega
 ·intro g hg' hv
  rcases ha with e | ⟨g2, e, hgl⟩
  ·exact h.2.2 g (e ▸ hg') hv
  ·rw [hg'] at e; injection e with e; have := (h1.lt g hv).2; omega
theorem ObjG.kid (h : ObjG B W kv vv ks vs) (hk : KidsG B kv.ownBlock W' vv' vs') (hg : W.grownBy W' vv.ownBlock) (ha : vv'.ownBlock = vv.ownBlock ∨ ∃ g, vv'.ownBlock = some g ∧ W.heap.size ≤ g) : ObjG B W' kv vv' ks vs' := by
 refine ⟨⟨own_on h.1.1 (fun g hv hb hl => hg.block g hl (fun e => h.2.2 g hv e.symm)), h.1.2⟩, hk, ?_⟩
 intro g hk2 hv
 rcases ha with e | ⟨g2, e, hgl⟩
 ·exact h.2.2 g hk2 (e ▸ hv)
 ·rw [hv] at e; injection e with e; have := (h.1.blk hk2).2; omega
end
end Go.Proofs.YtgpagaielnemmaaDoor
