/-
  Several lists with room behind them that lie apart, of elements of any size: what a store into one of them and an append to one of them leave of the others.
-/
import Derived.Test.YtiggfigjibggaaaHpP
import Derived.Laws.AppendOwn
import Derived.ArgAppend
import Derived.Deep.RegionHeld
import Derived.Deep.DeepCutAuto
import Derived.Laws.OwnMore
import Derived.Deep.DeepAppendRoom
import Derived.Maps.RangeWalk
namespace Go.Proofs.Ytiggfigjibggaaa
open Go.RowKit

/-- The mark of a place. -/
def markN (k i : Nat) : Nat := 1000003 * (k + 7) + i
set_option maxRecDepth 10000 in
theorem mark_calls (k i : Nat) (hk : k ≤ 1000000) (hi : i ≤ 17592186044416) (w : World) : Calls Try.prog 40 #[.int .i64 (k : Int), .int .i64 (i : Int)] w fun e w' => e = .returned (.int .i64 ((markN k i : Nat) : Int)) ∧ w' = w := by
  have e1 := hid (show wrap64 ((k : Int) + 7) = (k : Int) + 7 by unfold wrap64; omega)
  have e2 := hid (show wrap64 (1000003 * ((k : Int) + 7)) = 1000003 * ((k : Int) + 7) by unfold wrap64; omega)
  have e3 := hid (show wrap64 (1000003 * ((k : Int) + 7) + (i : Int)) = ((markN k i : Nat) : Int) by unfold wrap64 markN; omega)
  clear hk hi
  go_enter Try.func40, Try.ntmps40
  go_wp2
  go_ret
  refine ⟨?_, rfl⟩
  show Ending.returned (Value.int .i64 (wrap64 (wrap64 (1000003 * wrap64 ((k : Int) + 7)) + (i : Int)))) = _
  rw [e1.out, e2.out, e3.out]
theorem At.grow {W W' : World} {b : Nat} {cs : Array Value} {t : TypeId} {row : Option Nat} (h : At W b cs t) (hg : W.grownBy W' row) (hr : row ≠ some b) : At W' b cs t := (hg.block b h.lt (fun e => hr e.symm)).trans h
theorem own_len (so : Option Addr) (a b c d : Nat) : (Value.slice so a c).ownBlock = (Value.slice so b d).ownBlock := by
  rcases so with _ | ⟨b, o, p⟩ <;> rfl
/-- One of several lists: the slice and its length. -/
structure RowJ where
  v : Value
  n : Nat
/-- The cells of a row. -/
def celL (r : Nat) (C : Nat → Value) : List Value := (List.range r).map C
theorem celL_len (r : Nat) (C : Nat → Value) : (celL r C).length = r := by simp [celL]
theorem celL_get {r j : Nat} (C : Nat → Value) (h : j < r) : (celL r C)[j]? = some (C j) := by simp [celL, h]
theorem celL_congr {r : Nat} {C D : Nat → Value} (h : ∀ j, j < r → C j = D j) : celL r C = celL r D := by
  unfold celL
  apply List.map_congr_left
  intro j hj
  exact h j (by simpa using hj)
theorem celL_take (r m : Nat) (C : Nat → Value) : (celL (r + m) C).take r = celL r C := by
  apply List.ext_getElem?
  intro j
  rw [List.getElem?_take]
  by_cases h : j < r
  · rw [if_pos h, celL_get C h, celL_get C (by omega)]
  · rw [if_neg h]
    simp [celL, h]
theorem celL_set (r j : Nat) (C : Nat → Value) (u : Value) : (celL r C).set j u = celL r (fun i => if i = j then u else C i) := by
  apply List.ext_getElem?
  intro i
  rw [List.getElem?_set]
  by_cases h : i < r
  · rw [celL_get _ h, celL_get _ h, celL_len]
    by_cases e : j = i
    · subst e; simp [h]
    · have e' : ¬ i = j := fun h' => e h'.symm
      simp [e, e']
  · have h1 : (celL r C)[i]? = none := by simp [celL, h]
    have h2 : (celL r (fun i => if i = j then u else C i))[i]? = none := by simp [celL, h]
    rw [h1, h2, celL_len]
    by_cases e : j = i
    · subst e; simp [h]
    · simp [e]
theorem celL_snoc (r m : Nat) (C : Nat → Value) : celL r C ++ celL m (fun j => C (r + j)) = celL (r + m) C := by
  apply List.ext_getElem?
  intro j
  by_cases h : j < r
  · rw [List.getElem?_append_left (by rw [celL_len]; exact h), celL_get C h, celL_get C (by omega)]
  · rw [List.getElem?_append_right (by rw [celL_len]; omega), celL_len]
    by_cases h2 : j < r + m
    · rw [celL_get _ (by omega), celL_get _ h2]
      show some (C (r + (j - r))) = some (C j)
      rw [show r + (j - r) = j by omega]
    · simp [celL, show ¬ j - r < m by omega, h2]
/-- The lists lie apart, from B on, each with its cells. -/
def RowsJ (e : TypeId) (z : Nat) (w : World) (B : Nat) (rs : List RowJ) (F : Nat → Nat → Value) : Prop :=
  (∀ (k : Nat) (x : RowJ), rs[k]? = some x → w.ownsRow B e z x.v x.n (celL (x.n * z) (F k))) ∧
    ∀ (k l : Nat) (x y : RowJ) (g : Nat), rs[k]? = some x → rs[l]? = some y → x.v.ownBlock = some g → y.v.ownBlock = some g → k = l
theorem rowz_kept {w w' : World} {B n z : Nat} {e : TypeId} {v : Value} {xs : List Value} (h : w.ownsRow B e z v n xs) (hb : Below w.heap.size w w') : w'.ownsRow B e z v n xs :=
  h.kept (grown_of_below hb) (by cases h : v.ownBlock <;> simp)
theorem rowz_base {w : World} {B B' n z : Nat} {e : TypeId} {v : Value} {xs : List Value} (h : w.ownsRow B e z v n xs) (hB : B' ≤ B) : w.ownsRow B' e z v n xs := by
  rcases h with ⟨h1, h2 | ⟨g, cap, cur, h3, h4, h5⟩⟩
  · exact ⟨h1, .inl h2⟩
  · exact ⟨h1, .inr ⟨g, cap, cur, h3, Nat.le_trans hB h4, h5⟩⟩
theorem rowz_shorter {w : World} {B g a b cap z : Nat} {e : TypeId} {L : List Value} (h : w.ownsRow B e z (.slice (some ⟨g, 0, none⟩) a cap) a L) (hb : b ≤ a) : w.ownsRow B e z (.slice (some ⟨g, 0, none⟩) b cap) b (L.take (b * z)) := by
  rcases h.2 with ⟨h', _⟩ | ⟨g', cap', cur, h', hB, hg, hnc, hcm, hcs, htake⟩
  · simp at h'
  · simp only [Value.slice.injEq, Option.some.injEq, Addr.mk.injEq, and_true, true_and] at h'
    obtain ⟨rfl, rfl⟩ := h'
    have hm : b * z ≤ a * z := Nat.mul_le_mul_right _ hb
    refine ⟨by rw [List.length_take, h.1, Nat.min_eq_left hm], .inr ⟨g, cap, cur, rfl, hB, hg, Nat.le_trans hb hnc, hcm, hcs, ?_⟩⟩
    rw [← htake, List.take_take, Nat.min_eq_left hm]
theorem grown_set (w : World) (b i : Nat) (v : Value) : w.grownBy (w.setCell ⟨b, i, none⟩ v) (some b) :=
  ⟨rfl, rfl, rfl, by simp, fun k _ hk => Below.heap_setCell w ⟨b, i, none⟩ v k (fun e => hk (by simp [e]))⟩
theorem rowz_new {W : World} {wb r z : Nat} {e : TypeId} {v : Value} {L : List Value} (h : W.ownsRow wb e z v r L) (hr : 0 < r) : ∃ g cap cur, v = .slice (some ⟨g, 0, none⟩) r cap ∧ wb ≤ g ∧ At W g cur e ∧ ∀ (i : Nat) (u : Value), L[i]? = some u → cur[i]? = some u := by
  rcases h.2 with ⟨_, h0⟩ | ⟨g, cap, cur, rfl, hb, hgb, h3, h4, h5, h6⟩
  · omega
  · refine ⟨g, cap, cur, rfl, hb, hgb, fun i u hu => ?_⟩
    rw [← h6] at hu
    rw [List.getElem?_take] at hu
    split at hu
    · rwa [Array.getElem?_toList] at hu
    · cases hu
section
variable {e : TypeId} {z : Nat} {w w' : World} {B : Nat} {rs : List RowJ} {F : Nat → Nat → Value}
theorem RowsJ.slice (h : RowsJ e z w B rs F) {k : Nat} {x : RowJ} (hk : rs[k]? = some x) : ∃ so cap, x.v = .slice so x.n cap := by
  rcases (h.1 k x hk).2 with ⟨h1, h2⟩ | ⟨g, cap, cur, h1, _⟩
  · exact ⟨none, 0, by rw [h1, h2]⟩
  · exact ⟨_, _, h1⟩
theorem RowsJ.at (h : RowsJ e z w B rs F) {k : Nat} {x : RowJ} (hk : rs[k]? = some x) {j : Nat} (hj : j < x.n * z) : ∃ g cap, x.v = .slice (some ⟨g, 0, none⟩) x.n cap ∧ B ≤ g ∧ g < w.heap.size ∧ w.cell? ⟨g, j, none⟩ = some (F k j) ∧ w.frozen? ⟨g, j, none⟩ = false := by
  have h1 := h.1 k x hk
  rcases h1.2 with ⟨_, h0⟩ | ⟨g, cap, cur, e', hb, hg, _⟩
  · rw [h0, Nat.zero_mul] at hj; omega
  · rw [e'] at h1
    refine ⟨g, cap, e', hb, (h1.lt g rfl).2, ?_, h1.frozenAt j⟩
    rw [h1.cellAt j hj, celL_get _ hj]
theorem RowsJ.lt (h : RowsJ e z w B rs F) {k : Nat} {x : RowJ} (hk : rs[k]? = some x) {g : Nat} (hg : x.v.ownBlock = some g) : B ≤ g ∧ g < w.heap.size := (h.1 k x hk).lt g hg
theorem RowsJ.kept (h : RowsJ e z w B rs F) (hb : Below w.heap.size w w') : RowsJ e z w' B rs F := ⟨fun k x hk => rowz_kept (h.1 k x hk) hb, h.2⟩
theorem RowsJ.drew (h : RowsJ e z w B rs F) : RowsJ e z w.drew B rs F := h.kept (Below.refl _ w).drew
theorem RowsJ.grown (h : RowsJ e z w B rs F) {row : Option Nat} (hg : w.grownBy w' row) (hr : ∀ (k : Nat) (x : RowJ) (g : Nat), rs[k]? = some x → x.v.ownBlock = some g → row ≠ some g) : RowsJ e z w' B rs F :=
  ⟨fun k x hk => (h.1 k x hk).kept hg (by
    cases hv : x.v.ownBlock with
    | none => exact .inl rfl
    | some g => exact .inr (fun e => hr k x g hk hv e.symm)), h.2⟩
theorem RowsJ.off (h : RowsJ e z w B rs F) {b i : Nat} (hb : ∀ (k : Nat) (x : RowJ) (g : Nat), rs[k]? = some x → x.v.ownBlock = some g → g ≠ b) (v : Value) : RowsJ e z (w.setCell ⟨b, i, none⟩ v) B rs F :=
  h.grown (grown_set w b i v) (fun k x g hk hg e => hb k x g hk hg (Option.some.inj e).symm)
/-- What an append within the room of one of the lists, or anything else that turns its block alone, leaves. -/
theorem RowsJ.growRow (h : RowsJ e z w B rs F) {k : Nat} {x : RowJ} (hk : rs[k]? = some x) (hg : w.grownBy w' x.v.ownBlock) (hx : w'.ownsRow B e z x.v x.n (celL (x.n * z) (F k))) : RowsJ e z w' B rs F := by
  refine ⟨fun l y hl => ?_, h.2⟩
  by_cases hkl : l = k
  · subst hkl
    rw [hk] at hl
    cases hl
    exact hx
  · refine (h.1 l y hl).kept hg ?_
    cases hv : y.v.ownBlock with
    | none => exact .inl rfl
    | some g => exact .inr (fun e => hkl (h.2 l k y x g hl hk hv e.symm))
/-- A store into one of the lists: the others are as they were. -/
theorem RowsJ.set (h : RowsJ e z w B rs F) {k : Nat} {x : RowJ} {g cap : Nat} (hk : rs[k]? = some x) (hg : x.v = .slice (some ⟨g, 0, none⟩) x.n cap) (j : Nat) (u : Value) :
    RowsJ e z (w.setCell ⟨g, j, none⟩ u) B rs (fun l i => if l = k ∧ i = j then u else F l i) := by
  have h1 := h.1 k x hk
  rw [hg] at h1
  obtain ⟨s1, s2⟩ := h1.stored j u
  have h0 : RowsJ e z w B rs F → RowsJ e z (w.setCell ⟨g, j, none⟩ u) B rs (fun l i => if l = k ∧ i = j then u else F l i) := fun h => by
    refine ⟨fun l y hl => ?_, h.2⟩
    by_cases hkl : l = k
    · subst hkl
      rw [hk] at hl
      cases hl
      rw [hg, celL_congr (D := fun i => if i = j then u else F l i) (fun i _ => by simp), ← celL_set]
      exact s1
    · rw [celL_congr (D := F l) (fun i _ => by simp [hkl])]
      refine (h.1 l y hl).kept s2 ?_
      cases hv : y.v.ownBlock with
      | none => exact .inl rfl
      | some g' => exact .inr (fun e => hkl (h.2 l k y x g' hl hk hv (by rw [hg]; show some g = some g'; rw [e])))
  exact h0 h
theorem RowsJ.congr {F' : Nat → Nat → Value} (h : RowsJ e z w B rs F) (hF : ∀ (k : Nat) (x : RowJ) (j : Nat), rs[k]? = some x → j < x.n * z → F k j = F' k j) : RowsJ e z w B rs F' :=
  ⟨fun k x hk => by rw [← celL_congr (fun j hj => hF k x j hk hj)]; exact h.1 k x hk, h.2⟩
end

/-- All but the lists is as it was; what lay ahead of B wholly so. -/
def ApartJ (B : Nat) (rs : List RowJ) (A W : World) : Prop := Below B A W ∧ ∀ b, b < A.heap.size → (∀ (k : Nat) (x : RowJ), rs[k]? = some x → x.v.ownBlock ≠ some b) → W.heap[b]? = A.heap[b]?
section
variable {B : Nat} {rs : List RowJ} {A W W' : World}
theorem ApartJ.refl (B : Nat) (rs : List RowJ) (A : World) : ApartJ B rs A A := ⟨Below.refl _ _, fun _ _ _ => rfl⟩
theorem ApartJ.at (h : ApartJ B rs A W) {b : Nat} {cs : Array Value} {t : TypeId} (h1 : At A b cs t) (h2 : ∀ (k : Nat) (x : RowJ), rs[k]? = some x → x.v.ownBlock ≠ some b) : At W b cs t := (h.2 b h1.lt h2).trans h1
theorem ApartJ.size (h : ApartJ B rs A W) : A.heap.size ≤ W.heap.size := h.1.size
theorem ApartJ.kept (h : ApartJ B rs A W) (hb : Below W.heap.size W W') (hB : B ≤ A.heap.size) : ApartJ B rs A W' := ⟨h.1.trans (hb.mono (Nat.le_trans hB h.size)), fun b h1 h2 => (hb.block b (Nat.lt_of_lt_of_le h1 h.size)).trans (h.2 b h1 h2)⟩
theorem ApartJ.drew (h : ApartJ B rs A W) : ApartJ B rs A W.drew := ⟨h.1.drew, fun b h1 h2 => h.2 b h1 h2⟩
theorem ApartJ.grown (h : ApartJ B rs A W) {row : Option Nat} (hg : W.grownBy W' row) (hr : ∀ r, row = some r → B ≤ r ∧ (A.heap.size ≤ r ∨ ∃ (k : Nat) (x : RowJ), rs[k]? = some x ∧ x.v.ownBlock = some r)) (hB : B ≤ A.heap.size) : ApartJ B rs A W' :=
  ⟨h.1.grown hg (Nat.le_trans hB h.size) (fun b e => (hr b e).1), fun b h1 h2 => (hg.block b (Nat.lt_of_lt_of_le h1 h.size) (fun e => by
    rcases (hr b e.symm).2 with h3 | ⟨k, x, hk, hx⟩
    · omega
    · exact h2 k x hk hx)).trans (h.2 b h1 h2)⟩
theorem ApartJ.set (h : ApartJ B rs A W) {b : Nat} (hb : B ≤ b ∧ (A.heap.size ≤ b ∨ ∃ (k : Nat) (x : RowJ), rs[k]? = some x ∧ x.v.ownBlock = some b)) (hB : B ≤ A.heap.size) (i : Nat) (v : Value) : ApartJ B rs A (W.setCell ⟨b, i, none⟩ v) :=
  h.grown (grown_set W b i v) (fun r e => by cases e; exact hb) hB
end

/-- append to a list that is owned: within its room, or in a new row. -/
theorem appendJ {P : Program} {w : World} {base n z bytes : Nat} {t ty e : TypeId} {i : TypeInfo} {z0 v : Value} {xs : List Value} (ht : P.underlying t = some (.slice e)) (hi : P.info? e = some i) (hz : i.zero = some z0) (hsize : i.size = z) (hby : i.bytes = bytes) (hzs : z0.cells.size = z) (hsz : 0 < z)
    (hown : w.ownsRow base e z v n xs) (a : Addr) (m c : Nat) (news : List Value) (hl : news.length = m * z) (hnews : ∀ j u, news[j]? = some u → w.cell? (a.add j) = some u) (h1 : ∀ u ∈ news, u.oneCell' = true) (h63 : n + m ≤ maxLen) (hbytes : (n + m) * bytes ≤ 140737488355328) (hbase : base ≤ w.heap.size) :
    ∃ v' w', (Builtin.append_ #[t, t] ty #[v, .slice (some a) m c]).run P w = .ok v' w' ∧ w'.ownsRow base e z v' (n + m) (xs ++ news) ∧
      ((∃ g cap, v = .slice (some ⟨g, 0, none⟩) n cap ∧ v' = .slice (some ⟨g, 0, none⟩) (n + m) cap ∧ w.grownBy w' (some g)) ∨ ((∀ g, v'.ownBlock = some g → w.heap.size ≤ g) ∧ w.grownBy w' none)) := by
  rcases hown.2 with ⟨rfl, rfl⟩ | ⟨g, cap, cur, rfl, hb, hg, hnc, hcm, hcs, htk⟩
  · have hx : xs = [] := List.length_eq_zero_iff.1 (by rw [hown.1, Nat.zero_mul])
    subst hx
    obtain ⟨v', w', hr, s1, s2, -⟩ := run_append_own (P := P) w w.heap.size t ty e i z0 z bytes ht hi hz hsize hby hzs hsz (.slice none 0 0) 0 [] (World.ownsRow_nil w _ _ _) a m c news hl hnews h1 h63 hbytes (Nat.le_refl _)
    exact ⟨v', w', hr, rowz_base s1 hbase, .inr ⟨fun g hg => (s1.lt g hg).1, s2⟩⟩
  · by_cases hgr : cap < n + m
    · obtain ⟨v', w', hr, s1, s2⟩ := run_append_arg_grows (P := P) w t ty e i z0 z bytes ht hi hz hsize hby hzs hsz ⟨g, 0, none⟩ n cap xs hown.1 (hown.cells (g := g) rfl) a m c news hl hnews hgr h63 hbytes
      exact ⟨v', w', hr, rowz_base s1 hbase, .inr ⟨fun g hg => (s1.lt g hg).1, s2⟩⟩
    · obtain ⟨w', hr, s1, s2⟩ := run_append_own_spare (P := P) w base t ty e i z ht hi hsize g n cap xs hown a m c news hl hnews h1 (by omega)
      exact ⟨_, w', hr, s1, .inl ⟨g, cap, rfl, rfl, s2⟩⟩

/-- A list that grows out of the list x by i elements: within its room, or a row from wb on. -/
def GrowJ (e : TypeId) (z : Nat) (W : World) (B wb : Nat) (C : Nat → Value) (x : RowJ) (i : Nat) (v : Value) : Prop :=
  W.ownsRow B e z v (x.n + i) (celL ((x.n + i) * z) C) ∧ ((∃ so cap, x.v = .slice so x.n cap ∧ v = .slice so (x.n + i) cap) ∨ ∀ g, v.ownBlock = some g → wb ≤ g)
/-- One of the lists that were grown: its block and its room. -/
structure GrJ where
  b : Nat
  c : Nat
def slH (x : RowJ) (y : GrJ) : Value := .slice (some ⟨y.b, 0, none⟩) (x.n + 64) y.c
/-- The list gs: of each list one with 64 elements more, of which m are known. -/
def GsJ (e se : TypeId) (z : Nat) (M : Nat → Nat → Value) (W : World) (base : Nat) (gv : Value) (rs : List RowJ) (ys : List GrJ) (m : RowJ → Nat) : Prop :=
  W.ownsRow base se 1 gv ys.length (List.zipWith slH rs ys) ∧ ys.length ≤ rs.length ∧
    ∀ (k : Nat) (x : RowJ) (y : GrJ), rs[k]? = some x → ys[k]? = some y → gv.ownBlock ≠ some y.b ∧ (x.v.ownBlock = some y.b ∨ base ≤ y.b) ∧ ∃ cur, At W y.b cur e ∧ ∀ i, i < m x * z → cur[i]? = some (M k i)
theorem zipH_snoc {rs : List RowJ} {ys : List GrJ} {x : RowJ} (h : rs[ys.length]? = some x) (y : GrJ) : List.zipWith slH rs (ys ++ [y]) = List.zipWith slH rs ys ++ [slH x y] := by
  induction ys generalizing rs with
  | nil =>
    cases rs with
    | nil => simp at h
    | cons a rs => simp at h; subst h; simp
  | cons b ys ih =>
    cases rs with
    | nil => simp at h
    | cons a rs => simp at h; simp [ih h]
theorem zipH_get {rs : List RowJ} {ys : List GrJ} {k : Nat} {x : RowJ} {y : GrJ} (hx : rs[k]? = some x) (hy : ys[k]? = some y) : (List.zipWith slH rs ys)[k]? = some (slH x y) := by
  rw [List.getElem?_zipWith, hx, hy]
theorem zipH_set {rs : List RowJ} {ys : List GrJ} {k : Nat} {x : RowJ} (hx : rs[k]? = some x) (y : GrJ) : List.zipWith slH rs (ys.set k y) = (List.zipWith slH rs ys).set k (slH x y) := by
  induction ys generalizing rs k with
  | nil => simp
  | cons b ys ih =>
    cases rs with
    | nil => simp at hx
    | cons a rs =>
      cases k with
      | zero => simp at hx; subst hx; simp
      | succ k => simp at hx; simp [ih hx]
section
variable {e se : TypeId} {z : Nat} {M : Nat → Nat → Value} {W W' : World} {base B : Nat} {gv : Value} {rs : List RowJ} {ys : List GrJ} {m : RowJ → Nat}
theorem GsJ.nil (e se : TypeId) (z : Nat) (M : Nat → Nat → Value) (W : World) (base : Nat) (rs : List RowJ) (m : RowJ → Nat) : GsJ e se z M W base (.slice none 0 0) rs [] m := ⟨by simpa using World.ownsRow_nil W _ _ _, by simp, fun k x y _ h => by simp at h⟩
theorem GsJ.kept (h : GsJ e se z M W base gv rs ys m) (hb : Below W.heap.size W W') : GsJ e se z M W' base gv rs ys m :=
  ⟨rowz_kept h.1 hb, h.2.1, fun k x y hx hy => by obtain ⟨h1, h2, cur, h3, h4⟩ := h.2.2 k x y hx hy; exact ⟨h1, h2, cur, h3.keptAll hb, h4⟩⟩
theorem GsJ.weaken (h : GsJ e se z M W base gv rs ys m) {m' : RowJ → Nat} (hm : ∀ x, m' x ≤ m x) : GsJ e se z M W base gv rs ys m' :=
  ⟨h.1, h.2.1, fun k x y hx hy => by obtain ⟨h1, h2, cur, h3, h4⟩ := h.2.2 k x y hx hy; exact ⟨h1, h2, cur, h3, fun i hi => h4 i (Nat.lt_of_lt_of_le hi (Nat.mul_le_mul_right _ (hm x)))⟩⟩
theorem GsJ.at (h : GsJ e se z M W base gv rs ys m) {k : Nat} {x : RowJ} {y : GrJ} (hx : rs[k]? = some x) (hy : ys[k]? = some y) : ∃ gg cap, gv = .slice (some ⟨gg, 0, none⟩) ys.length cap ∧ base ≤ gg ∧ gg < W.heap.size ∧ W.cell? ⟨gg, k, none⟩ = some (slH x y) ∧ W.frozen? ⟨gg, k, none⟩ = false := by
  have hkl : k < ys.length := (List.getElem?_eq_some_iff.1 hy).1
  rcases h.1.2 with ⟨_, h0⟩ | ⟨gg, cap, cur, rfl, hb, hgb, h3⟩
  · omega
  · refine ⟨gg, cap, rfl, hb, (show At W gg cur se from hgb).lt, ?_, (show At W gg cur se from hgb).frozen k⟩
    have := h.1.cells (g := gg) rfl k (slH x y) (zipH_get hx hy)
    rwa [show (⟨gg, 0, none⟩ : Addr).add k = ⟨gg, k, none⟩ by by_cases h : k = 0 <;> simp [Addr.add, h]] at this
theorem GsJ.word (h : GsJ e se z M W base gv rs ys m) {k : Nat} {x : RowJ} {y : GrJ} (hx : rs[k]? = some x) (hy : ys[k]? = some y) {i : Nat} (hi : i < m x * z) : W.cell? ⟨y.b, i, none⟩ = some (M k i) := by
  obtain ⟨_, _, cur, h3, h4⟩ := h.2.2 k x y hx hy
  rw [h3.cell i, h4 i hi]
/-- One of the lists' own blocks was turned behind its elements. -/
theorem GsJ.growRow {F : Nat → Nat → Value} (h : GsJ e se z M W base gv rs ys m) (hR : RowsJ e z W B rs F) (hlt : ∀ (k : Nat) (x : RowJ) (g : Nat), rs[k]? = some x → x.v.ownBlock = some g → g < base) {l : Nat} {x : RowJ} (hl : rs[l]? = some x) (hg : W.grownBy W' x.v.ownBlock) (hx : W'.ownsRow B e z x.v x.n (celL (x.n * z) (M l))) (hm : l < ys.length → m x ≤ x.n) : GsJ e se z M W' base gv rs ys m := by
  refine ⟨h.1.kept hg ?_, h.2.1, ?_⟩
  · cases hgv : gv.ownBlock with
    | none => exact .inl rfl
    | some r => exact .inr (fun e => by have h1 := hlt l x r hl e.symm; have h2 := (h.1.lt r hgv).1; omega)
  · intro k x' y' hx' hy'
    obtain ⟨h1, h2, cur, h3, h4⟩ := h.2.2 k x' y' hx' hy'
    by_cases e : x.v.ownBlock = some y'.b
    · have hk : k = l := by
        rcases h2 with h2 | h2
        · exact hR.2 k l x' x y'.b hx' hl h2 e
        · have := hlt l x y'.b hl e; omega
      subst hk
      rw [hl] at hx'
      cases hx'
      have hkl : k < ys.length := (List.getElem?_eq_some_iff.1 hy').1
      rcases hx.2 with ⟨h5, _⟩ | ⟨g, cap, cur', h5, h6, h7, _, _, _, h8⟩
      · rw [h5] at e; cases e
      · have hgb : g = y'.b := by rw [h5] at e; exact Option.some.inj e
        subst hgb
        refine ⟨h1, h2, cur', h7, fun i hi => ?_⟩
        have hi2 : i < x.n * z := Nat.lt_of_lt_of_le hi (Nat.mul_le_mul_right _ (hm hkl))
        have h9 : (cur'.toList.take (x.n * z))[i]? = some (M k i) := by rw [h8, celL_get _ hi2]
        rw [List.getElem?_take, if_pos hi2, Array.getElem?_toList] at h9
        exact h9
    · exact ⟨h1, h2, cur, h3.grow hg e, h4⟩
/-- The list is made longer by one. -/
theorem GsJ.push (h : GsJ e se z M W base gv rs ys m) {x : RowJ} (hx : rs[ys.length]? = some x) {wb : Nat} {v : Value} (hv : W.ownsRow B e z v (x.n + 64) (celL ((x.n + 64) * z) (M ys.length))) (hvb : ∀ g, v.ownBlock = some g → x.v.ownBlock = some g ∨ wb ≤ g) (hwb : base ≤ wb) (hgv : ∀ r, gv.ownBlock = some r → base ≤ r ∧ r < wb) (hlt : ∀ g, x.v.ownBlock = some g → g < base) (hm : m x ≤ x.n + 64) {o : Obj} {gv' : Value}
    (hg : (W.alloc o).grownBy W' gv.ownBlock) (hown : W'.ownsRow base se 1 gv' (ys.length + 1) (List.zipWith slH rs ys ++ [v])) (hnew : gv'.ownBlock = gv.ownBlock ∨ ∃ g, gv'.ownBlock = some g ∧ W.heap.size ≤ g) : ∃ y, v = slH x y ∧ GsJ e se z M W' base gv' rs (ys ++ [y]) m := by
  obtain ⟨g, cap, cur, rfl, hb, hat, hc⟩ := rowz_new hv (by omega)
  refine ⟨⟨g, cap⟩, rfl, ?_, ?_, ?_⟩
  · rw [zipH_snoc hx, List.length_append, List.length_singleton]
    exact hown
  · have := (List.getElem?_eq_some_iff.1 hx).1
    rw [List.length_append, List.length_singleton]
    omega
  · intro k x' y' hx' hy'
    have ne : ∀ b cs t, At W b cs t → gv.ownBlock ≠ some b → gv'.ownBlock ≠ some b ∧ At W' b cs t := by
      intro b cs t hat hne
      refine ⟨?_, (hat.alloc o).grow hg hne⟩
      rcases hnew with e | ⟨g', e, hg'⟩
      · rw [e]; exact hne
      · rw [e]
        intro e2
        have := hat.lt
        have := Option.some.inj e2
        omega
    by_cases hk : k < ys.length
    · rw [List.getElem?_append_left hk] at hy'
      obtain ⟨h1, h2, cur', h3, h4⟩ := h.2.2 k x' y' hx' hy'
      exact ⟨(ne _ _ _ h3 h1).1, h2, cur', (ne _ _ _ h3 h1).2, h4⟩
    · have hkl : k = ys.length := by
        have := (List.getElem?_eq_some_iff.1 hy').1
        rw [List.length_append, List.length_singleton] at this
        omega
      subst hkl
      rw [List.getElem?_append_right (Nat.le_refl _), Nat.sub_self] at hy'
      simp at hy'
      subst hy'
      rw [hx] at hx'
      cases hx'
      have hne : gv.ownBlock ≠ some g := fun e => by
        have h1 := hgv g e
        rcases hvb g rfl with h2 | h2
        · have := hlt g h2; omega
        · omega
      refine ⟨(ne _ _ _ hat hne).1, ?_, cur, (ne _ _ _ hat hne).2, fun i hi => ?_⟩
      · rcases hvb g rfl with h2 | h2
        · exact .inl h2
        · exact .inr (Nat.le_trans hwb h2)
      · have hi' : i < (x.n + 64) * z := Nat.lt_of_lt_of_le hi (Nat.mul_le_mul_right _ hm)
        exact hc i _ (celL_get _ hi')
/-- One of its lists is another one now. -/
theorem GsJ.set (h : GsJ e se z M W base gv rs ys m) {k : Nat} {x : RowJ} {y : GrJ} (hx : rs[k]? = some x) (hy : ys[k]? = some y) {nb : Nat} {v : Value} {news : List Value} (hv : W.ownsRow B e z v (x.n + 64) (celL (x.n * z) (M k) ++ news)) (hvb : ∀ g, v.ownBlock = some g → x.v.ownBlock = some g ∨ nb ≤ g) (hnb : base ≤ nb) (hgv : ∀ r, gv.ownBlock = some r → base ≤ r ∧ r < nb) (hlt : ∀ g, x.v.ownBlock = some g → g < base) (hm : m x ≤ x.n) {gg cap : Nat} (hgg : gv = .slice (some ⟨gg, 0, none⟩) ys.length cap) :
    ∃ y', v = slH x y' ∧ GsJ e se z M (W.setCell ⟨gg, k, none⟩ v) base gv rs (ys.set k y') m := by
  have hkl : k < ys.length := (List.getElem?_eq_some_iff.1 hy).1
  obtain ⟨g, cap', cur, rfl, hb, hat, hc⟩ := rowz_new hv (by omega)
  have hglt := hgv gg (by rw [hgg]; rfl)
  have hgne : g ≠ gg := fun e => by
    rcases hvb g rfl with h2 | h2
    · have := hlt g h2; omega
    · omega
  refine ⟨⟨g, cap'⟩, rfl, ?_, by rw [List.length_set]; exact h.2.1, ?_⟩
  · rcases h.1.2 with ⟨_, h0⟩ | ⟨gg', capx, curx, e, hb', hgb, h3, h4, h5, h6⟩
    · omega
    · rw [hgg] at e
      cases e
      have hat' : At W gg curx se := hgb
      refine ⟨by rw [zipH_set hx, List.length_set, List.length_set]; exact h.1.1, .inr ⟨gg, cap, curx.setIfInBounds k (slH x ⟨g, cap'⟩), by rw [hgg, List.length_set], hb', hat'.set k _, by rw [List.length_set]; exact h3, h4, by rw [Array.size_setIfInBounds]; exact h5, ?_⟩⟩
      rw [List.length_set, Array.toList_setIfInBounds, List.take_set, h6, zipH_set hx]
  · intro l x' y' hx' hy'
    by_cases hl : l = k
    · subst hl
      rw [hx] at hx'
      cases hx'
      rw [List.getElem?_set_self hkl] at hy'
      cases hy'
      refine ⟨fun e => hgne (by rw [hgg] at e; exact (Option.some.inj e).symm), ?_, cur, hat.other (p := ⟨gg, l, none⟩) hgne _, fun i hi => ?_⟩
      · rcases hvb g rfl with h2 | h2
        · exact .inl h2
        · exact .inr (Nat.le_trans hnb h2)
      · have hi' : i < x.n * z := Nat.lt_of_lt_of_le hi (Nat.mul_le_mul_right _ hm)
        refine hc i _ ?_
        rw [List.getElem?_append_left (by rw [celL_len]; exact hi'), celL_get _ hi']
    · rw [List.getElem?_set_ne (by omega)] at hy'
      obtain ⟨h1, h2, cur', h3, h4⟩ := h.2.2 l x' y' hx' hy'
      refine ⟨h1, h2, cur', h3.other (p := ⟨gg, k, none⟩) (fun e => h1 ?_) _, h4⟩
      rw [hgg]
      exact congrArg some e.symm
end

section
variable {P : Program} {w : World} {B wb z bytes i : Nat} {t ty e : TypeId} {ti : TypeInfo} {z0 v : Value} {C : Nat → Value} {x : RowJ}
/-- One element more of a list that grows. -/
theorem growJ_append (ht : P.underlying t = some (.slice e)) (hi : P.info? e = some ti) (hz : ti.zero = some z0) (hsize : ti.size = z) (hby : ti.bytes = bytes) (hzs : z0.cells.size = z) (hsz : 0 < z)
    (hv : GrowJ e z w B wb C x i v) (hx : w.ownsRow B e z x.v x.n (celL (x.n * z) C)) (hxlt : ∀ g, x.v.ownBlock = some g → g < wb) (hwb : wb ≤ w.heap.size) (hBw : B ≤ w.heap.size) (a : Addr) (c : Nat) (hcell : ∀ j, j < z → w.cell? (a.add j) = some (C ((x.n + i) * z + j))) (hone : ∀ j, (C j).oneCell' = true) (h63 : x.n + i + 1 ≤ maxLen) (hbytes : (x.n + i + 1) * bytes ≤ 140737488355328) :
    ∃ v' w', (Builtin.append_ #[t, t] ty #[v, .slice (some a) 1 c]).run P w = .ok v' w' ∧ GrowJ e z w' B wb C x (i + 1) v' ∧ w.grownBy w' v.ownBlock ∧ w'.ownsRow B e z x.v x.n (celL (x.n * z) C) := by
  obtain ⟨v', w', hr, h1, h2⟩ := appendJ (ty := ty) ht hi hz hsize hby hzs hsz hv.1 a 1 c (celL z fun j => C ((x.n + i) * z + j)) (by rw [celL_len, Nat.one_mul]) (fun j u hj => by
    by_cases hjz : j < z
    · rw [celL_get _ hjz] at hj
      rw [hcell j hjz]
      exact hj
    · simp [celL, hjz] at hj) (fun u hu => by
    simp only [celL, List.mem_map] at hu
    obtain ⟨j, -, rfl⟩ := hu
    exact hone _) h63 hbytes hBw
  rw [celL_snoc, show (x.n + i) * z + z = (x.n + (i + 1)) * z by rw [← Nat.add_assoc, Nat.add_mul (x.n + i) 1, Nat.one_mul]] at h1
  refine ⟨v', w', hr, ?_⟩
  rcases h2 with ⟨g, cap, rfl, rfl, h3⟩ | ⟨h3, h4⟩
  · rcases hv.2 with ⟨so, cap0, h5, h6⟩ | h5
    · simp only [Value.slice.injEq, true_and] at h6
      obtain ⟨rfl, rfl⟩ := h6
      refine ⟨⟨h1, .inl ⟨_, _, h5, rfl⟩⟩, h3, ?_⟩
      have h7 := rowz_shorter (b := x.n) h1 (by omega)
      rw [show (x.n + (i + 1)) * z = x.n * z + (i + 1) * z by rw [Nat.add_mul], celL_take] at h7
      rw [h5]
      exact h7
    · refine ⟨⟨h1, .inr h5⟩, h3, hx.kept h3 ?_⟩
      cases hq : x.v.ownBlock with
      | none => exact .inl rfl
      | some q => exact .inr (fun e => by have h7 := hxlt q hq; have h8 := h5 q (by rw [e]; rfl); omega)
  · exact ⟨⟨h1, .inr (fun g hg => Nat.le_trans hwb (h3 g hg))⟩, h4.but _, hx.kept h4 (by cases h : x.v.ownBlock <;> simp)⟩
/-- Many elements more of one of the lists. -/
theorem manyJ_append (ht : P.underlying t = some (.slice e)) (hi : P.info? e = some ti) (hz : ti.zero = some z0) (hsize : ti.size = z) (hby : ti.bytes = bytes) (hzs : z0.cells.size = z) (hsz : 0 < z)
    (hx : w.ownsRow B e z x.v x.n (celL (x.n * z) C)) (hBw : B ≤ w.heap.size) (a : Addr) (m c : Nat) (news : List Value) (hl : news.length = m * z) (hnews : ∀ j u, news[j]? = some u → w.cell? (a.add j) = some u) (hone : ∀ u ∈ news, u.oneCell' = true) (h63 : x.n + m ≤ maxLen) (hbytes : (x.n + m) * bytes ≤ 140737488355328) :
    ∃ v' w', (Builtin.append_ #[t, t] ty #[x.v, .slice (some a) m c]).run P w = .ok v' w' ∧ w'.ownsRow B e z v' (x.n + m) (celL (x.n * z) C ++ news) ∧ (∀ g, v'.ownBlock = some g → x.v.ownBlock = some g ∨ w.heap.size ≤ g) ∧ w.grownBy w' x.v.ownBlock ∧ w'.ownsRow B e z x.v x.n (celL (x.n * z) C) := by
  obtain ⟨v', w', hr, h1, h2⟩ := appendJ (ty := ty) ht hi hz hsize hby hzs hsz hx a m c news hl hnews hone h63 hbytes hBw
  refine ⟨v', w', hr, h1, ?_⟩
  rcases h2 with ⟨g, cap, h5, rfl, h3⟩ | ⟨h3, h4⟩
  · rw [h5]
    refine ⟨fun g' h => .inl h, h3, ?_⟩
    have h7 := rowz_shorter (b := x.n) h1 (by omega)
    rw [List.take_append_of_le_length (by rw [celL_len]; exact Nat.le_refl _), List.take_of_length_le (by rw [celL_len]; exact Nat.le_refl _)] at h7
    exact h7
  · exact ⟨fun g hg => .inr (h3 g hg), h4.but _, hx.kept h4 (by cases h : x.v.ownBlock <;> simp)⟩
end
end Go.Proofs.Ytiggfigjibggaaa
