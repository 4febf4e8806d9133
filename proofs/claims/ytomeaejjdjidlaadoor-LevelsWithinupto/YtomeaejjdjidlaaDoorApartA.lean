/-
  ApartKit, ApartKit2, ApartKit3, ApartKit4, ApartWords, ApartRows, LentWords, OverWords, ApartKit5.
-/
import Derived.Test.YtomeaejjdjidlaaDoorBitsB
import Derived.Test.YtomeaejjdjidlaaDoorKitA
import Derived.Test.YtomeaejjdjidlaaDoorBitsC
import Derived.Laws.AppendOwn
import Derived.ArgAppend
import Derived.Deep.RegionHeld
import Derived.Deep.DeepCutAuto
/-
  Several rows of words that lie apart: what a store into one of them leaves of the others.
-/
namespace Go.Proofs.YtomeaejjdjidlaaDoor
open Go.RowKit

/-- One of several rows: its block and its length (no block: no words). -/
structure RowX where
  g : Option Nat
  r : Nat
/-- The row as a slice without room. -/
def slX (x : RowX) : Value := .slice (x.g.map fun g => ⟨g, 0, none⟩) x.r x.r
/-- The rows lie apart, from B on, each with its words. -/
def RowsX (w : World) (B : Nat) (rs : List RowX) (F : Nat → Nat → Nat) : Prop :=
  (∀ (k : Nat) (x : RowX), rs[k]? = some x → (x.g = none → x.r = 0) ∧ ∀ g, x.g = some g → B ≤ g ∧ At w g (rowCells x.r (F k)) 22) ∧
    ∀ (k l : Nat) (x y : RowX) (g : Nat), rs[k]? = some x → rs[l]? = some y → x.g = some g → y.g = some g → k = l
section
variable {w w' : World} {B : Nat} {rs : List RowX} {F : Nat → Nat → Nat}
theorem RowsX.at (h : RowsX w B rs F) {k : Nat} {x : RowX} (hk : rs[k]? = some x) {i : Nat} (hi : i < x.r) : ∃ g, x.g = some g ∧ B ≤ g ∧ At w g (rowCells x.r (F k)) 22 ∧ w.cell? ⟨g, i, none⟩ = some (.int .u64 ((F k i : Nat) : Int)) ∧ w.frozen? ⟨g, i, none⟩ = false := by
  obtain ⟨h1, h2⟩ := h.1 k x hk
  cases hg : x.g with
  | none => have := h1 hg; omega
  | some g =>
    obtain ⟨h3, h4⟩ := h2 g hg
    exact ⟨g, rfl, h3, h4, (h4.cell i).trans (rowCells_get _ hi), h4.frozen i⟩
theorem RowsX.kept (h : RowsX w B rs F) (hb : Below w.heap.size w w') : RowsX w' B rs F :=
  ⟨fun k x hk => ⟨(h.1 k x hk).1, fun g hg => ⟨((h.1 k x hk).2 g hg).1, ((h.1 k x hk).2 g hg).2.keptAll hb⟩⟩, h.2⟩
/-- A store into a block ahead of all rows. -/
theorem RowsX.other (h : RowsX w B rs F) {b i : Nat} (hb : b < B) (v : Value) : RowsX (w.setCell ⟨b, i, none⟩ v) B rs F :=
  ⟨fun k x hk => ⟨(h.1 k x hk).1, fun g hg => ⟨((h.1 k x hk).2 g hg).1, ((h.1 k x hk).2 g hg).2.other (p := ⟨b, i, none⟩) (by have := ((h.1 k x hk).2 g hg).1; show g ≠ b; omega) v⟩⟩, h.2⟩
/-- A store into one of the rows: the others are as they were. -/
theorem RowsX.set (h : RowsX w B rs F) {k : Nat} {x : RowX} {g : Nat} (hk : rs[k]? = some x) (hg : x.g = some g) (i v : Nat) :
    RowsX (w.setCell ⟨g, i, none⟩ (.int .u64 ((v : Nat) : Int))) B rs (fun l j => if l = k ∧ j = i then v else F l j) := by
  refine ⟨fun l y hl => ⟨(h.1 l y hl).1, fun g' hg' => ?_⟩, h.2⟩
  obtain ⟨h3, h4⟩ := (h.1 l y hl).2 g' hg'
  refine ⟨h3, ?_⟩
  by_cases e : g' = g
  · subst e
    have e2 : l = k := h.2 l k y x g' hl hk hg' hg
    subst e2
    obtain rfl : y = x := by rw [hl] at hk; exact Option.some.inj hk
    have := h4.set i (.int .u64 ((v : Nat) : Int))
    rw [rowCells_set] at this
    rw [rowCells_congr (Y' := fun j => if j = i then v else F l j) (fun j _ => by simp)]
    exact this
  · have hlk : l ≠ k := fun e2 => by
      subst e2
      rw [hl] at hk
      cases hk
      rw [hg] at hg'
      exact e (Option.some.inj hg').symm
    rw [rowCells_congr (Y' := F l) (fun j _ => by simp [hlk])]
    exact h4.other (p := ⟨g, i, none⟩) e _
theorem RowsX.congr {F' : Nat → Nat → Nat} (h : RowsX w B rs F) (hF : ∀ k x j, rs[k]? = some x → j < x.r → F k j = F' k j) : RowsX w B rs F' :=
  ⟨fun k x hk => ⟨(h.1 k x hk).1, fun g hg => ⟨((h.1 k x hk).2 g hg).1, by rw [rowCells_congr (Y' := F k) (fun j hj => (hF k x j hk hj).symm)]; exact ((h.1 k x hk).2 g hg).2⟩⟩, h.2⟩
end
end Go.Proofs.YtomeaejjdjidlaaDoor

/-
  What quarrykit.mark answers; an append to a row without room makes a new row.
-/
namespace Go.Proofs.YtomeaejjdjidlaaDoor
open Go.RowKit

/-- The mark of a place. -/
def markN (k i : Nat) : Nat := 1000003 * (k + 7) + i
set_option maxRecDepth 10000 in
theorem mark_calls (k i : Nat) (hk : k ≤ 1000000) (hi : i ≤ 17592186044416) (w : World) : Calls Tryd.prog 35 #[.int .i64 (k : Int), .int .i64 (i : Int)] w fun e w' => e = .returned (.int .i64 ((markN k i : Nat) : Int)) ∧ w' = w := by
  have e1 := hid (show wrap64 ((k : Int) + 7) = (k : Int) + 7 by unfold wrap64; omega)
  have e2 := hid (show wrap64 (1000003 * ((k : Int) + 7)) = 1000003 * ((k : Int) + 7) by unfold wrap64; omega)
  have e3 := hid (show wrap64 (1000003 * ((k : Int) + 7) + (i : Int)) = ((markN k i : Nat) : Int) by unfold wrap64 markN; omega)
  clear hk hi
  go_enter Tryd.func35, Tryd.ntmps35
  go_wp2
  go_ret
  refine ⟨?_, rfl⟩
  show Ending.returned (Value.int .i64 (wrap64 (wrap64 (1000003 * wrap64 ((k : Int) + 7)) + (i : Int)))) = _
  rw [e1.out, e2.out, e3.out]
/-- The words as cells. -/
def wdsL (r : Nat) (Y : Nat → Nat) : List Value := (List.range r).map fun j => Value.int .u64 ((Y j : Nat) : Int)
theorem rowCells_list (r : Nat) (Y : Nat → Nat) : (rowCells r Y).toList = wdsL r Y := rfl
theorem wdsL_len (r : Nat) (Y : Nat → Nat) : (wdsL r Y).length = r := by simp [wdsL]
/-- append(row, words...) where the row has no room: a new row. -/
theorem append_first {w : World} {B : Nat} {rs : List RowX} {F : Nat → Nat → Nat} (h : RowsX w B rs F) {k : Nat} {x : RowX} (hk : rs[k]? = some x) {ty : TypeId} (ad : Addr) (m c : Nat) (news : List Value) (hl : news.length = m) (hm : 0 < m) (hnews : ∀ j u, news[j]? = some u → w.cell? (ad.add j) = some u) (ho : ∀ u ∈ news, u.oneCell' = true) (hr : x.r + m ≤ 17592186044415) :
    ∃ v' w', (Builtin.append_ #[32, 32] ty #[slX x, .slice (some ad) m c]).run Tryd.prog w = .ok v' w' ∧ w'.ownsRow w.heap.size 22 1 v' (x.r + m) (wdsL x.r (F k) ++ news) ∧ Below w.heap.size w w' := by
  obtain ⟨i0, hi, hz0, hz1, hz2⟩ := info_parts infoW
  have hml : x.r + m ≤ maxLen := by unfold maxLen; omega
  have hby : (x.r + m) * 8 ≤ 140737488355328 := by omega
  cases hg : x.g with
  | none =>
    have h0 := (h.1 k x hk).1 hg
    obtain ⟨v', w', hr2, s1, s2, -⟩ := run_append_own (P := Tryd.prog) w w.heap.size 32 ty 22 i0 (.int .u64 0) 1 8 Tryd.underlying32 hi hz0 hz1 hz2 rfl (by decide) (.slice none 0 0) 0 [] (World.ownsRow_nil w _ _ _) ad m c news (by rw [hl, Nat.mul_one]) hnews ho (by omega) (by omega) (Nat.le_refl _)
    refine ⟨v', w', ?_, ?_, ?_⟩
    · rw [show slX x = .slice none 0 0 by unfold slX; rw [hg, h0]; rfl]
      exact hr2
    · rw [h0]
      exact s1
    · exact (Below.refl _ w).grown s2 (Nat.le_refl _) (fun k e => by cases e)
  | some g =>
    obtain ⟨h3, h4⟩ := (h.1 k x hk).2 g hg
    have hcells : ∀ j u, (wdsL x.r (F k))[j]? = some u → w.cell? ((⟨g, 0, none⟩ : Addr).add j) = some u := by
      intro j u hj
      have e : (⟨g, 0, none⟩ : Addr).add j = ⟨g, j, none⟩ := by by_cases h : j = 0 <;> simp [Addr.add, h]
      rw [e, h4.cell j, ← Array.getElem?_toList, rowCells_list]
      exact hj
    obtain ⟨v', w', hr2, s1, s2⟩ := run_append_arg_grows (P := Tryd.prog) w 32 ty 22 i0 (.int .u64 0) 1 8 Tryd.underlying32 hi hz0 hz1 hz2 rfl (by decide) ⟨g, 0, none⟩ x.r x.r (wdsL x.r (F k)) (by rw [wdsL_len, Nat.mul_one]) hcells ad m c news (by rw [hl, Nat.mul_one]) hnews (by omega) hml hby
    refine ⟨v', w', ?_, s1, ?_⟩
    · rw [show slX x = .slice (some ⟨g, 0, none⟩) x.r x.r by unfold slX; rw [hg]; rfl]
      exact hr2
    · exact (Below.refl _ w).grown s2 (Nat.le_refl _) (fun k e => by cases e)
end Go.Proofs.YtomeaejjdjidlaaDoor

/-
  What a call that lays over several rows leaves; a list of rows of its own.
-/
namespace Go.Proofs.YtomeaejjdjidlaaDoor
open Go.RowKit

/-- All but the rows is as it was; what lay ahead of B wholly so. -/
def ApartK (B : Nat) (rs : List RowX) (A W : World) : Prop := Below B A W ∧ ∀ b cs t, At A b cs t → (∀ (k : Nat) (x : RowX), rs[k]? = some x → x.g ≠ some b) → At W b cs t
section
variable {B : Nat} {rs : List RowX} {A W W' : World}
theorem ApartK.refl (B : Nat) (rs : List RowX) (A : World) : ApartK B rs A A := ⟨Below.refl _ _, fun _ _ _ h _ => h⟩
theorem ApartK.size (h : ApartK B rs A W) : A.heap.size ≤ W.heap.size := h.1.size
theorem ApartK.kept (h : ApartK B rs A W) (hb : Below W.heap.size W W') (hB : B ≤ W.heap.size) : ApartK B rs A W' := ⟨h.1.trans (hb.mono hB), fun b cs t h1 h2 => (h.2 b cs t h1 h2).keptAll hb⟩
theorem ApartK.row (h : ApartK B rs A W) {k : Nat} {x : RowX} {g : Nat} (hk : rs[k]? = some x) (hg : x.g = some g) (hB : B ≤ g) (i : Nat) (v : Value) : ApartK B rs A (W.setCell ⟨g, i, none⟩ v) :=
  ⟨h.1.setCell (p := ⟨g, i, none⟩) hB v, fun b cs t h1 h2 => (h.2 b cs t h1 h2).other (p := ⟨g, i, none⟩) (fun e => h2 k x hk (by rw [hg]; exact congrArg some e.symm)) v⟩
theorem ApartK.own (h : ApartK B rs A W) {b : Nat} (hb : A.heap.size ≤ b) (hB : B ≤ b) (i : Nat) (v : Value) : ApartK B rs A (W.setCell ⟨b, i, none⟩ v) :=
  ⟨h.1.setCell (p := ⟨b, i, none⟩) hB v, fun b' cs t h1 h2 => (h.2 b' cs t h1 h2).other (p := ⟨b, i, none⟩) (by have := h1.lt; show b' ≠ b; omega) v⟩
theorem ApartK.grown (h : ApartK B rs A W) {row : Option Nat} (hg : W.grownBy W' row) (hr : ∀ r, row = some r → A.heap.size ≤ r) (hB : B ≤ A.heap.size) : ApartK B rs A W' :=
  ⟨h.1.grown hg (Nat.le_trans hB h.size) (fun b e => Nat.le_trans hB (hr b e)), fun b cs t h1 h2 => (hg.block b (h.2 b cs t h1 h2).lt (fun e => by have := hr b e.symm; have := h1.lt; omega)).trans (h.2 b cs t h1 h2)⟩
theorem At.grow {b : Nat} {cs : Array Value} {t : TypeId} {row : Option Nat} (h : At W b cs t) (hg : W.grownBy W' row) (hr : row ≠ some b) : At W' b cs t := (hg.block b h.lt (fun e => hr e.symm)).trans h
theorem RowsX.grown {F : Nat → Nat → Nat} (h : RowsX W B rs F) {row : Option Nat} (hg : W.grownBy W' row) (hr : ∀ (k : Nat) (x : RowX), rs[k]? = some x → x.g = none ∨ x.g ≠ row) : RowsX W' B rs F :=
  ⟨fun k x hk => ⟨(h.1 k x hk).1, fun g e => ⟨((h.1 k x hk).2 g e).1, ((h.1 k x hk).2 g e).2.grow hg (fun e2 => by
    rcases hr k x hk with h1 | h1
    · rw [h1] at e; cases e
    · exact h1 (by rw [e, e2]))⟩⟩, h.2⟩
theorem ApartK.drew (h : ApartK B rs A W) : ApartK B rs A W.drew := ⟨h.1.drew, fun b cs t h1 h2 => (h.2 b cs t h1 h2).drew⟩
theorem RowsX.drew {F : Nat → Nat → Nat} (h : RowsX W B rs F) : RowsX W.drew B rs F := h.kept (Below.refl _ W).drew
theorem RowsX.off {F : Nat → Nat → Nat} (h : RowsX W B rs F) {b i : Nat} (hb : ∀ (k : Nat) (x : RowX) (g : Nat), rs[k]? = some x → x.g = some g → g ≠ b) (v : Value) : RowsX (W.setCell ⟨b, i, none⟩ v) B rs F :=
  ⟨fun k x hk => ⟨(h.1 k x hk).1, fun g hg => ⟨((h.1 k x hk).2 g hg).1, ((h.1 k x hk).2 g hg).2.other (p := ⟨b, i, none⟩) (hb k x g hk hg) v⟩⟩, h.2⟩
theorem RowsX.lt {F : Nat → Nat → Nat} (h : RowsX W B rs F) {k : Nat} {x : RowX} (hk : rs[k]? = some x) {g : Nat} (hg : x.g = some g) : g < W.heap.size := ((h.1 k x hk).2 g hg).2.lt
end

/-- One of the lists that a row was appended to: its block and its room. -/
structure GrX where
  b : Nat
  c : Nat
def slG (x : RowX) (y : GrX) : Value := .slice (some ⟨y.b, 0, none⟩) (x.r + 64) y.c
/-- The list gs: of each row a list of its own, of 64 words more, that begins with m marks. -/
def GsI (W : World) (base : Nat) (gv : Value) (rs : List RowX) (ys : List GrX) (m : RowX → Nat) : Prop :=
  W.ownsRow base 32 1 gv ys.length (List.zipWith slG rs ys) ∧ ys.length ≤ rs.length ∧
    ∀ (k : Nat) (x : RowX) (y : GrX), rs[k]? = some x → ys[k]? = some y → base ≤ y.b ∧ gv.ownBlock ≠ some y.b ∧ ∃ cur, At W y.b cur 22 ∧ ∀ i, i < m x → cur[i]? = some (.int .u64 ((markN k i : Nat) : Int))
theorem infoS : (Tryd.prog.info? 32).map (fun i => (i.zero, i.size, i.bytes)) = some (some (.slice none 0 0), 1, 24) := by kernel_rfl
theorem appendS_apart {w : World} {base n : Nat} {ty : TypeId} {v x : Value} {xs : List Value} (hown : w.ownsRow base 32 1 v n xs) (ad : Addr) (c : Nat) (hcell : w.cell? (ad.add 0) = some x) (h1 : x.oneCell' = true) (hn : n < 1000000) (hbase : base ≤ w.heap.size) :
    ∃ v' w', (Builtin.append_ #[43, 43] ty #[v, .slice (some ad) 1 c]).run Tryd.prog w = .ok v' w' ∧ w'.ownsRow base 32 1 v' (n + 1) (xs ++ [x]) ∧ w.grownBy w' v.ownBlock ∧ (v'.ownBlock = v.ownBlock ∨ ∃ g, v'.ownBlock = some g ∧ w.heap.size ≤ g) := by
  obtain ⟨i0, hi, hz0, hz1, hz2⟩ := info_parts infoS
  have hl : [x].length = 1 * 1 := rfl
  have hnews : ∀ j u, [x][j]? = some u → w.cell? (ad.add j) = some u := by
    intro j u hj
    match j, hj with
    | 0, hj => simp at hj; subst hj; exact hcell
  have ho : ∀ u ∈ [x], u.oneCell' = true := by intro u hu; simp at hu; subst hu; exact h1
  have hm : n + 1 ≤ maxLen := by unfold maxLen; omega
  have hby : (n + 1) * 24 ≤ 140737488355328 := by omega
  obtain ⟨v', w', hr, r1, r2, -⟩ := run_append_own (P := Tryd.prog) w base 43 ty 32 i0 (.slice none 0 0) 1 24 Tryd.underlying43 hi hz0 hz1 hz2 rfl (by decide) v n xs hown ad 1 c [x] hl hnews ho hm hby hbase
  refine ⟨v', w', hr, r1, r2, ?_⟩
  have new : ∀ {v'' : Value} {w'' : World} {ys : List Value}, w''.ownsRow w.heap.size 32 1 v'' (n + 1) ys → v' = v'' → ∃ g, v'.ownBlock = some g ∧ w.heap.size ≤ g := by
    rintro v'' w'' ys ⟨-, ⟨-, h⟩ | ⟨g, cap, cur, rfl, hg, -⟩⟩ rfl
    · omega
    · exact ⟨g, rfl, hg⟩
  rcases hown.2 with ⟨rfl, rfl⟩ | ⟨g, cap, cur, rfl, hb, hg, hnc, hcm, hcs, htk⟩
  · obtain ⟨v'', w'', hr2, s1, -, -⟩ := run_append_own (P := Tryd.prog) w w.heap.size 43 ty 32 i0 (.slice none 0 0) 1 24 Tryd.underlying43 hi hz0 hz1 hz2 rfl (by decide) (.slice none 0 0) 0 [] (World.ownsRow_nil w _ _ _) ad 1 c [x] hl hnews ho hm hby (Nat.le_refl _)
    rw [hr] at hr2
    obtain ⟨rfl, rfl⟩ : v' = v'' ∧ w' = w'' := by simpa using hr2
    exact .inr (new s1 rfl)
  · have hcells := hown.cells (g := g) rfl
    by_cases hgr : cap < n + 1
    · obtain ⟨v'', w'', hr2, s1, -⟩ := run_append_arg_grows (P := Tryd.prog) w 43 ty 32 i0 (.slice none 0 0) 1 24 Tryd.underlying43 hi hz0 hz1 hz2 rfl (by decide) ⟨g, 0, none⟩ n cap xs hown.1 hcells ad 1 c [x] hl hnews hgr hm hby
      rw [hr] at hr2
      obtain ⟨rfl, rfl⟩ : v' = v'' ∧ w' = w'' := by simpa using hr2
      exact .inr (new s1 rfl)
    · have hat : At w g cur 32 := hg
      have hr2 := run_append_room_cells (P := Tryd.prog) w 43 ty 32 i0 Tryd.underlying43 hi g 0 n cap ad 1 c [x] (by rw [hz1]; exact hl) hnews ho (by omega) (fun j hj => by
          have e := hat.cell (0 + n * i0.size + j)
          rw [e, Array.getElem?_eq_getElem (by rw [hz1]; simp at hj; omega)]; rfl) (fun j hj => hat.frozen _)
      rw [hr] at hr2
      obtain ⟨rfl, -⟩ : v' = _ ∧ w' = _ := by simpa using hr2
      exact .inl rfl
theorem wpList_appendS {ops : Array Oper} {rest : List Oper} {o : Oper} {a : Act} {w : World} {Q : Exit → Act → World → Prop} (hgd : o.guard = none) (s y : Operand)
    (ho : o.op = .call { callee := .builtin .append, args := #[s, y], argTypes := #[43, 43] }) (base : Nat) (v x : Value) (n : Nat) (xs : List Value) (hs : a.eval s = v) (hown : w.ownsRow base 32 1 v n xs)
    (ad : Addr) (c : Nat) (hy : a.eval y = .slice (some ad) 1 c) (hcell : w.cell? (ad.add 0) = some x) (h1 : x.oneCell' = true) (hn : n < 1000000) (hbase : base ≤ w.heap.size)
    (h : ∀ v' w', w'.ownsRow base 32 1 v' (n + 1) (xs ++ [x]) → w.grownBy w' v.ownBlock → (v'.ownBlock = v.ownBlock ∨ ∃ g, v'.ownBlock = some g ∧ w.heap.size ≤ g) → wpList Tryd.prog ops Q rest (a.put o.dst v') w') : wpList Tryd.prog ops Q (o :: rest) a w := by
  refine wpList_plain hgd fun K hK => ?_
  obtain ⟨v', w', hr, r1, r2, r3⟩ := appendS_apart (ty := o.type) hown ad c hcell h1 hn hbase
  unfold Oper.wp
  simp [execOp, ho, resolve, invoke, builtin, hs, hy, hr, Result.andThen]
  exact hK _ _ (h v' w' r1 r2 r3)

/-- A list that grows out of the row x: at first the row itself, then a row of its own from wb on. -/
def GrowI (W : World) (wb : Nat) (k : Nat) (x : RowX) (i : Nat) (v : Value) : Prop := (i = 0 ∧ v = slX x) ∨ W.ownsRow wb 22 1 v (x.r + i) (wdsL (x.r + i) (markN k))
theorem wdsL_snoc (r : Nat) (Y : Nat → Nat) : wdsL r Y ++ [.int .u64 ((Y r : Nat) : Int)] = wdsL (r + 1) Y := by simp [wdsL, List.range_succ]
theorem wdsL_congr {r : Nat} {Y Z : Nat → Nat} (h : ∀ j, j < r → Y j = Z j) : wdsL r Y = wdsL r Z := by
  unfold wdsL
  apply List.map_congr_left
  intro j hj
  rw [h j (by simpa using hj)]
theorem grow_append {W : World} {B : Nat} {rs : List RowX} {F : Nat → Nat → Nat} (h : RowsX W B rs F) {k : Nat} {x : RowX} (hk : rs[k]? = some x) (hF : ∀ j, j < x.r → F k j = markN k j) {ty : TypeId} {wb i : Nat} {v : Value} (hv : GrowI W wb k x i v) (hwb : wb ≤ W.heap.size) (ad : Addr) (c : Nat) (hcell : W.cell? (ad.add 0) = some (.int .u64 ((markN k (x.r + i) : Nat) : Int))) (hr : x.r + i + 1 ≤ 17592186044415) :
    ∃ v' w', (Builtin.append_ #[32, 32] ty #[v, .slice (some ad) 1 c]).run Tryd.prog W = .ok v' w' ∧ GrowI w' wb k x (i + 1) v' ∧ Below wb W w' := by
  obtain ⟨i0, hi, hz0, hz1, hz2⟩ := info_parts infoW
  have hnews : ∀ j u, [Value.int .u64 ((markN k (x.r + i) : Nat) : Int)][j]? = some u → W.cell? (ad.add j) = some u := by
    intro j u hj
    match j, hj with
    | 0, hj => simp at hj; subst hj; exact hcell
  have ho : ∀ u ∈ [Value.int .u64 ((markN k (x.r + i) : Nat) : Int)], u.oneCell' = true := by intro u hu; simp at hu; subst hu; rfl
  rcases hv with ⟨rfl, rfl⟩ | hv
  · obtain ⟨v', w', hr1, hr2, hr3⟩ := append_first h hk (ty := ty) ad 1 c _ rfl (by decide) hnews ho (by omega)
    refine ⟨v', w', hr1, .inr ?_, hr3.mono hwb⟩
    have e : wdsL x.r (F k) ++ [Value.int .u64 ((markN k (x.r + 0) : Nat) : Int)] = wdsL (x.r + (0 + 1)) (markN k) := by
      rw [wdsL_congr hF, Nat.add_zero, wdsL_snoc]
    rw [e] at hr2
    exact row_base hr2 hwb
  · obtain ⟨v', w', hr1, s1, s2, -⟩ := run_append_own (P := Tryd.prog) W wb 32 ty 22 i0 (.int .u64 0) 1 8 Tryd.underlying32 hi hz0 hz1 hz2 rfl (by decide) v (x.r + i) _ hv ad 1 c _ rfl hnews ho (by unfold maxLen; omega) (by omega) hwb
    rw [wdsL_snoc] at s1
    exact ⟨v', w', hr1, .inr s1, (Below.refl _ W).grown s2 hwb (fun b e => (hv.lt b e).1)⟩
theorem wpList_grow {ops : Array Oper} {rest : List Oper} {o : Oper} {a : Act} {W : World} {Q : Exit → Act → World → Prop} (hgd : o.guard = none) (s y : Operand)
    (ho : o.op = .call { callee := .builtin .append, args := #[s, y], argTypes := #[32, 32] }) {B : Nat} {rs : List RowX} {F : Nat → Nat → Nat} (h : RowsX W B rs F) {k : Nat} {x : RowX} (hk : rs[k]? = some x) (hF : ∀ j, j < x.r → F k j = markN k j) {wb i : Nat} {v : Value} (hs : a.eval s = v) (hv : GrowI W wb k x i v) (hwb : wb ≤ W.heap.size) (ad : Addr) (c : Nat) (hy : a.eval y = .slice (some ad) 1 c) (hcell : W.cell? (ad.add 0) = some (.int .u64 ((markN k (x.r + i) : Nat) : Int))) (hr : x.r + i + 1 ≤ 17592186044415)
    (hQ : ∀ v' w', GrowI w' wb k x (i + 1) v' → Below wb W w' → wpList Tryd.prog ops Q rest (a.put o.dst v') w') : wpList Tryd.prog ops Q (o :: rest) a W := by
  refine wpList_plain hgd fun K hK => ?_
  obtain ⟨v', w', hr, r1, r2⟩ := grow_append h hk hF (ty := o.type) hv hwb ad c hcell hr
  unfold Oper.wp
  simp [execOp, ho, resolve, invoke, builtin, hs, hy, hr, Result.andThen]
  exact hK _ _ (hQ v' w' r1 r2)
/-- append(row, words...) as an operation: a new row. -/
theorem wpList_first {ops : Array Oper} {rest : List Oper} {o : Oper} {a : Act} {W : World} {Q : Exit → Act → World → Prop} (hgd : o.guard = none) (s y : Operand)
    (ho : o.op = .call { callee := .builtin .append, args := #[s, y], argTypes := #[32, 32] }) {B : Nat} {rs : List RowX} {F : Nat → Nat → Nat} (h : RowsX W B rs F) {k : Nat} {x : RowX} (hk : rs[k]? = some x) (hs : a.eval s = slX x) (ad : Addr) (m c : Nat) (news : List Value) (hy : a.eval y = .slice (some ad) m c) (hl : news.length = m) (hm : 0 < m) (hnews : ∀ j u, news[j]? = some u → W.cell? (ad.add j) = some u) (h1 : ∀ u ∈ news, u.oneCell' = true) (hr : x.r + m ≤ 17592186044415)
    (hQ : ∀ v' w', w'.ownsRow W.heap.size 22 1 v' (x.r + m) (wdsL x.r (F k) ++ news) → Below W.heap.size W w' → wpList Tryd.prog ops Q rest (a.put o.dst v') w') : wpList Tryd.prog ops Q (o :: rest) a W := by
  refine wpList_plain hgd fun K hK => ?_
  obtain ⟨v', w', hr, r1, r2⟩ := append_first h hk (ty := o.type) ad m c news hl hm hnews h1 hr
  unfold Oper.wp
  simp [execOp, ho, resolve, invoke, builtin, hs, hy, hr, Result.andThen]
  exact hK _ _ (hQ v' w' r1 r2)
end Go.Proofs.YtomeaejjdjidlaaDoor

/-
  The list of the lists that rows were appended to: what reads it, makes it longer, lays over it.
-/
namespace Go.Proofs.YtomeaejjdjidlaaDoor
open Go.RowKit

theorem zip_snoc {rs : List RowX} {ys : List GrX} {x : RowX} (h : rs[ys.length]? = some x) (y : GrX) : List.zipWith slG rs (ys ++ [y]) = List.zipWith slG rs ys ++ [slG x y] := by
  induction ys generalizing rs with
  | nil =>
    cases rs with
    | nil => simp at h
    | cons a rs => simp at h; subst h; simp
  | cons b ys ih =>
    cases rs with
    | nil => simp at h
    | cons a rs => simp at h; simp [ih h]
theorem zip_get {rs : List RowX} {ys : List GrX} {k : Nat} {x : RowX} {y : GrX} (hx : rs[k]? = some x) (hy : ys[k]? = some y) : (List.zipWith slG rs ys)[k]? = some (slG x y) := by
  rw [List.getElem?_zipWith, hx, hy]
theorem zip_set {rs : List RowX} {ys : List GrX} {k : Nat} {x : RowX} (hx : rs[k]? = some x) (y : GrX) : List.zipWith slG rs (ys.set k y) = (List.zipWith slG rs ys).set k (slG x y) := by
  induction ys generalizing rs k with
  | nil => simp
  | cons b ys ih =>
    cases rs with
    | nil => simp at hx
    | cons a rs =>
      cases k with
      | zero => simp at hx; subst hx; simp
      | succ k => simp at hx; simp [ih hx]
section
variable {W W' : World} {base : Nat} {gv : Value} {rs : List RowX} {ys : List GrX} {m : RowX → Nat}
theorem GsI.nil (W : World) (base : Nat) (rs : List RowX) (m : RowX → Nat) : GsI W base (.slice none 0 0) rs [] m := ⟨by simpa using World.ownsRow_nil W _ _ _, by simp, fun k x y _ h => by simp at h⟩
theorem GsI.kept (h : GsI W base gv rs ys m) (hb : Below W.heap.size W W') : GsI W' base gv rs ys m :=
  ⟨row_keptAll h.1 hb, h.2.1, fun k x y hx hy => by obtain ⟨h1, h2, cur, h3, h4⟩ := h.2.2 k x y hx hy; exact ⟨h1, h2, cur, h3.keptAll hb, h4⟩⟩
theorem GsI.weaken (h : GsI W base gv rs ys m) {m' : RowX → Nat} (hm : ∀ x, m' x ≤ m x) : GsI W base gv rs ys m' :=
  ⟨h.1, h.2.1, fun k x y hx hy => by obtain ⟨h1, h2, cur, h3, h4⟩ := h.2.2 k x y hx hy; exact ⟨h1, h2, cur, h3, fun i hi => h4 i (Nat.lt_of_lt_of_le hi (hm x))⟩⟩
theorem GsI.at (h : GsI W base gv rs ys m) {k : Nat} {x : RowX} {y : GrX} (hx : rs[k]? = some x) (hy : ys[k]? = some y) : ∃ gg cap, gv = .slice (some ⟨gg, 0, none⟩) ys.length cap ∧ base ≤ gg ∧ gg < W.heap.size ∧ W.cell? ⟨gg, k, none⟩ = some (slG x y) ∧ W.frozen? ⟨gg, k, none⟩ = false := by
  have hkl : k < ys.length := (List.getElem?_eq_some_iff.1 hy).1
  rcases h.1.2 with ⟨_, h0⟩ | ⟨gg, cap, cur, rfl, hb, hgb, h3⟩
  · omega
  · refine ⟨gg, cap, rfl, hb, (show At W gg cur 32 from hgb).lt, ?_, (show At W gg cur 32 from hgb).frozen k⟩
    have := h.1.cells (g := gg) rfl k (slG x y) (zip_get hx hy)
    rwa [show (⟨gg, 0, none⟩ : Addr).add k = ⟨gg, k, none⟩ by by_cases h : k = 0 <;> simp [Addr.add, h]] at this
theorem GsI.word (h : GsI W base gv rs ys m) {k : Nat} {x : RowX} {y : GrX} (hx : rs[k]? = some x) (hy : ys[k]? = some y) {i : Nat} (hi : i < m x) : W.cell? ⟨y.b, i, none⟩ = some (.int .u64 ((markN k i : Nat) : Int)) := by
  obtain ⟨_, _, cur, h3, h4⟩ := h.2.2 k x y hx hy
  rw [h3.cell i, h4 i hi]
theorem row_new {wb r : Nat} {v : Value} {L : List Value} (h : W.ownsRow wb 22 1 v (r + 64) L) : ∃ g cap cur, v = .slice (some ⟨g, 0, none⟩) (r + 64) cap ∧ wb ≤ g ∧ At W g cur 22 ∧ ∀ (i : Nat) (u : Value), L[i]? = some u → cur[i]? = some u := by
  rcases h.2 with ⟨_, h0⟩ | ⟨g, cap, cur, rfl, hb, hgb, h3, h4, h5, h6⟩
  · omega
  · refine ⟨g, cap, cur, rfl, hb, hgb, fun i u hu => ?_⟩
    rw [← h6] at hu
    rw [List.getElem?_take] at hu
    split at hu
    · rwa [Array.getElem?_toList] at hu
    · cases hu
/-- The list is made longer by one. -/
theorem GsI.push (h : GsI W base gv rs ys m) {x : RowX} (hx : rs[ys.length]? = some x) {wb : Nat} {v : Value} (hv : W.ownsRow wb 22 1 v (x.r + 64) (wdsL (x.r + 64) (markN ys.length))) (hwb : base ≤ wb) (hgv : ∀ r, gv.ownBlock = some r → r < wb) (hm : m x ≤ x.r + 64) {o : Obj} {gv' : Value}
    (hg : (W.alloc o).grownBy W' gv.ownBlock) (hown : W'.ownsRow base 32 1 gv' (ys.length + 1) (List.zipWith slG rs ys ++ [v])) (hnew : gv'.ownBlock = gv.ownBlock ∨ ∃ g, gv'.ownBlock = some g ∧ (W.alloc o).heap.size ≤ g) : ∃ y, v = slG x y ∧ GsI W' base gv' rs (ys ++ [y]) m := by
  obtain ⟨g, cap, cur, rfl, hb, hat, hc⟩ := row_new hv
  refine ⟨⟨g, cap⟩, rfl, ?_, ?_, ?_⟩
  · rw [zip_snoc hx, List.length_append, List.length_singleton]
    exact hown
  · have := (List.getElem?_eq_some_iff.1 hx).1
    rw [List.length_append, List.length_singleton]
    omega
  · intro k x' y' hx' hy'
    have ne : ∀ b cs t, At W b cs t → gv.ownBlock ≠ some b → gv'.ownBlock ≠ some b ∧ At W' b cs t := by
      intro b cs t hat hne
      refine ⟨?_, (hat.alloc o).grow hg hne⟩
      rcases hnew with e | ⟨g', e, hg'⟩
      · rw [e]; exact hne
      · rw [e]
        intro e2
        have := hat.lt
        rw [World.size_alloc] at hg'
        have := Option.some.inj e2
        omega
    by_cases hk : k < ys.length
    · rw [List.getElem?_append_left hk] at hy'
      obtain ⟨h1, h2, cur', h3, h4⟩ := h.2.2 k x' y' hx' hy'
      exact ⟨h1, (ne _ _ _ h3 h2).1, cur', (ne _ _ _ h3 h2).2, h4⟩
    · have hkl : k = ys.length := by
        have := (List.getElem?_eq_some_iff.1 hy').1
        rw [List.length_append, List.length_singleton] at this
        omega
      subst hkl
      rw [List.getElem?_append_right (Nat.le_refl _), Nat.sub_self] at hy'
      simp at hy'
      subst hy'
      rw [hx] at hx'
      cases hx'
      have hne : gv.ownBlock ≠ some g := fun e => by have := hgv g e; omega
      refine ⟨Nat.le_trans hwb hb, (ne _ _ _ hat hne).1, cur, (ne _ _ _ hat hne).2, fun i hi => ?_⟩
      have hi' : i < x.r + 64 := Nat.lt_of_lt_of_le hi hm
      exact hc i _ (by simp [wdsL, hi'])
/-- One of its lists is another one now. -/
theorem GsI.set (h : GsI W base gv rs ys m) {k : Nat} {x : RowX} {y : GrX} (hx : rs[k]? = some x) (hy : ys[k]? = some y) {nb : Nat} {v : Value} {F : Nat → Nat} {news : List Value} (hv : W.ownsRow nb 22 1 v (x.r + 64) (wdsL x.r F ++ news)) (hF : ∀ j, j < x.r → F j = markN k j) (hnb : base ≤ nb) (hgv : ∀ r, gv.ownBlock = some r → r < nb) (hm : m x ≤ x.r) {gg cap : Nat} (hgg : gv = .slice (some ⟨gg, 0, none⟩) ys.length cap) :
    ∃ y', v = slG x y' ∧ GsI (W.setCell ⟨gg, k, none⟩ v) base gv rs (ys.set k y') m := by
  have hkl : k < ys.length := (List.getElem?_eq_some_iff.1 hy).1
  obtain ⟨g, cap', cur, rfl, hb, hat, hc⟩ := row_new hv
  have hglt : gg < nb := hgv gg (by rw [hgg]; rfl)
  refine ⟨⟨g, cap'⟩, rfl, ?_, by rw [List.length_set]; exact h.2.1, ?_⟩
  · rcases h.1.2 with ⟨_, h0⟩ | ⟨gg', capx, curx, e, hb', hgb, h3, h4, h5, h6⟩
    · omega
    · rw [hgg] at e
      cases e
      have hat' : At W gg curx 32 := hgb
      refine ⟨by rw [zip_set hx, List.length_set, List.length_set]; exact h.1.1, .inr ⟨gg, cap, curx.setIfInBounds k (slG x ⟨g, cap'⟩), by rw [hgg, List.length_set], hb', hat'.set k _, by rw [List.length_set]; exact h3, h4, by rw [Array.size_setIfInBounds]; exact h5, ?_⟩⟩
      rw [List.length_set, Array.toList_setIfInBounds, List.take_set, h6, zip_set hx]
  · intro l x' y' hx' hy'
    by_cases hl : l = k
    · subst hl
      rw [hx] at hx'
      cases hx'
      rw [List.getElem?_set_self hkl] at hy'
      cases hy'
      have hne : gv.ownBlock ≠ some g := fun e => by have := hgv g e; omega
      refine ⟨Nat.le_trans hnb hb, hne, cur, hat.other (p := ⟨gg, l, none⟩) (by show g ≠ gg; omega) _, fun i hi => ?_⟩
      have hi' : i < x.r := Nat.lt_of_lt_of_le hi hm
      refine hc i _ ?_
      rw [List.getElem?_append_left (by simp [wdsL]; exact hi')]
      simp [wdsL, hi', hF i hi']
    · rw [List.getElem?_set_ne (by omega)] at hy'
      obtain ⟨h1, h2, cur', h3, h4⟩ := h.2.2 l x' y' hx' hy'
      refine ⟨h1, h2, cur', h3.other (p := ⟨gg, k, none⟩) (fun e => h2 ?_) _, h4⟩
      rw [hgg]
      exact congrArg some e.symm
end
end Go.Proofs.YtomeaejjdjidlaaDoor

/-
  What quarrykit.ApartWords answers of rows that lie apart: true.
-/
namespace Go.Proofs.YtomeaejjdjidlaaDoor
open Go.RowKit

set_option maxRecDepth 10000 in
set_option maxHeartbeats 8000000 in
theorem apartW_calls (w : World) (G n cap B : Nat) (rs : List RowX) (F : Nat → Nat → Nat) (cs : Array Value) (ty : TypeId) (hn : rs.length = n) (hn2 : n ≤ 1000) (hr : ∀ x ∈ rs, x.r ≤ 17592186044351) (hBw : B ≤ w.heap.size) (hGa : At w G cs ty) (hGr : ∀ (k : Nat) (x : RowX), rs[k]? = some x → x.g ≠ some G) (hG : ∀ (k : Nat) (x : RowX), rs[k]? = some x → cs[k]? = some (slX x)) (hR : RowsX w B rs F) :
    Calls Tryd.prog 18 #[.slice (some ⟨G, 0, none⟩) n cap] w fun e w' => e = .returned (.bool true) ∧ ApartK B rs w w' := by
  have hGc : Hid (∀ (W : World), ApartK B rs w W → ∀ (k : Nat) (x : RowX), rs[k]? = some x → W.cell? ⟨G, k, none⟩ = some (slX x)) := fun W h k x hk => by
    rw [(h.2 G cs ty hGa hGr).cell k, hG k x hk]
  have hR' := hid hR
  have hn' := hid hn
  have hr' := hid hr
  have hBw' := hid hBw
  have hGr' := hid hGr
  have hgw : Hid (∀ (k : Nat) (x : RowX) (g : Nat), rs[k]? = some x → x.g = some g → g < w.heap.size) := fun k x g hk hg => hR.lt hk hg
  clear hG hR hn hr hGa hGr hBw
  go_enter Tryd.func18, Tryd.ntmps18
  go_wp2
  go_loopw [3, 4] (fun kk _ wr => ∃ k : Nat, k ≤ n ∧ kk = .int .i64 (k : Int) ∧ Hid (RowsX wr B rs (fun l j => if l < k then markN l j else F l j)) ∧ Hid (ApartK B rs w wr)) (fun kk _ _ => n - (intOf kk).toNat)
  case atStart => exact ⟨0, Nat.zero_le _, rfl, hid (hR'.out.congr (fun k x j _ _ => by simp)), hid (ApartK.refl _ _ _)⟩
  case round =>
    obtain ⟨k, hkn, rfl, hX, hB⟩ := hrel
    by_cases hlt : k < n
    · -- <<
      have hki : (k : Int) < (n : Int) := by omega
      obtain ⟨x, hx⟩ : ∃ x, rs[k]? = some x := ⟨_, List.getElem?_eq_getElem (by have := hn'.out; omega)⟩
      have hx' := hid hx
      have hxr := hr'.out x (List.mem_of_getElem? hx)
      clear hx
      go_wp2
      go_loopw [4] (fun ii wr => ∃ i : Nat, i ≤ x.r ∧ ii = .int .i64 (i : Int) ∧ Hid (RowsX wr B rs (fun l j => if l < k ∨ (l = k ∧ j < i) then markN l j else F l j)) ∧ Hid (ApartK B rs w wr)) (fun ii _ => x.r - (intOf ii).toNat)
      case atStart => exact ⟨0, Nat.zero_le _, rfl, hid (hX.out.congr (fun l y j _ _ => by simp)), hB⟩
      case round =>
        obtain ⟨i, hir, rfl, hX2, hB2⟩ := hrel
        have c0 : wr.cell? ⟨G, k, none⟩ = some (.slice (x.g.map fun g => ⟨g, 0, none⟩) x.r x.r) := hGc.out wr hB2.out k x hx'.out
        by_cases hil : i < x.r
        · have hii : (i : Int) < (x.r : Int) := by omega
          obtain ⟨g, hg, hgB, hgA, m0, f0⟩ := hX2.out.at hx'.out hil
          rw [hg] at c0
          simp only [Option.map_some] at c0
          have hmk := hid (mark_calls k i (by omega) (by omega))
          obtain ⟨mk, hmkN⟩ : ∃ mk, Hid (markN k i = mk) := ⟨_, rfl⟩
          have hms : mk < 9223372036854775808 := by rw [← hmkN.out]; unfold markN; omega
          rw [hmkN.out] at hmk
          have hst := hid (hX2.out.set hx'.out hg i mk)
          have hBs := hid (hB2.out.row hx'.out hg hgB i (.int .u64 ((mk : Nat) : Int)))
          have hgG : Hid (g ≠ G) := fun e => hGr'.out k x hx'.out (by rw [hg, e])
          have ewr : IntKind.u64.wrap (mk : Int) = (mk : Int) := by rw [IntKind.wrap_u64]; omega
          have cs' : ∀ v, (wr.setCell ⟨g, i, none⟩ v).cell? ⟨G, k, none⟩ = some (.slice (some ⟨g, 0, none⟩) x.r x.r) := fun v => by
            rw [World.cell?_setCell_other _ _ _ _ (by simp; intro e; exact absurd e hgG.out)]; exact c0
          have cs'' := hid cs'
          clear cs' hgA
          go_wp2_with fail
          rename_i K7 hK7
          refine wp_region_held_drew (S := fun w' => w'.cell? ⟨G, k, none⟩ = some (.slice (some ⟨g, 0, none⟩) x.r x.r)) (by kernel_rfl) c0 (fun hHeld => ?_)
          (refine' wpAnyH_take (i := 0) rfl (by kernel_rfl) (by kernel_rfl) (by kernel_rfl) (fun _ _ _ h => h) (Or.inl ⟨by rfl, ?_⟩) (by assumption) ?_; rotate_left; (· (intro wq hq; (try dsimp only at hq); go_simp; first | done | with_reducible rfl)); simp only [Act.put, List.getElem_toArray, List.getElem_cons_zero, List.setIfInBounds_toArray, List.set_cons_zero, List.set_cons_succ])
          (refine' wpAnyH_take (i := 1) rfl (by kernel_rfl) (by kernel_rfl) (by kernel_rfl) (fun _ _ _ h => h) (Or.inl ⟨by rfl, ?_⟩) (by assumption) ?_; rotate_left; (· (intro wq hq; (try dsimp only at hq); go_simp; first | done | with_reducible rfl)); simp only [Act.put, List.getElem_toArray, List.getElem_cons_zero, List.getElem_cons_succ, List.setIfInBounds_toArray, List.set_cons_zero, List.set_cons_succ])
          (refine' wpAnyH_take (i := 2) rfl (by kernel_rfl) (by kernel_rfl) (by kernel_rfl) (fun _ _ _ h => h) (Or.inl ⟨by rfl, ?_⟩) (by assumption) ?_; rotate_left; (· (intro wq hq; (try dsimp only at hq); go_simp; first | done | with_reducible rfl)); simp only [Act.put, List.getElem_toArray, List.getElem_cons_zero, List.getElem_cons_succ, List.setIfInBounds_toArray, List.set_cons_zero, List.set_cons_succ])
          (refine' wpAnyH_take (i := 3) rfl (by kernel_rfl) (by kernel_rfl) (by kernel_rfl) (fun _ _ _ h => h) (Or.inl ⟨by rfl, ?_⟩) (by assumption) ?_; rotate_left; (· (intro wq hq; (try dsimp only at hq); go_simp; first | done | with_reducible rfl)); simp only [Act.put, List.getElem_toArray, List.getElem_cons_zero, List.getElem_cons_succ, List.setIfInBounds_toArray, List.set_cons_zero, List.set_cons_succ])
          (refine' wpAnyH_take (i := 4) rfl (by kernel_rfl) (by kernel_rfl) (by kernel_rfl) (fun _ _ _ h => h) (Or.inl ⟨by rfl, ?_⟩) (by assumption) ?_; rotate_left; (· (intro wq hq; (try dsimp only at hq); go_simp; first | done | with_reducible rfl)); simp only [Act.put, List.getElem_toArray, List.getElem_cons_zero, List.getElem_cons_succ, List.setIfInBounds_toArray, List.set_cons_zero, List.set_cons_succ])
          (refine' wpAnyH_take (i := 5) rfl (by kernel_rfl) (by kernel_rfl) (by kernel_rfl) (fun _ _ _ h => h) (Or.inl ⟨by rfl, ?_⟩) (by assumption) ?_; rotate_left; (· (intro wq hq; (try dsimp only at hq); go_simp; first | done | with_reducible rfl)); simp only [Act.put, List.getElem_toArray, List.getElem_cons_zero, List.getElem_cons_succ, List.setIfInBounds_toArray, List.set_cons_zero, List.set_cons_succ])
          (refine' wpAnyH_take (i := 6) rfl (by kernel_rfl) (by kernel_rfl) (by kernel_rfl) (fun _ _ _ h => h) (Or.inl ⟨by rfl, ?_⟩) (by assumption) ?_; rotate_left; (· (intro wq hq; (try dsimp only at hq); go_simp; first | done | with_reducible rfl)); simp only [Act.put, List.getElem_toArray, List.getElem_cons_zero, List.getElem_cons_succ, List.setIfInBounds_toArray, List.set_cons_zero, List.set_cons_succ])
          refine wpAnyH_ready (rs := [7]) (by kernel_rfl) (by simp) ?_
          refine AllReadyH.cons rfl (fun K hK => ?_) ?_
          · rw [if_pos (by rfl)]
            go_simp
            refine (hmk.out _).mono ?_
            rintro e wq ⟨rfl, hwq⟩
            rw [hwq]
            clear hwq
            refine hK.out _ _ hHeld (fun hH => ?_)
            clear hK K
            (refine' wpAnyH_take (i := 8) rfl (by kernel_rfl) (by kernel_rfl) (by kernel_rfl) (fun _ _ _ h => h) (Or.inl ⟨by rfl, ?_⟩) (by assumption) ?_; rotate_left; (· (intro wq hq; (try dsimp only at hq); go_simp; first | done | with_reducible rfl)); simp only [Act.put, List.getElem_toArray, List.getElem_cons_zero, List.getElem_cons_succ, List.setIfInBounds_toArray, List.set_cons_zero, List.set_cons_succ])
            (refine' wpAnyH_take (i := 9) rfl (by kernel_rfl) (by kernel_rfl) (by kernel_rfl) (fun _ _ _ h => h) (Or.inl ⟨by rfl, ?_⟩) (by assumption) ?_; rotate_left; (· (intro wq hq; (try dsimp only at hq); go_simp; first | done | with_reducible rfl)); simp only [Act.put, List.getElem_toArray, List.getElem_cons_zero, List.getElem_cons_succ, List.setIfInBounds_toArray, List.set_cons_zero, List.set_cons_succ])
            refine wpAnyH_ready (rs := [10]) (by kernel_rfl) (by simp) ?_
            refine AllReadyH.cons rfl (fun K hK => ?_) ?_
            · go_simp
              refine hK.out _ _ (cs''.out _) (fun hH2 => ?_)
              clear hK K
              refine wpAnyH_done (by kernel_rfl) ?_ _
              refine hK7 _ _ ?_
              go_wp2
              go_roundw
              case rel =>
                refine ⟨i + 1, by omega, by simp, hid (hst.out.drew.congr (fun l y j _ _ => ?_)), hid hBs.out.drew⟩
                by_cases h1 : l = k ∧ j = i
                · obtain ⟨rfl, rfl⟩ := h1
                  simp [hmkN.out]
                · have h2 : (l < k ∨ l = k ∧ j < i) ↔ (l < k ∨ l = k ∧ j < i + 1) := by omega
                  simp only [h1, if_false, h2]
              case measure => simp [intOf]; omega
            · exact AllReadyH.nil
          · exact AllReadyH.nil
        · obtain rfl : i = x.r := by omega
          go_wp2
          go_roundw
          case rel => exact ⟨k + 1, by omega, by simp, hid (hX2.out.congr (fun l y j hl hj => by
                        by_cases h1 : l = k
                        · subst h1
                          obtain rfl : y = x := by rw [hx'.out] at hl; exact (Option.some.inj hl).symm
                          simp [hj]
                        · have h2 : (l < k ∨ l = k ∧ j < x.r) ↔ l < k + 1 := by omega
                          simp only [h2])), hB2⟩
          case measure => simp [intOf]; omega
      -- >>
    · obtain rfl : k = n := by omega
      have hM : Hid (RowsX wr B rs markN) := hid (hX.out.congr (fun l y j hl _ => by
        have := (List.getElem?_eq_some_iff.1 hl).1
        rw [if_pos (by have := hn'.out; omega)]))
      clear hX hR'
      go_wp2
      go_loopw [5, 6, 7, 8] (fun gv kk _ _ wr => ∃ (l : Nat) (ys : List GrX), l ≤ k ∧ kk = .int .i64 (l : Int) ∧ Hid (ys.length = l) ∧ Hid (GsI wr w.heap.size gv rs ys (fun x => x.r + 64)) ∧ Hid (RowsX wr B rs markN) ∧ Hid (ApartK B rs w wr)) (fun _ kk _ _ _ => k - (intOf kk).toNat)
      case atStart => exact ⟨0, [], Nat.zero_le _, rfl, rfl, hid (GsI.nil _ _ _ _), hM, hB⟩
      case round =>
        clear hM hB
        obtain ⟨l, ys, hlk, rfl, hyl, hGs, hM, hB⟩ := hrel
        by_cases hlt : l < k
        · -- <<
          have hki : (l : Int) < (k : Int) := by omega
          obtain ⟨x, hx⟩ : ∃ x, rs[l]? = some x := ⟨_, List.getElem?_eq_getElem (by have := hn'.out; omega)⟩
          have hx' := hid hx
          have hxr := hr'.out x (List.mem_of_getElem? hx)
          obtain ⟨w3, rfl⟩ : ∃ w3, w3 = wr := ⟨_, rfl⟩
          have c0 : w3.cell? ⟨G, l, none⟩ = some (.slice (x.g.map fun g => ⟨g, 0, none⟩) x.r x.r) := hGc.out w3 hB.out l x hx
          clear hx
          go_wp2
          go_loopw [7, 8] (fun v ii wr => ∃ i : Nat, i ≤ 64 ∧ ii = .int .i64 (i : Int) ∧ Hid (GrowI wr w3.heap.size l x i v) ∧ Hid (Below w3.heap.size w3 wr)) (fun _ ii _ => 64 - (intOf ii).toNat)
          case atStart => exact ⟨0, by decide, rfl, hid (.inl ⟨rfl, rfl⟩), hid (Below.refl _ _)⟩
          case round =>
            obtain ⟨i, hi64, rfl, hv, hBi⟩ := hrel
            have c1 : wr.cell? ⟨G, l, none⟩ = some (.slice (x.g.map fun g => ⟨g, 0, none⟩) x.r x.r) := hGc.out wr (hB.out.kept hBi.out (Nat.le_trans hBw'.out hB.out.size)) l x hx'.out
            clear c0
            by_cases hi : i < 64
            · obtain ⟨P, hP⟩ : ∃ P, Hid (x.r + i = P) := ⟨_, rfl⟩
              have hsum : (x.r : Int) + (i : Int) = (P : Int) := by have := hP.out; omega
              have hPl : P ≤ 17592186044416 := by have := hP.out; omega
              have hmk := hid (mark_calls l P (by omega) hPl)
              obtain ⟨mk, hmkN⟩ : ∃ mk, Hid (markN l P = mk) := ⟨_, rfl⟩
              have hms : mk < 9223372036854775808 := by rw [← hmkN.out]; unfold markN; omega
              rw [hmkN.out] at hmk
              have ewr : IntKind.u64.wrap (mk : Int) = (mk : Int) := by rw [IntKind.wrap_u64]; omega
              have hii : (i : Int) < 64 := by omega
              have hM4 := hid ((hM.out.kept hBi.out).kept (show Below wr.heap.size wr (wr.alloc (.cells #[.int .u64 (mk : Int)] 22)) from (Below.refl _ wr).alloc (Nat.le_refl _) _))
              have hv4 : Hid (GrowI (wr.alloc (.cells #[.int .u64 (mk : Int)] 22)) w3.heap.size l x i u7) := by
                rcases hv.out with h | h
                · exact .inl h
                · exact .inr (World.ownsRow.alloc h _)
              have hz := hid hBi.out.size
              have hcl : Hid ((wr.alloc (.cells #[.int .u64 (mk : Int)] 22)).cell? ((⟨wr.heap.size, 0, none⟩ : Addr).add 0) = some (.int .u64 ((markN l (x.r + i) : Nat) : Int))) := by
                show _ = _
                rw [hP.out, hmkN.out]
                exact (At.new wr #[.int .u64 (mk : Int)] 22).cell 0
              go_wp2_with (first
                | (go_at_call 35; refine Calls.mono (hmk.out _) ?_; rintro e w' ⟨rfl, hw'⟩; obtain rfl := hw'.symm)
                | (at_builtin; refine wpList_grow rfl _ _ rfl hM4.out hx'.out (fun _ _ => rfl) rfl hv4.out (by rw [World.size_alloc]; have := hz.out; omega) ⟨wr.heap.size, 0, none⟩ 1 rfl hcl.out (by omega) ?_)
                | go_in)
              intro v' w' hv' hb'
              have hv'' := hid hv'
              have hb'' := hid ((hBi.out.alloc hz.out _).trans hb')
              clear hv' hb'
              go_wp2
              go_roundw
              case rel => exact ⟨i + 1, by omega, by simp, hv'', hb''⟩
              case measure => simp [intOf]; omega
            · obtain rfl : i = 64 := by omega
              have hrow : wr.ownsRow w3.heap.size 22 1 u7 (x.r + 64) (wdsL (x.r + 64) (markN l)) := by
                rcases hv.out with ⟨h, _⟩ | h
                · omega
                · exact h
              obtain ⟨g4, cap4, _, rfl, -, -, -⟩ := row_new hrow
              have hrow' := hid hrow
              have hz := hid hBi.out.size
              have hz3 := hid hB.out.size
              have hG4 := hid (hGs.out.kept hBi.out)
              have hM4 := hid (hM.out.kept hBi.out)
              have hB4 := hid (hB.out.kept hBi.out (Nat.le_trans hBw'.out hB.out.size))
              have hlt5 : Hid (∀ r, u5.ownBlock = some r → w.heap.size ≤ r ∧ r < w3.heap.size) := fun r e => hGs.out.1.lt r e
              have hal : Hid (Below wr.heap.size wr (wr.alloc (.cells #[.slice (some ⟨g4, 0, none⟩) (x.r + 64) cap4] 32))) := (Below.refl _ wr).alloc (Nat.le_refl _) _
              have hyn : ys.length < 1000000 := by have := hyl.out; omega
              have hbs : w.heap.size ≤ (wr.alloc (.cells #[.slice (some ⟨g4, 0, none⟩) (x.r + 64) cap4] 32)).heap.size := by
                rw [World.size_alloc]; have := hB4.out.size; omega
              clear hrow hv hGs hM hB
              have hge : ¬ (64 : Int) < 64 := by decide
              go_wp2_with (first
                | (at_builtin; refine wpList_appendS rfl _ _ rfl w.heap.size u5 (.slice (some ⟨g4, 0, none⟩) (x.r + 64) cap4) ys.length (List.zipWith slG rs ys) rfl (World.ownsRow.alloc hG4.out.1 _) ⟨wr.heap.size, 0, none⟩ 1 rfl ((At.new wr #[.slice (some ⟨g4, 0, none⟩) (x.r + 64) cap4] 32).cell 0) rfl hyn hbs ?_)
                | go_in)
              intro v' w' hown' hgr' hnew'
              obtain ⟨y, -, hpush⟩ := hG4.out.push (by rw [hyl.out]; exact hx'.out) (by rw [hyl.out]; exact hrow'.out) hz3.out (fun r e => (hlt5.out r e).2) (Nat.le_refl _) hgr' hown' (by rw [World.size_alloc]; exact hnew')
              have hpush' := hid hpush
              have hMn := hid ((hM4.out.kept hal.out).grown hgr' (fun k' x' hk' => by
                cases hgx : x'.g with
                | none => exact .inl rfl
                | some g' => exact .inr (fun e => by have h1 := hgw.out k' x' g' hk' hgx; have h2 := (hlt5.out g' e.symm).1; omega)))
              have hBn := hid ((hB4.out.kept hal.out (Nat.le_trans hBw'.out hB4.out.size)).grown hgr' (fun r e => (hlt5.out r e).1) hBw'.out)
              clear hown' hgr' hnew' hpush hG4 hM4 hB4
              go_wp2
              go_roundw
              case rel => exact ⟨l + 1, ys ++ [y], by omega, by simp, by show _ = _; rw [List.length_append, List.length_singleton, hyl.out], hpush', hMn, hBn⟩
              case measure => simp [intOf]; omega
          -- >>
        · obtain rfl : l = k := by omega
          go_wp2
          go_loopw [9, 10] (fun kk _ wr => ∃ k : Nat, k ≤ l ∧ kk = .int .i64 (k : Int) ∧ Hid (GsI wr w.heap.size u5 rs ys (fun x => x.r + 64)) ∧ Hid (RowsX wr B rs markN) ∧ Hid (ApartK B rs w wr)) (fun kk _ _ => l - (intOf kk).toNat)
          case atStart => exact ⟨0, Nat.zero_le _, rfl, hGs, hM, hB⟩
          case round =>
            clear hGs hM hB
            obtain ⟨k, hkl, rfl, hGs, hM, hB⟩ := hrel
            by_cases hlt : k < l
            · have hki : (k : Int) < (l : Int) := by omega
              obtain ⟨x, hx⟩ : ∃ x, rs[k]? = some x := ⟨_, List.getElem?_eq_getElem (by have := hn'.out; omega)⟩
              obtain ⟨y, hy⟩ : ∃ y, ys[k]? = some y := ⟨_, List.getElem?_eq_getElem (by have := hyl.out; omega)⟩
              have hx' := hid hx
              have hy' := hid hy
              have hxr := hr'.out x (List.mem_of_getElem? hx)
              obtain ⟨gg, cg, hgv, -, -, -, -⟩ := hGs.out.at hx hy
              rw [hyl.out] at hgv
              clear hx hy
              go_wp2
              go_loopw [10] (fun ii wr => ∃ i : Nat, i ≤ x.r + 64 ∧ ii = .int .i64 (i : Int) ∧ Hid (GsI wr w.heap.size u5 rs ys (fun x => x.r + 64)) ∧ Hid (RowsX wr B rs markN) ∧ Hid (ApartK B rs w wr)) (fun ii _ => x.r + 64 - (intOf ii).toNat)
              case atStart => exact ⟨0, Nat.zero_le _, rfl, hGs, hM, hB⟩
              case round =>
                clear hGs hM hB
                obtain ⟨i, hi, rfl, hGs, hM, hB⟩ := hrel
                subst hgv
                obtain ⟨Q, hQ⟩ : ∃ Q, Hid (x.r + 64 = Q) := ⟨_, rfl⟩
                have c2 : wr.cell? ⟨gg, k, none⟩ = some (.slice (some ⟨y.b, 0, none⟩) Q y.c) := by
                  obtain ⟨gg', cg', e, -, -, h, -⟩ := hGs.out.at hx'.out hy'.out
                  cases e
                  rw [← hQ.out]
                  exact h
                have c1 : wr.cell? ⟨G, k, none⟩ = some (.slice (x.g.map fun g => ⟨g, 0, none⟩) x.r x.r) := hGc.out wr hB.out k x hx'.out
                have hQl : Q ≤ 17592186044415 := by have := hQ.out; omega
                by_cases hiQ : i < Q
                · have hii : (i : Int) < (Q : Int) := by omega
                  have hiq' : i < x.r + 64 := by have := hQ.out; omega
                  have hmk := hid (mark_calls k i (by omega) (by omega))
                  obtain ⟨mk, hmkN⟩ : ∃ mk, Hid (markN k i = mk) := ⟨_, rfl⟩
                  have hms : mk < 9223372036854775808 := by rw [← hmkN.out]; unfold markN; omega
                  rw [hmkN.out] at hmk
                  have ewr : IntKind.u64.wrap (mk : Int) = (mk : Int) := by rw [IntKind.wrap_u64]; omega
                  have emk : ((mk : Int) == (mk : Int)) = true := by simp
                  have c3 : wr.cell? ⟨y.b, i, none⟩ = some (.int .u64 (mk : Int)) := by rw [← hmkN.out]; exact hGs.out.word hx'.out hy'.out (by have := hQ.out; omega)
                  by_cases hir : i < x.r
                  · -- <<
                    obtain ⟨g, hg, -, -, m0, -⟩ := hM.out.at hx'.out hir
                    rw [hmkN.out] at m0
                    rw [hg] at c1
                    simp only [Option.map_some] at c1
                    have hiri : (i : Int) < (x.r : Int) := by omega
                    go_wp2_with fail
                    go_quiet ((go_at_call 35; refine (hmk.out _).mono ?_; rintro e w' ⟨rfl, rfl⟩; exact ⟨rfl, _, rfl⟩))
                    have hb := hid (below_drewN (Below.refl wr.heap.size wr) nq)
                    clear c1 c2 c3
                    go_wp2
                    go_roundw
                    case rel => exact ⟨i + 1, by omega, by simp, hid (hGs.out.kept hb.out), hid (hM.out.kept hb.out), hid (hB.out.kept hb.out (Nat.le_trans hBw'.out hB.out.size))⟩
                    case measure => simp [intOf]; omega
                    -- >>
                  · obtain ⟨so, hso⟩ : ∃ so, (x.g.map fun g => (⟨g, 0, none⟩ : Addr)) = so := ⟨_, rfl⟩
                    rw [hso] at c1
                    have er1 : decide (i < x.r) = false := by simp; omega
                    have er2 : decide ((i : Int) < (x.r : Int)) = false := by simp; omega
                    go_wp2_with fail
                    go_quiet ((go_at_call 35; refine (hmk.out _).mono ?_; rintro e w' ⟨rfl, rfl⟩; exact ⟨rfl, _, rfl⟩))
                    have hb := hid (below_drewN (Below.refl wr.heap.size wr) nq)
                    clear c1 c2 c3
                    go_wp2
                    go_roundw
                    case rel => exact ⟨i + 1, by omega, by simp, hid (hGs.out.kept hb.out), hid (hM.out.kept hb.out), hid (hB.out.kept hb.out (Nat.le_trans hBw'.out hB.out.size))⟩
                    case measure => simp [intOf]; omega
                · obtain rfl : i = Q := by have := hQ.out; omega
                  clear c1
                  go_wp2
                  go_roundw
                  case rel => exact ⟨k + 1, by omega, by simp, hGs, hM, hB⟩
                  case measure => simp [intOf]; omega
            · obtain rfl : k = l := by omega
              have hGw : Hid (GsI wr w.heap.size u5 rs ys (fun x => x.r)) := hid (hGs.out.weaken (fun x => Nat.le_add_right _ _))
              clear hGs
              go_wp2
              go_loopw [11, 12, 13] (fun kk _ _ wr => ∃ (l : Nat) (ys : List GrX), l ≤ k ∧ kk = .int .i64 (l : Int) ∧ Hid (ys.length = k) ∧ Hid (GsI wr w.heap.size u5 rs ys (fun x => x.r)) ∧ Hid (RowsX wr B rs markN) ∧ Hid (ApartK B rs w wr)) (fun kk _ _ _ => k - (intOf kk).toNat)
              case atStart => exact ⟨0, ys, Nat.zero_le _, rfl, hyl, hGw, hM, hB⟩
              case round =>
                clear hGw hM hB hyl
                obtain ⟨l, zs, hlk, rfl, hyl, hGs, hM, hB⟩ := hrel
                by_cases hlt : l < k
                · have hki : (l : Int) < (k : Int) := by omega
                  obtain ⟨x, hx⟩ : ∃ x, rs[l]? = some x := ⟨_, List.getElem?_eq_getElem (by have := hn'.out; omega)⟩
                  obtain ⟨y, hy⟩ : ∃ y, zs[l]? = some y := ⟨_, List.getElem?_eq_getElem (by have := hyl.out; omega)⟩
                  have hx' := hid hx
                  have hy' := hid hy
                  have hxr := hr'.out x (List.mem_of_getElem? hx)
                  clear hx hy
                  obtain ⟨w3, rfl⟩ : ∃ w3, w3 = wr := ⟨_, rfl⟩
                  go_wp2
                  go_loopw [12, 13] (fun v ii wr => ∃ i : Nat, i ≤ 64 ∧ ii = .int .i64 (i : Int) ∧ Hid (wr.ownsRow w3.heap.size 22 1 v i (wdsL i (markN (l + k)))) ∧ Hid (Below w3.heap.size w3 wr)) (fun _ ii _ => 64 - (intOf ii).toNat)
                  case atStart => exact ⟨0, by decide, rfl, hid (by simpa [wdsL] using World.ownsRow_nil w3 w3.heap.size 22 1), hid (Below.refl _ _)⟩
                  case round =>
                    obtain ⟨i, hi64, rfl, hv, hBi⟩ := hrel
                    by_cases hi : i < 64
                    · obtain ⟨P, hP⟩ : ∃ P, Hid (l + k = P) := ⟨_, rfl⟩
                      have hsum : (l : Int) + (k : Int) = (P : Int) := by have := hP.out; omega
                      have hPl : P ≤ 1000000 := by have := hP.out; omega
                      have hmk := hid (mark_calls P i hPl (by omega))
                      obtain ⟨mk, hmkN⟩ : ∃ mk, Hid (markN P i = mk) := ⟨_, rfl⟩
                      have hms : mk < 9223372036854775808 := by rw [← hmkN.out]; unfold markN; omega
                      rw [hmkN.out] at hmk
                      rw [hP.out] at hv
                      have ewr : IntKind.u64.wrap (mk : Int) = (mk : Int) := by rw [IntKind.wrap_u64]; omega
                      have hii : (i : Int) < 64 := by omega
                      have hz := hid hBi.out.size
                      obtain ⟨i0, hi0, hz0, hz1, hz2⟩ := info_parts infoW
                      have hz0' := hid hz0
                      have hz1' := hid hz1
                      have hz2' := hid hz2
                      have hi0' := hid hi0
                      clear hz0 hz1 hz2 hi0
                      go_wp2_with (first
                        | (go_at_call 35; refine Calls.mono (hmk.out _) ?_; rintro e w' ⟨rfl, hw'⟩; obtain rfl := hw'.symm)
                        | (at_builtin; refine wpList_append_own _ rfl _ _ 32 rfl w3.heap.size 22 i0 (.int .u64 0) 1 8 Tryd.underlying32 hi0'.out hz0'.out hz1'.out hz2'.out rfl (by decide) _ _ _ rfl (World.ownsRow.alloc hv.out _) ⟨wr.heap.size, 0, none⟩ 1 1 [.int .u64 (mk : Int)] rfl rfl (fun j u hj => by match j, hj with | 0, hj => simp at hj; subst hj; simp [Addr.add]) (fun u hu => by simp at hu; subst hu; rfl) (by unfold maxLen; omega) (by omega) (by rw [World.size_alloc]; have := hz.out; omega) ?_)
                        | go_in)
                      intro v' w' hown1 hgrow _
                      have hb'' := hid ((hBi.out.alloc hz.out (.cells #[.int .u64 (mk : Int)] 22)).grown hgrow (by rw [World.size_alloc]; have := hz.out; omega) (fun b e => (hv.out.lt b e).1))
                      have hown2 : Hid (w'.ownsRow w3.heap.size 22 1 v' (i + 1) (wdsL (i + 1) (markN (l + k)))) := by
                        rw [hP.out, ← wdsL_snoc, hmkN.out]
                        exact hown1
                      clear hown1 hgrow
                      go_wp2
                      go_roundw
                      case rel => exact ⟨i + 1, by omega, by simp, hown2, hb''⟩
                      case measure => simp [intOf]; omega
                    · obtain rfl : i = 64 := by omega
                      have hrow := hv.out
                      obtain ⟨gm, cm, _, rfl, -, -, -⟩ := row_new (r := 0) (show wr.ownsRow w3.heap.size 22 1 u12 (0 + 64) (wdsL 64 (markN (l + k))) from hrow)
                      have hcl := hid (hrow.cells (g := gm) rfl)
                      clear hrow hv
                      have hz := hid hBi.out.size
                      have hG4 := hid (hGs.out.kept hBi.out)
                      have hM4 := hid (hM.out.kept hBi.out)
                      have hB4 := hid (hB.out.kept hBi.out (Nat.le_trans hBw'.out hB.out.size))
                      have c1 : wr.cell? ⟨G, l, none⟩ = some (.slice (x.g.map fun g => ⟨g, 0, none⟩) x.r x.r) := hGc.out wr hB4.out l x hx'.out
                      have hlt5 : Hid (∀ r, u5.ownBlock = some r → w.heap.size ≤ r ∧ r < w3.heap.size) := fun r e => hGs.out.1.lt r e
                      obtain ⟨gg, cg, hgv, hgb, hgl, -, -⟩ := hG4.out.at hx'.out hy'.out
                      rw [hyl.out] at hgv
                      subst hgv
                      have hgb' := hid hgb
                      have hgl' := hid hgl
                      clear hGs hM hB hgb hgl
                      have hge : ¬ (64 : Int) < 64 := by decide
                      go_wp2_with (first
                        | (at_builtin; refine wpList_first rfl _ _ rfl hM4.out hx'.out rfl ⟨gm, 0, none⟩ (0 + 64) cm (wdsL 64 (markN (l + k))) rfl (wdsL_len _ _) (by decide) hcl.out (fun u hu => by simp [wdsL] at hu; obtain ⟨_, _, rfl⟩ := hu; rfl) (by omega) ?_)
                        | go_in)
                      intro v' w' hown' hb'
                      have hGn := hid (hG4.out.kept hb')
                      have hMn := hid (hM4.out.kept hb')
                      have hBn := hid (hB4.out.kept hb' (Nat.le_trans hBw'.out hB4.out.size))
                      have hzn := hid hb'.size
                      obtain ⟨gn, cn, _, rfl, -, -, -⟩ := row_new hown'
                      obtain ⟨y', -, hset⟩ := hGn.out.set hx'.out hy'.out hown' (fun _ _ => rfl) (by have := hB4.out.size; omega) (fun r e => by have h1 := (hlt5.out r e).2; have h2 := hz.out; omega) (Nat.le_refl _) (gg := gg) (cap := cg) (by rw [hyl.out])
                      have hset' := hid hset
                      have hMs := hid (hMn.out.off (b := gg) (i := l) (fun k' x' g' hk' hg' => by have h1 := hgw.out k' x' g' hk' hg'; have h2 := hgb'.out; omega) (.slice (some ⟨gn, 0, none⟩) (x.r + 64) cn))
                      have hBs := hid (hBn.out.own (b := gg) hgb'.out (Nat.le_trans hBw'.out hgb'.out) l (.slice (some ⟨gn, 0, none⟩) (x.r + 64) cn))
                      obtain ⟨gg2, cg2, e2, -, -, c2, f2⟩ := hGn.out.at hx'.out hy'.out
                      obtain ⟨rfl, rfl⟩ : gg2 = gg ∧ cg2 = cg := by
                        rw [hyl.out] at e2
                        cases e2
                        exact ⟨rfl, rfl⟩
                      clear e2 hown' hb' hset hG4 hM4 hB4 hGn hMn hBn c1
                      go_wp2
                      go_roundw
                      case rel => exact ⟨l + 1, zs.set l y', by omega, by simp, by show _ = _; rw [List.length_set, hyl.out], hset', hMs, hBs⟩
                      case measure => simp [intOf]; omega
                · obtain rfl : l = k := by omega
                  go_wp2
                  go_loopw [14, 15] (fun kk _ wr => ∃ k : Nat, k ≤ l ∧ kk = .int .i64 (k : Int) ∧ Hid (GsI wr w.heap.size u5 rs zs (fun x => x.r)) ∧ Hid (RowsX wr B rs markN) ∧ Hid (ApartK B rs w wr)) (fun kk _ _ => l - (intOf kk).toNat)
                  case atStart => exact ⟨0, Nat.zero_le _, rfl, hGs, hM, hB⟩
                  case round =>
                    clear hGs hM hB
                    obtain ⟨k, hkl, rfl, hGs, hM, hB⟩ := hrel
                    by_cases hlt : k < l
                    · have hki : (k : Int) < (l : Int) := by omega
                      obtain ⟨x, hx⟩ : ∃ x, rs[k]? = some x := ⟨_, List.getElem?_eq_getElem (by have := hn'.out; omega)⟩
                      obtain ⟨y, hy⟩ : ∃ y, zs[k]? = some y := ⟨_, List.getElem?_eq_getElem (by have := hyl.out; omega)⟩
                      have hx' := hid hx
                      have hy' := hid hy
                      have hxr := hr'.out x (List.mem_of_getElem? hx)
                      obtain ⟨gg, cg, hgv, -, -, -, -⟩ := hGs.out.at hx hy
                      rw [hyl.out] at hgv
                      clear hx hy
                      go_wp2
                      go_loopw [15] (fun ii wr => ∃ i : Nat, i ≤ x.r ∧ ii = .int .i64 (i : Int) ∧ Hid (GsI wr w.heap.size u5 rs zs (fun x => x.r)) ∧ Hid (RowsX wr B rs markN) ∧ Hid (ApartK B rs w wr)) (fun ii _ => x.r - (intOf ii).toNat)
                      case atStart => exact ⟨0, Nat.zero_le _, rfl, hGs, hM, hB⟩
                      case round =>
                        clear hGs hM hB
                        obtain ⟨i, hi, rfl, hGs, hM, hB⟩ := hrel
                        subst hgv
                        have c1 : wr.cell? ⟨G, k, none⟩ = some (.slice (x.g.map fun g => ⟨g, 0, none⟩) x.r x.r) := hGc.out wr hB.out k x hx'.out
                        by_cases hir : i < x.r
                        · obtain ⟨Q, hQ⟩ : ∃ Q, Hid (x.r + 64 = Q) := ⟨_, rfl⟩
                          have c2 : wr.cell? ⟨gg, k, none⟩ = some (.slice (some ⟨y.b, 0, none⟩) Q y.c) := by
                            obtain ⟨gg', cg', e, -, -, h, -⟩ := hGs.out.at hx'.out hy'.out
                            cases e
                            rw [← hQ.out]
                            exact h
                          have hii : (i : Int) < (Q : Int) := by have := hQ.out; omega
                          have hmk := hid (mark_calls k i (by omega) (by omega))
                          obtain ⟨mk, hmkN⟩ : ∃ mk, Hid (markN k i = mk) := ⟨_, rfl⟩
                          have hms : mk < 9223372036854775808 := by rw [← hmkN.out]; unfold markN; omega
                          rw [hmkN.out] at hmk
                          have ewr : IntKind.u64.wrap (mk : Int) = (mk : Int) := by rw [IntKind.wrap_u64]; omega
                          have emk : ((mk : Int) == (mk : Int)) = true := by simp
                          have c3 : wr.cell? ⟨y.b, i, none⟩ = some (.int .u64 (mk : Int)) := by rw [← hmkN.out]; exact hGs.out.word hx'.out hy'.out hir
                          obtain ⟨g, hg, -, -, m0, -⟩ := hM.out.at hx'.out hir
                          rw [hmkN.out] at m0
                          rw [hg] at c1
                          simp only [Option.map_some] at c1
                          have hiri : (i : Int) < (x.r : Int) := by omega
                          go_wp2_with fail
                          go_quiet ((go_at_call 35; refine (hmk.out _).mono ?_; rintro e w' ⟨rfl, rfl⟩; exact ⟨rfl, _, rfl⟩))
                          have hb := hid (below_drewN (Below.refl wr.heap.size wr) nq)
                          clear c1 c2 c3 m0
                          go_wp2
                          go_roundw
                          case rel => exact ⟨i + 1, by omega, by simp, hid (hGs.out.kept hb.out), hid (hM.out.kept hb.out), hid (hB.out.kept hb.out (Nat.le_trans hBw'.out hB.out.size))⟩
                          case measure => simp [intOf]; omega
                        · obtain rfl : i = x.r := by omega
                          go_wp2
                          go_roundw
                          case rel => exact ⟨k + 1, by omega, by simp, hGs, hM, hB⟩
                          case measure => simp [intOf]; omega
                    · obtain rfl : k = l := by omega
                      go_wp2
                      go_ret
                      exact ⟨rfl, hB.out⟩
end Go.Proofs.YtomeaejjdjidlaaDoor

/-
  What quarrykit.ApartRows answers of rows that lie apart: true.
-/
namespace Go.Proofs.YtomeaejjdjidlaaDoor
open Go.RowKit

theorem wordsRow_open {W : World} {base n : Nat} {v : Value} {L : List Value} (h : W.ownsRow base 32 1 v n L) (hn : 0 < n) : ∃ g cap cur, v = .slice (some ⟨g, 0, none⟩) n cap ∧ base ≤ g ∧ At W g cur 32 ∧ ∀ (i : Nat) (u : Value), L[i]? = some u → cur[i]? = some u := by
  rcases h.2 with ⟨_, h0⟩ | ⟨g, cap, cur, rfl, hb, hgb, h3, h4, h5, h6⟩
  · omega
  · refine ⟨g, cap, cur, rfl, hb, hgb, fun i u hu => ?_⟩
    rw [← h6] at hu
    rw [List.getElem?_take] at hu
    split at hu
    · rwa [Array.getElem?_toList] at hu
    · cases hu

set_option maxRecDepth 10000 in
set_option maxHeartbeats 4000000 in
theorem apartR_calls (w : World) (GL n cap B : Nat) (rs : List RowX) (F : Nat → Nat → Nat) (hn : rs.length = n) (h0 : 0 < n) (hn2 : n ≤ 1000) (hr : ∀ x ∈ rs, x.r ≤ 17592186044351) (hBw : B ≤ w.heap.size) (hG : ∀ (k : Nat) (x : RowX), rs[k]? = some x → w.cell? ⟨GL, k * 2 + 1, none⟩ = some (slX x)) (hR : RowsX w B rs F) :
    Calls Tryd.prog 46 #[.slice (some ⟨GL, 0, none⟩) n cap] w fun e w' => e = .returned (.bool true) ∧ ApartK B rs w w' := by
  have hR' := hid hR
  have hn' := hid hn
  have hr' := hid hr
  have hBw' := hid hBw
  have hG' := hid hG
  clear hR hn hr hBw hG
  go_enter Tryd.func46, Tryd.ntmps46
  go_wp2
  go_loopw [3, 4] (fun v ii wr => ∃ i : Nat, i ≤ n ∧ ii = .int .i64 (i : Int) ∧ Hid (wr.ownsRow w.heap.size 32 1 v i ((rs.take i).map slX)) ∧ Hid (Below w.heap.size w wr)) (fun _ ii _ => n - (intOf ii).toNat)
  case atStart => exact ⟨0, Nat.zero_le _, rfl, hid (by simpa using World.ownsRow_nil w w.heap.size 32 1), hid (Below.refl _ _)⟩
  case round =>
    obtain ⟨i, hin, rfl, hv, hB⟩ := hrel
    by_cases hlt : i < n
    · have hii : (i : Int) < (n : Int) := by omega
      obtain ⟨x, hx⟩ : ∃ x, rs[i]? = some x := ⟨_, List.getElem?_eq_getElem (by have := hn'.out; omega)⟩
      have c0 := hG'.out i x hx
      have c1 := (hB.out.cell (p := ⟨GL, i * 2 + 1, none⟩) (cell_block c0)).trans c0
      have c2 : wr.cell? ⟨GL, i * 2 + 1, none⟩ = some (.slice (x.g.map fun g => ⟨g, 0, none⟩) x.r x.r) := c1
      have hx' := hid hx
      have hz := hid hB.out.size
      have hin' : i < 1000000 := by omega
      clear c0 c1 hx
      go_wp2_with (first
        | (at_builtin; refine wpList_appendS rfl _ _ rfl w.heap.size u3 (slX x) i ((rs.take i).map slX) rfl (World.ownsRow.alloc hv.out _) ⟨wr.heap.size, 0, none⟩ 1 rfl ((At.new wr #[slX x] 32).cell 0) rfl hin' (by rw [World.size_alloc]; have := hz.out; omega) ?_)
        | go_in)
      intro v' w' hown' hgr' _
      have hb'' := hid ((hB.out.alloc hz.out (.cells #[slX x] 32)).grown hgr' (by rw [World.size_alloc]; have := hz.out; omega) (fun b e => (hv.out.lt b e).1))
      have hown2 : Hid (w'.ownsRow w.heap.size 32 1 v' (i + 1) ((rs.take (i + 1)).map slX)) := by
        rw [List.take_add_one, hx'.out]
        refine hid ?_
        simpa using hown'
      clear hown' hgr'
      go_wp2
      go_roundw
      case rel => exact ⟨i + 1, by omega, by simp, hown2, hb''⟩
      case measure => simp [intOf]; omega
    · obtain rfl : i = n := by omega
      have hall : (rs.take i).map slX = rs.map slX := by rw [List.take_of_length_le (by have := hn'.out; omega)]
      rw [hall] at hv
      obtain ⟨G, cg, cur, rfl, hGb, hGa, hGc⟩ := wordsRow_open hv.out h0
      have hGa' := hid hGa
      have hGc' := hid hGc
      have hGb' := hid hGb
      clear hGa hGc hGb hv
      go_wp2_with fail
      refine Calls.mono (apartW_calls wr G i cg B rs F cur 32 hn'.out hn2 hr'.out (Nat.le_trans hBw'.out hB.out.size) hGa'.out (fun k x hk e => by have h1 := hR'.out.lt hk e; have h2 := hGb'.out; omega) (fun k x hk => hGc'.out k _ (by rw [List.getElem?_map, hk]; rfl)) (hR'.out.kept hB.out)) ?_
      rintro e w' ⟨rfl, hA⟩
      have hA' : Hid (ApartK B rs w w') := ⟨(hB.out.mono hBw'.out).trans hA.1, fun b cs t h1 h2 => hA.2 b cs t (h1.keptAll hB.out) h2⟩
      clear hA
      go_wp2
      go_ret
      exact ⟨rfl, hA'.out⟩
end Go.Proofs.YtomeaejjdjidlaaDoor

/-
  What quarrykit.LentWords and quarrykit.KeptWords answer.
-/
namespace Go.Proofs.YtomeaejjdjidlaaDoor
open Go.RowKit

/-- The numbers, and the marks behind their end. -/
def zmW (k : Nat) (Z : Nat → Int) (j : Nat) : Int := if j < k then Z j else 8000024 + ((j - k : Nat) : Int)
/-- The first i of them, as cells. -/
def zlW (k : Nat) (Z : Nat → Int) (i : Nat) : List Value := (List.range i).map fun j => Value.int .u64 (zmW k Z j)
theorem zlW_len (k : Nat) (Z : Nat → Int) (i : Nat) : (zlW k Z i).length = i := by simp [zlW]
theorem zlW_succ (k : Nat) (Z : Nat → Int) (i : Nat) : zlW k Z i ++ [.int .u64 (zmW k Z i)] = zlW k Z (i + 1) := by simp [zlW, List.range_succ]
/-- A list that was lent: the numbers, with marks behind them, in a block of its own. -/
def LentW (w : World) (g c k : Nat) (Z : Nat → Int) : Prop := ∃ cur, At w g cur 22 ∧ cur.size = c ∧ k + 24 ≤ c ∧ c ≤ maxLen ∧ ∀ j, j < k + 24 → cur[j]? = some (.int .u64 (zmW k Z j))
theorem LentW.kept {w w' : World} {g c k : Nat} {Z : Nat → Int} (h : LentW w g c k Z) (hb : Below w.heap.size w w') : LentW w' g c k Z := by
  obtain ⟨cur, h1, h2⟩ := h
  exact ⟨cur, h1.keptAll hb, h2⟩
theorem LentW.cell {w : World} {g c k : Nat} {Z : Nat → Int} (h : LentW w g c k Z) {j : Nat} (hj : j < k + 24) : w.cell? ⟨g, j, none⟩ = some (.int .u64 (zmW k Z j)) := by
  obtain ⟨cur, h1, _, _, _, h2⟩ := h
  rw [h1.cell j, h2 j hj]
theorem LentW.lt {w : World} {g c k : Nat} {Z : Nat → Int} (h : LentW w g c k Z) : g < w.heap.size := by
  obtain ⟨cur, h1, _⟩ := h
  exact h1.lt
theorem markW_calls (t : Nat) (ht : t < 24) (w : World) : Calls Tryd.prog 35 #[.int .i64 1, .int .i64 (t : Int)] w fun e w' => e = .returned (.int .i64 (8000024 + (t : Int))) ∧ w' = w := by
  go_enter Tryd.func35, Tryd.ntmps35
  go_wp2
  go_ret
  exact ⟨rfl, rfl⟩
theorem infoLW : (Tryd.prog.info? 22).map (fun i => (i.zero, i.size, i.bytes)) = some (some (.int .u64 0), 1, 8) := by kernel_rfl

set_option maxRecDepth 10000 in
set_option maxHeartbeats 2000000 in
theorem lentW_calls (ao : Option Addr) (k cap : Nat) (Z : Nat → Int) (hk : k ≤ 17592186043904) (hmark : 0 ≤ k) (w : World)
    (hW : ∀ j, j < k → (Lit.int .u64 (Z j)).wf = true ∧ ∃ g off, ao = some ⟨g, off, none⟩ ∧ w.cell? ⟨g, off + j, none⟩ = some (.int .u64 (Z j))) :
    Calls Tryd.prog 36 #[.slice ao k cap] w fun e w' => ∃ g c, e = .returned (.slice (some ⟨g, 0, none⟩) k c) ∧ w.heap.size ≤ g ∧ LentW w' g c k Z ∧ Below w.heap.size w w' := by
  obtain ⟨i0, hi, hz0, hz1, hz2⟩ := info_parts infoLW
  go_enter Tryd.func36, Tryd.ntmps36
  go_wp2
  go_loopw [3, 4] (fun v ii wr => ∃ i : Nat, i ≤ k ∧ ii = .int .i64 (i : Int) ∧ wr.ownsRow w.heap.size 22 1 v i (zlW k Z i) ∧ Below w.heap.size w wr) (fun _ ii _ => k - (intOf ii).toNat)
  case atStart => exact ⟨0, Nat.zero_le _, rfl, World.ownsRow_nil _ _ _ _, Below.refl _ _⟩
  case round =>
    obtain ⟨i, hik, rfl, hown, hb⟩ := hrel
    have hsz := hb.size
    by_cases hlt : i < k
    · obtain ⟨hwf, g, off, rfl, hcell⟩ := hW i hlt
      have hg := cell_block hcell
      have d1 := (hb.cell (p := ⟨g, off + i, none⟩) hg).trans hcell
      obtain ⟨z, hz⟩ : ∃ z, Hid (Z i = z) := ⟨_, rfl⟩
      rw [hz.out] at d1 hwf
      have hzm : Hid (zmW k Z i = z) := by show _ = _; rw [zmW, if_pos hlt]; exact hz.out
      have hown' : Hid (wr.ownsRow w.heap.size 22 1 u3 i (zlW k Z i)) := hown
      clear hcell hown
      go_wp2_with (first
        | (at_builtin; refine wpList_append_own _ rfl _ _ 32 rfl w.heap.size 22 i0 (.int .u64 0) 1 8 Tryd.underlying32 hi hz0 hz1 hz2 rfl (by decide) _ _ _ rfl (World.ownsRow.alloc hown'.out _) ⟨wr.heap.size, 0, none⟩ 1 1 [.int .u64 z] rfl rfl (fun j u hj => by match j, hj with | 0, hj => simp at hj; subst hj; simp [Addr.add]) (fun u hu => by simp at hu; subst hu; rfl) (by unfold maxLen; omega) (by omega) (by simp; omega) ?_)
        | go_in)
      · intro v' w1 hown1 hgrow _
        have hb' : Below w.heap.size w w1 := (hb.alloc hsz _).grown hgrow (by simp; omega) (fun b e => (hown'.out.lt b e).1)
        rw [← hzm.out, zlW_succ] at hown1
        clear hgrow hown'
        go_wp2
        go_roundw
        case rel => exact ⟨i + 1, by omega, by simp, hown1, hb'⟩
        case measure => simp [intOf]; omega
    · obtain rfl : i = k := by omega
      go_wp2
      go_loopw [3, 5] (fun v ii wr => ∃ t : Nat, t ≤ 24 ∧ ii = .int .i64 (t : Int) ∧ wr.ownsRow w.heap.size 22 1 v (i + t) (zlW i Z (i + t)) ∧ Below w.heap.size w wr) (fun _ ii _ => 24 - (intOf ii).toNat)
      case atStart => exact ⟨0, by decide, rfl, hown, hb⟩
      case round =>
        obtain ⟨t, ht, rfl, hown, hb⟩ := hrel
        have hsz := hb.size
        by_cases hlt2 : t < 24
        · have hzm : Hid (zmW i Z (i + t) = 8000024 + (t : Int)) := by show _ = _; rw [zmW, if_neg (by omega), show i + t - i = t by omega]
          have hown' : Hid (wr.ownsRow w.heap.size 22 1 u3 (i + t) (zlW i Z (i + t))) := hown
          have hmk' : Hid _ := fun w => markW_calls t hlt2 w
          clear hown hW
          go_wp2_with (first
            | (go_at_call 35; refine (hmk'.out _).mono ?_; rintro e w' ⟨rfl, hw'⟩; obtain rfl := hw'.symm)
            | (at_builtin; refine wpList_append_own _ rfl _ _ 32 rfl w.heap.size 22 i0 (.int .u64 0) 1 8 Tryd.underlying32 hi hz0 hz1 hz2 rfl (by decide) _ _ _ rfl (World.ownsRow.alloc hown'.out _) ⟨wr.heap.size, 0, none⟩ 1 1 [.int .u64 (8000024 + (t : Int))] rfl rfl (fun j u hj => by match j, hj with | 0, hj => simp at hj; subst hj; simp [Addr.add]) (fun u hu => by simp at hu; subst hu; rfl) (by unfold maxLen; omega) (by omega) (by simp; omega) ?_)
            | go_in)
          · intro v' w1 hown1 hgrow _
            have hb' : Below w.heap.size w w1 := (hb.alloc hsz _).grown hgrow (by simp; omega) (fun b e => (hown'.out.lt b e).1)
            rw [← hzm.out, zlW_succ] at hown1
            clear hgrow hown'
            go_wp2
            go_roundw
            case rel => exact ⟨t + 1, by omega, by simp, hown1, hb'⟩
            case measure => simp [intOf]; omega
        · obtain rfl : t = 24 := by omega
          rcases hown.2 with ⟨_, h0⟩ | ⟨g, c, cur, rfl, hg, hcur, hc1, hc2, hc3, hc4⟩
          · omega
          · have hL : Hid (LentW wr g c i Z) := ⟨cur, hcur, by omega, hc1, hc2, fun j hj => by
              have : (cur.toList.take ((i + 24) * 1))[j]? = (zlW i Z (i + 24))[j]? := by rw [hc4]
              rw [List.getElem?_take, if_pos (by omega)] at this
              simp only [Array.getElem?_toList] at this
              rw [this]; simp [zlW, hj]⟩
            clear hown hcur hc4 hc3 hW
            go_wp2
            go_ret
            exact ⟨g, c, rfl, hg, hL.out, hb⟩

set_option maxRecDepth 10000 in
set_option maxHeartbeats 2000000 in
theorem keptW_calls (ao : Option Addr) (k cap g c : Nat) (Z : Nat → Int) (hk : k ≤ 17592186043904) (w : World) (hL : LentW w g c k Z)
    (hW : ∀ j, j < k → (Lit.int .u64 (Z j)).wf = true ∧ ∃ g off, ao = some ⟨g, off, none⟩ ∧ w.cell? ⟨g, off + j, none⟩ = some (.int .u64 (Z j))) :
    Calls Tryd.prog 38 #[.slice (some ⟨g, 0, none⟩) k c, .slice ao k cap] w fun e w' => e = .returned (.bool true) ∧ Below w.heap.size w w' := by
  have hkc : k + 24 ≤ c := by obtain ⟨cur, _, _, h, _⟩ := hL; exact h
  have hcm : c ≤ 9223372036854775807 := by obtain ⟨cur, _, _, _, h, _⟩ := hL; unfold maxLen at h; omega
  go_enter Tryd.func38, Tryd.ntmps38
  go_wp2
  go_loopw [6] (fun ii wr => ∃ i : Nat, i ≤ k + 24 ∧ ii = .int .i64 (i : Int) ∧ ∃ nn, wr = w.drewN nn) (fun ii _ => k + 24 - (intOf ii).toNat)
  case atStart => exact ⟨0, Nat.zero_le _, rfl, 0, rfl⟩
  case round =>
    obtain ⟨i, hi, rfl, nn, rfl⟩ := hrel
    by_cases hlt : i < k + 24
    · have d0 := hL.cell hlt
      have hL' : Hid _ := hL
      clear hL
      by_cases hik : i < k
      · obtain ⟨_, g', off, rfl, hcell⟩ := hW i hik
        obtain ⟨z, hz⟩ : ∃ z, Hid (Z i = z) := ⟨_, rfl⟩
        rw [zmW, if_pos hik, hz.out] at d0
        rw [hz.out] at hcell
        have e1 : decide ((i : Int) < (k : Int)) = true := by simp; omega
        have e2 : (z != z) = false := by simp
        have e3 : decide ((k : Int) ≤ (i : Int)) = false := by simp; omega
        have e5 : decide (k ≤ i) = false := by simp; omega
        have hW' : Hid _ := hW
        clear hW
        go_wp2
        go_quiet (fail)
        go_wp2
        go_roundw
        case rel => exact ⟨i + 1, by omega, by simp, nn + nq, by simp⟩
        case measure => simp [intOf]; omega
      · obtain ⟨t, ht⟩ : ∃ t, Hid (i - k = t) := ⟨_, rfl⟩
        rw [zmW, if_neg hik, ht.out] at d0
        have e1 : decide ((i : Int) < (k : Int)) = false := by simp; omega
        have e5 : decide (i < k) = false := by simp; omega
        have e3 : decide ((k : Int) ≤ (i : Int)) = true := by simp; omega
        have e6 : decide (k ≤ i) = true := by simp; omega
        have e4 : (i : Int) - (k : Int) = (t : Int) := by have := ht.out; omega
        have ht24 : t < 24 := by have := ht.out; omega
        have hmk' : Hid _ := fun w => markW_calls t ht24 w
        clear hW hik
        go_wp2
        go_quiet ((go_at_call 35; refine (hmk'.out _).mono ?_; rintro e w' ⟨rfl, rfl⟩; exact ⟨rfl, _, rfl⟩))
        go_wp2
        go_roundw
        case rel => exact ⟨i + 1, by omega, by simp, nn + nq, by simp⟩
        case measure => simp [intOf]; omega
    · obtain rfl : i = k + 24 := by omega
      clear hL hW
      go_wp2
      go_ret
      exact ⟨rfl, below_drewN (Below.refl _ _) _⟩
end Go.Proofs.YtomeaejjdjidlaaDoor

/-
  What quarrykit.OverWords leaves: all words of a lent list, and those behind its end, are laid over.
-/
namespace Go.Proofs.YtomeaejjdjidlaaDoor
open Go.RowKit

/-- The first i words of block g are marks; all else is as it was. -/
def OverI (w : World) (g c i : Nat) (wr : World) : Prop :=
  (∃ cur, At wr g cur 22 ∧ cur.size = c ∧ ∀ j, j < i → cur[j]? = some (.int .u64 (9000027 + (j : Int)))) ∧ Below g w wr ∧ (∀ b cs t, b ≠ g → At w b cs t → At wr b cs t) ∧ wr.heap.size = w.heap.size
theorem OverI.step {w wr : World} {g c i : Nat} (h : OverI w g c i wr) (hi : i < c) : OverI w g c (i + 1) (wr.setCell ⟨g, i, none⟩ (.int .u64 (9000027 + (i : Int)))) := by
  obtain ⟨⟨cur, h1, h2, h3⟩, h4, h5, h6⟩ := h
  refine ⟨⟨_, h1.set i _, by simp [h2], fun j hj => ?_⟩, h4.setCell (p := ⟨g, i, none⟩) (Nat.le_refl _) _, fun b cs t hb ha => (h5 b cs t hb ha).other (p := ⟨g, i, none⟩) hb _, by simp [h6]⟩
  by_cases e : j = i
  · subst e
    simp [h2, hi]
  · have := h3 j (by omega)
    simpa [Array.getElem?_setIfInBounds, show i ≠ j from fun h => e h.symm] using this

end Go.Proofs.YtomeaejjdjidlaaDoor

/-
  Rows that were handed out one after another lie apart; what laying over a lent row leaves of them.
-/
namespace Go.Proofs.YtomeaejjdjidlaaDoor
open Go.RowKit

/-- The row as one of several. -/
def rowX (so : Option Addr) (r : Nat) : RowX := ⟨so.map (·.block), r⟩
theorem slX_own {B : Nat} {w : World} {so : Option Addr} {r : Nat} {Z : Nat → Nat} (h : Own B w so r Z) : slX (rowX so r) = .slice so r r := by
  rcases h with ⟨rfl, rfl⟩ | ⟨g, rfl, _, _⟩ <;> rfl
theorem rowsX_nil (W : World) (B : Nat) : RowsX W B [] (fun _ _ => 0) := ⟨fun k x hk => by simp at hk, fun k l x y g hk _ _ _ => by simp at hk⟩
theorem rowsX_push {U W : World} {B : Nat} {rs : List RowX} {F : Nat → Nat → Nat} (h0 : RowsX U B rs F) (hb : Below U.heap.size U W) (hB : B ≤ U.heap.size) {so : Option Addr} {r : Nat} {Z : Nat → Nat} (ho : Own U.heap.size W so r Z) :
    ∃ F', RowsX W B (rs ++ [rowX so r]) F' := by
  have hW := h0.kept hb
  refine ⟨fun k => if k = rs.length then Z else F k, fun k x hk => ?_, fun k l x y g hk hl hx hy => ?_⟩
  · by_cases h : k < rs.length
    · rw [List.getElem?_append_left h] at hk
      obtain ⟨h1, h2⟩ := hW.1 k x hk
      have e : k ≠ rs.length := by omega
      simp only [e, if_false]
      exact ⟨h1, h2⟩
    · have e : k = rs.length := by
        have := (List.getElem?_eq_some_iff.1 hk).1
        simp at this
        omega
      subst e
      rw [List.getElem?_append_right (Nat.le_refl _), Nat.sub_self] at hk
      simp at hk
      subst hk
      simp only [if_true]
      rcases ho with ⟨rfl, rfl⟩ | ⟨g, rfl, h2, h3⟩
      · exact ⟨fun _ => rfl, fun g e => by cases e⟩
      · exact ⟨(fun e => by cases e), fun g' e => by cases e; exact ⟨Nat.le_trans hB h2, h3⟩⟩
  · have new : ∀ (k : Nat) (x : RowX) (g : Nat), (rs ++ [rowX so r])[k]? = some x → x.g = some g → (k < rs.length ∧ rs[k]? = some x ∧ g < U.heap.size) ∨ (k = rs.length ∧ U.heap.size ≤ g) := by
      intro k x g hk hx
      by_cases h : k < rs.length
      · rw [List.getElem?_append_left h] at hk
        exact .inl ⟨h, hk, h0.lt hk hx⟩
      · have e : k = rs.length := by
          have := (List.getElem?_eq_some_iff.1 hk).1
          simp at this
          omega
        subst e
        rw [List.getElem?_append_right (Nat.le_refl _), Nat.sub_self] at hk
        simp at hk
        subst hk
        rcases ho with ⟨rfl, rfl⟩ | ⟨g', rfl, h2, h3⟩
        · cases hx
        · cases hx
          exact .inr ⟨rfl, h2⟩
    rcases new k x g hk hx with ⟨h1, h2, h3⟩ | ⟨h1, h2⟩ <;> rcases new l y g hl hy with ⟨h4, h5, h6⟩ | ⟨h4, h5⟩
    · exact h0.2 k l x y g h2 h5 hx hy
    · omega
    · omega
    · omega
section
variable {w w' : World} {g c i : Nat}
theorem OverI.own (h : OverI w g c i w') {B : Nat} {so : Option Addr} {r : Nat} {Z : Nat → Nat} (ho : Own B w so r Z) (hg : g < B) : Own B w' so r Z := by
  rcases ho with h1 | ⟨g', h1, h2, h3⟩
  · exact .inl h1
  · exact .inr ⟨g', h1, h2, h.2.2.1 g' _ _ (by omega) h3⟩
theorem OverI.rows (h : OverI w g c i w') {B : Nat} {rs : List RowX} {F : Nat → Nat → Nat} (hr : RowsX w B rs F) (hg : g < B) : RowsX w' B rs F :=
  ⟨fun k x hk => ⟨(hr.1 k x hk).1, fun g' e => ⟨((hr.1 k x hk).2 g' e).1, h.2.2.1 g' _ _ (by have := ((hr.1 k x hk).2 g' e).1; omega) ((hr.1 k x hk).2 g' e).2⟩⟩, hr.2⟩
/-- What the row that was laid over holds. -/
theorem OverI.wds (h : OverI w g c i w') {k : Nat} (hk : k ≤ i) (hk2 : k ≤ 17592186044416) : Wds w' (some ⟨g, 0, none⟩) k (fun j => 9000027 + j) := fun j hj => by
  obtain ⟨⟨cur, h1, h2, h3⟩, _⟩ := h
  refine ⟨by simp only; omega, g, 0, rfl, ?_⟩
  rw [Nat.zero_add, h1.cell j, h3 j (by omega)]
  simp
theorem OverI.below (h : OverI w g c i w') {B : Nat} (hB : B ≤ g) : Below B w w' := h.2.1.mono hB
end
/-- The world has come so far. -/
def FromB (b : Nat) (U : World) : Prop := b ≤ U.heap.size
theorem FromB.kept {b : Nat} {U W : World} (h : FromB b U) (hb : Below U.heap.size U W) : FromB b W := Nat.le_trans h hb.size
/-- What lay in V lies there still. -/
def FromW (V U : World) : Prop := Below V.heap.size V U
theorem FromW.kept {V U W : World} (h : FromW V U) (hb : Below U.heap.size U W) : FromW V W := Below.trans h (Below.mono hb h.size)
theorem FromW.refl (V : World) : FromW V V := Below.refl _ _
theorem wf_small {n : Nat} (h : n ≤ 300) : (Lit.int .i64 (n : Int)).wf = true := by
  simp [Lit.wf, IntKind.min, IntKind.max, IntKind.bits, IntKind.signed]
  omega
theorem own_rng {B : Nat} {w : World} {so : Option Addr} {r : Nat} {Z : Nat → Nat} (h : Own B w so r Z) {g : Nat} (e : so = some ⟨g, 0, none⟩) : B ≤ g ∧ g < w.heap.size := by
  rcases h with ⟨h1, _⟩ | ⟨g', h1, h2, h3⟩
  · rw [h1] at e; cases e
  · rw [h1] at e; cases e; exact ⟨h2, h3.lt⟩
theorem own_two {B : Nat} {w : World} {so : Option Addr} {r : Nat} {Z : Nat → Nat} (h : Own B w so r Z) {b : Nat} (hb : ∀ g, so = some ⟨g, 0, none⟩ → g ≠ b) (x y : Value) : Own B ((w.setCell ⟨b, 0, none⟩ x).setCell ⟨b, 1, none⟩ y) so r Z := by
  rcases h with h | ⟨g, h1, h2, h3⟩
  · exact .inl h
  · exact .inr ⟨g, h1, h2, (h3.other (p := ⟨b, 0, none⟩) (hb g h1) x).other (p := ⟨b, 1, none⟩) (hb g h1) y⟩
/-- A list that is written out: its cells by reckoning. -/
theorem wpList_build {ops : Array Oper} {rest : List Oper} {o : Oper} {a : Act} {w : World} {Q : Exit → Act → World → Prop} (hgd : o.guard = none) (t : TypeId) (len : Nat) (parts : Array (Nat × Operand)) (ho : o.op = .buildSlice t len parts) (vals : Array (Nat × Value)) (hv : (parts.map fun (i, x) => (i, a.eval x)) = vals) (cs : Array Value) (et : TypeId)
    (hrun : Sem.run Tryd.prog (Instr.buildSlice t len vals) w = .ok (.slice (some ⟨w.heap.size, 0, none⟩) len len) (w.alloc (.cells cs et)))
    (h : wpList Tryd.prog ops Q rest (a.put o.dst (.slice (some ⟨w.heap.size, 0, none⟩) len len)) (w.alloc (.cells cs et))) : wpList Tryd.prog ops Q (o :: rest) a w := by
  refine wpList_plain hgd fun K hK => ?_
  unfold Oper.wp
  simp only [execOp, ho, Sem.run_bind, hv, hrun, Result.andThen_ok]
  exact hK _ _ h
end Go.Proofs.YtomeaejjdjidlaaDoor
