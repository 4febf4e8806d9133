/-
  What a call that lays over several rows leaves; a list of rows of its own.
-/
import Derived.Test.YtmjmcdoanolelabDoorApartKit2
namespace Go.Proofs.YtmjmcdoanolelabDoor
open Go.RowKit

/-- All but the rows is as it was; what lay ahead of B wholly so. -/
def ApartK (B : Nat) (rs : List RowX) (A W : World) : Prop := Below B A W ∧ ∀ b cs t, At A b cs t → (∀ (k : Nat) (x : RowX), rs[k]? = some x → x.g ≠ some b) → At W b cs t
section
variable {B : Nat} {rs : List RowX} {A W W' : World}
theorem ApartK.refl (B : Nat) (rs : List RowX) (A : World) : ApartK B rs A A := ⟨Below.refl _ _, fun _ _ _ h _ => h⟩
theorem ApartK.size (h : ApartK B rs A W) : A.heap.size ≤ W.heap.size := h.1.size
theorem ApartK.kept (h : ApartK B rs A W) (hb : Below W.heap.size W W') (hB : B ≤ W.heap.size) : ApartK B rs A W' := ⟨h.1.trans (hb.mono hB), fun b cs t h1 h2 => (h.2 b cs t h1 h2).keptAll hb⟩
theorem ApartK.row (h : ApartK B rs A W) {k : Nat} {x : RowX} {g : Nat} (hk : rs[k]? = some x) (hg : x.g = some g) (hB : B ≤ g) (i : Nat) (v : Value) : ApartK B rs A (W.setCell ⟨g, i, none⟩ v) :=
  ⟨h.1.setCell (p := ⟨g, i, none⟩) hB v, fun b cs t h1 h2 => (h.2 b cs t h1 h2).other (p := ⟨g, i, none⟩) (fun e => h2 k x hk (by rw [hg]; exact congrArg some e.symm)) v⟩
theorem ApartK.own (h : ApartK B rs A W) {b : Nat} (hb : A.heap.size ≤ b) (hB : B ≤ b) (i : Nat) (v : Value) : ApartK B rs A (W.setCell ⟨b, i, none⟩ v) :=
  ⟨h.1.setCell (p := ⟨b, i, none⟩) hB v, fun b' cs t h1 h2 => (h.2 b' cs t h1 h2).other (p := ⟨b, i, none⟩) (by have := h1.lt; show b' ≠ b; omega) v⟩
theorem ApartK.grown (h : ApartK B rs A W) {row : Option Nat} (hg : W.grownBy W' row) (hr : ∀ r, row = some r → A.heap.size ≤ r) (hB : B ≤ A.heap.size) : ApartK B rs A W' :=
  ⟨h.1.grown hg (Nat.le_trans hB h.size) (fun b e => Nat.le_trans hB (hr b e)), fun b cs t h1 h2 => (hg.block b (h.2 b cs t h1 h2).lt (fun e => by have := hr b e.symm; have := h1.lt; omega)).trans (h.2 b cs t h1 h2)⟩
theorem At.grow {b : Nat} {cs : Array Value} {t : TypeId} {row : Option Nat} (h : At W b cs t) (hg : W.grownBy W' row) (hr : row ≠ some b) : At W' b cs t := (hg.block b h.lt (fun e => hr e.symm)).trans h
theorem RowsX.grown {F : Nat → Nat → Nat} (h : RowsX W B rs F) {row : Option Nat} (hg : W.grownBy W' row) (hr : ∀ (k : Nat) (x : RowX), rs[k]? = some x → x.g = none ∨ x.g ≠ row) : RowsX W' B rs F :=
  ⟨fun k x hk => ⟨(h.1 k x hk).1, fun g e => ⟨((h.1 k x hk).2 g e).1, ((h.1 k x hk).2 g e).2.grow hg (fun e2 => by
    rcases hr k x hk with h1 | h1
    · rw [h1] at e; cases e
    · exact h1 (by rw [e, e2]))⟩⟩, h.2⟩
theorem ApartK.drew (h : ApartK B rs A W) : ApartK B rs A W.drew := ⟨h.1.drew, fun b cs t h1 h2 => (h.2 b cs t h1 h2).drew⟩
theorem RowsX.drew {F : Nat → Nat → Nat} (h : RowsX W B rs F) : RowsX W.drew B rs F := h.kept (Below.refl _ W).drew
theorem RowsX.off {F : Nat → Nat → Nat} (h : RowsX W B rs F) {b i : Nat} (hb : ∀ (k : Nat) (x : RowX) (g : Nat), rs[k]? = some x → x.g = some g → g ≠ b) (v : Value) : RowsX (W.setCell ⟨b, i, none⟩ v) B rs F :=
  ⟨fun k x hk => ⟨(h.1 k x hk).1, fun g hg => ⟨((h.1 k x hk).2 g hg).1, ((h.1 k x hk).2 g hg).2.other (p := ⟨b, i, none⟩) (hb k x g hk hg) v⟩⟩, h.2⟩
theorem RowsX.lt {F : Nat → Nat → Nat} (h : RowsX W B rs F) {k : Nat} {x : RowX} (hk : rs[k]? = some x) {g : Nat} (hg : x.g = some g) : g < W.heap.size := ((h.1 k x hk).2 g hg).2.lt
end

/-- One of the lists that a row was appended to: its block and its room. -/
structure GrX where
  b : Nat
  c : Nat
def slG (x : RowX) (y : GrX) : Value := .slice (some ⟨y.b, 0, none⟩) (x.r + 64) y.c
/-- The list gs: of each row a list of its own, of 64 words more, that begins with m marks. -/
def GsI (W : World) (base : Nat) (gv : Value) (rs : List RowX) (ys : List GrX) (m : RowX → Nat) : Prop :=
  W.ownsRow base 23 1 gv ys.length (List.zipWith slG rs ys) ∧ ys.length ≤ rs.length ∧
    ∀ (k : Nat) (x : RowX) (y : GrX), rs[k]? = some x → ys[k]? = some y → base ≤ y.b ∧ gv.ownBlock ≠ some y.b ∧ ∃ cur, At W y.b cur 33 ∧ ∀ i, i < m x → cur[i]? = some (.int .u64 ((markN k i : Nat) : Int))
theorem infoS : (Tryd.prog.info? 23).map (fun i => (i.zero, i.size, i.bytes)) = some (some (.slice none 0 0), 1, 24) := by kernel_rfl
theorem appendS_apart {w : World} {base n : Nat} {ty : TypeId} {v x : Value} {xs : List Value} (hown : w.ownsRow base 23 1 v n xs) (ad : Addr) (c : Nat) (hcell : w.cell? (ad.add 0) = some x) (h1 : x.oneCell' = true) (hn : n < 1000000) (hbase : base ≤ w.heap.size) :
    ∃ v' w', (Builtin.append_ #[57, 57] ty #[v, .slice (some ad) 1 c]).run Tryd.prog w = .ok v' w' ∧ w'.ownsRow base 23 1 v' (n + 1) (xs ++ [x]) ∧ w.grownBy w' v.ownBlock ∧ (v'.ownBlock = v.ownBlock ∨ ∃ g, v'.ownBlock = some g ∧ w.heap.size ≤ g) := by
  obtain ⟨i0, hi, hz0, hz1, hz2⟩ := info_parts infoS
  have hl : [x].length = 1 * 1 := rfl
  have hnews : ∀ j u, [x][j]? = some u → w.cell? (ad.add j) = some u := by
    intro j u hj
    match j, hj with
    | 0, hj => simp at hj; subst hj; exact hcell
  have ho : ∀ u ∈ [x], u.oneCell' = true := by intro u hu; simp at hu; subst hu; exact h1
  have hm : n + 1 ≤ maxLen := by unfold maxLen; omega
  have hby : (n + 1) * 24 ≤ 140737488355328 := by omega
  obtain ⟨v', w', hr, r1, r2, -⟩ := run_append_own (P := Tryd.prog) w base 57 ty 23 i0 (.slice none 0 0) 1 24 Tryd.underlying57 hi hz0 hz1 hz2 rfl (by decide) v n xs hown ad 1 c [x] hl hnews ho hm hby hbase
  refine ⟨v', w', hr, r1, r2, ?_⟩
  have new : ∀ {v'' : Value} {w'' : World} {ys : List Value}, w''.ownsRow w.heap.size 23 1 v'' (n + 1) ys → v' = v'' → ∃ g, v'.ownBlock = some g ∧ w.heap.size ≤ g := by
    rintro v'' w'' ys ⟨-, ⟨-, h⟩ | ⟨g, cap, cur, rfl, hg, -⟩⟩ rfl
    · omega
    · exact ⟨g, rfl, hg⟩
  rcases hown.2 with ⟨rfl, rfl⟩ | ⟨g, cap, cur, rfl, hb, hg, hnc, hcm, hcs, htk⟩
  · obtain ⟨v'', w'', hr2, s1, -, -⟩ := run_append_own (P := Tryd.prog) w w.heap.size 57 ty 23 i0 (.slice none 0 0) 1 24 Tryd.underlying57 hi hz0 hz1 hz2 rfl (by decide) (.slice none 0 0) 0 [] (World.ownsRow_nil w _ _ _) ad 1 c [x] hl hnews ho hm hby (Nat.le_refl _)
    rw [hr] at hr2
    obtain ⟨rfl, rfl⟩ : v' = v'' ∧ w' = w'' := by simpa using hr2
    exact .inr (new s1 rfl)
  · have hcells := hown.cells (g := g) rfl
    by_cases hgr : cap < n + 1
    · obtain ⟨v'', w'', hr2, s1, -⟩ := run_append_arg_grows (P := Tryd.prog) w 57 ty 23 i0 (.slice none 0 0) 1 24 Tryd.underlying57 hi hz0 hz1 hz2 rfl (by decide) ⟨g, 0, none⟩ n cap xs hown.1 hcells ad 1 c [x] hl hnews hgr hm hby
      rw [hr] at hr2
      obtain ⟨rfl, rfl⟩ : v' = v'' ∧ w' = w'' := by simpa using hr2
      exact .inr (new s1 rfl)
    · have hat : At w g cur 23 := hg
      have hr2 := run_append_room_cells (P := Tryd.prog) w 57 ty 23 i0 Tryd.underlying57 hi g 0 n cap ad 1 c [x] (by rw [hz1]; exact hl) hnews ho (by omega) (fun j hj => by
          have e := hat.cell (0 + n * i0.size + j)
          rw [e, Array.getElem?_eq_getElem (by rw [hz1]; simp at hj; omega)]; rfl) (fun j hj => hat.frozen _)
      rw [hr] at hr2
      obtain ⟨rfl, -⟩ : v' = _ ∧ w' = _ := by simpa using hr2
      exact .inl rfl
theorem wpList_appendS {ops : Array Oper} {rest : List Oper} {o : Oper} {a : Act} {w : World} {Q : Exit → Act → World → Prop} (hgd : o.guard = none) (s y : Operand)
    (ho : o.op = .call { callee := .builtin .append, args := #[s, y], argTypes := #[57, 57] }) (base : Nat) (v x : Value) (n : Nat) (xs : List Value) (hs : a.eval s = v) (hown : w.ownsRow base 23 1 v n xs)
    (ad : Addr) (c : Nat) (hy : a.eval y = .slice (some ad) 1 c) (hcell : w.cell? (ad.add 0) = some x) (h1 : x.oneCell' = true) (hn : n < 1000000) (hbase : base ≤ w.heap.size)
    (h : ∀ v' w', w'.ownsRow base 23 1 v' (n + 1) (xs ++ [x]) → w.grownBy w' v.ownBlock → (v'.ownBlock = v.ownBlock ∨ ∃ g, v'.ownBlock = some g ∧ w.heap.size ≤ g) → wpList Tryd.prog ops Q rest (a.put o.dst v') w') : wpList Tryd.prog ops Q (o :: rest) a w := by
  refine wpList_plain hgd fun K hK => ?_
  obtain ⟨v', w', hr, r1, r2, r3⟩ := appendS_apart (ty := o.type) hown ad c hcell h1 hn hbase
  unfold Oper.wp
  simp [execOp, ho, resolve, invoke, builtin, hs, hy, hr, Result.andThen]
  exact hK _ _ (h v' w' r1 r2 r3)

/-- A list that grows out of the row x: at first the row itself, then a row of its own from wb on. -/
def GrowI (W : World) (wb : Nat) (k : Nat) (x : RowX) (i : Nat) (v : Value) : Prop := (i = 0 ∧ v = slX x) ∨ W.ownsRow wb 33 1 v (x.r + i) (wdsL (x.r + i) (markN k))
theorem wdsL_snoc (r : Nat) (Y : Nat → Nat) : wdsL r Y ++ [.int .u64 ((Y r : Nat) : Int)] = wdsL (r + 1) Y := by simp [wdsL, List.range_succ]
theorem wdsL_congr {r : Nat} {Y Z : Nat → Nat} (h : ∀ j, j < r → Y j = Z j) : wdsL r Y = wdsL r Z := by
  unfold wdsL
  apply List.map_congr_left
  intro j hj
  rw [h j (by simpa using hj)]
theorem grow_append {W : World} {B : Nat} {rs : List RowX} {F : Nat → Nat → Nat} (h : RowsX W B rs F) {k : Nat} {x : RowX} (hk : rs[k]? = some x) (hF : ∀ j, j < x.r → F k j = markN k j) {ty : TypeId} {wb i : Nat} {v : Value} (hv : GrowI W wb k x i v) (hwb : wb ≤ W.heap.size) (ad : Addr) (c : Nat) (hcell : W.cell? (ad.add 0) = some (.int .u64 ((markN k (x.r + i) : Nat) : Int))) (hr : x.r + i + 1 ≤ 17592186044415) :
    ∃ v' w', (Builtin.append_ #[23, 23] ty #[v, .slice (some ad) 1 c]).run Tryd.prog W = .ok v' w' ∧ GrowI w' wb k x (i + 1) v' ∧ Below wb W w' := by
  obtain ⟨i0, hi, hz0, hz1, hz2⟩ := info_parts infoW
  have hnews : ∀ j u, [Value.int .u64 ((markN k (x.r + i) : Nat) : Int)][j]? = some u → W.cell? (ad.add j) = some u := by
    intro j u hj
    match j, hj with
    | 0, hj => simp at hj; subst hj; exact hcell
  have ho : ∀ u ∈ [Value.int .u64 ((markN k (x.r + i) : Nat) : Int)], u.oneCell' = true := by intro u hu; simp at hu; subst hu; rfl
  rcases hv with ⟨rfl, rfl⟩ | hv
  · obtain ⟨v', w', hr1, hr2, hr3⟩ := append_first h hk (ty := ty) ad 1 c _ rfl (by decide) hnews ho (by omega)
    refine ⟨v', w', hr1, .inr ?_, hr3.mono hwb⟩
    have e : wdsL x.r (F k) ++ [Value.int .u64 ((markN k (x.r + 0) : Nat) : Int)] = wdsL (x.r + (0 + 1)) (markN k) := by
      rw [wdsL_congr hF, Nat.add_zero, wdsL_snoc]
    rw [e] at hr2
    exact row_base hr2 hwb
  · obtain ⟨v', w', hr1, s1, s2, -⟩ := run_append_own (P := Tryd.prog) W wb 23 ty 33 i0 (.int .u64 0) 1 8 Tryd.underlying23 hi hz0 hz1 hz2 rfl (by decide) v (x.r + i) _ hv ad 1 c _ rfl hnews ho (by unfold maxLen; omega) (by omega) hwb
    rw [wdsL_snoc] at s1
    exact ⟨v', w', hr1, .inr s1, (Below.refl _ W).grown s2 hwb (fun b e => (hv.lt b e).1)⟩
theorem wpList_grow {ops : Array Oper} {rest : List Oper} {o : Oper} {a : Act} {W : World} {Q : Exit → Act → World → Prop} (hgd : o.guard = none) (s y : Operand)
    (ho : o.op = .call { callee := .builtin .append, args := #[s, y], argTypes := #[23, 23] }) {B : Nat} {rs : List RowX} {F : Nat → Nat → Nat} (h : RowsX W B rs F) {k : Nat} {x : RowX} (hk : rs[k]? = some x) (hF : ∀ j, j < x.r → F k j = markN k j) {wb i : Nat} {v : Value} (hs : a.eval s = v) (hv : GrowI W wb k x i v) (hwb : wb ≤ W.heap.size) (ad : Addr) (c : Nat) (hy : a.eval y = .slice (some ad) 1 c) (hcell : W.cell? (ad.add 0) = some (.int .u64 ((markN k (x.r + i) : Nat) : Int))) (hr : x.r + i + 1 ≤ 17592186044415)
    (hQ : ∀ v' w', GrowI w' wb k x (i + 1) v' → Below wb W w' → wpList Tryd.prog ops Q rest (a.put o.dst v') w') : wpList Tryd.prog ops Q (o :: rest) a W := by
  refine wpList_plain hgd fun K hK => ?_
  obtain ⟨v', w', hr, r1, r2⟩ := grow_append h hk hF (ty := o.type) hv hwb ad c hcell hr
  unfold Oper.wp
  simp [execOp, ho, resolve, invoke, builtin, hs, hy, hr, Result.andThen]
  exact hK _ _ (hQ v' w' r1 r2)
/-- append(row, words...) as an operation: a new row. -/
theorem wpList_first {ops : Array Oper} {rest : List Oper} {o : Oper} {a : Act} {W : World} {Q : Exit → Act → World → Prop} (hgd : o.guard = none) (s y : Operand)
    (ho : o.op = .call { callee := .builtin .append, args := #[s, y], argTypes := #[23, 23] }) {B : Nat} {rs : List RowX} {F : Nat → Nat → Nat} (h : RowsX W B rs F) {k : Nat} {x : RowX} (hk : rs[k]? = some x) (hs : a.eval s = slX x) (ad : Addr) (m c : Nat) (news : List Value) (hy : a.eval y = .slice (some ad) m c) (hl : news.length = m) (hm : 0 < m) (hnews : ∀ j u, news[j]? = some u → W.cell? (ad.add j) = some u) (h1 : ∀ u ∈ news, u.oneCell' = true) (hr : x.r + m ≤ 17592186044415)
    (hQ : ∀ v' w', w'.ownsRow W.heap.size 33 1 v' (x.r + m) (wdsL x.r (F k) ++ news) → Below W.heap.size W w' → wpList Tryd.prog ops Q rest (a.put o.dst v') w') : wpList Tryd.prog ops Q (o :: rest) a W := by
  refine wpList_plain hgd fun K hK => ?_
  obtain ⟨v', w', hr, r1, r2⟩ := append_first h hk (ty := o.type) ad m c news hl hm hnews h1 hr
  unfold Oper.wp
  simp [execOp, ho, resolve, invoke, builtin, hs, hy, hr, Result.andThen]
  exact hK _ _ (hQ v' w' r1 r2)
end Go.Proofs.YtmjmcdoanolelabDoor
