/-
  What quarryref10.Build answers: the kit.
-/
import Derived.Test.YtjccgiadmnogeaaDoorRefL
import Derived.Test.YtjccgiadmnogeaaDoorSameLv
import Derived.Test.YtjccgiadmnogeaaDoorRefOf
import Derived.Test.YtjccgiadmnogeaaDoorAppendApart
namespace Go.Proofs.YtjccgiadmnogeaaDoor
open Go.RowKit Go.Shelf

theorem infoBA : (Tryd.prog.info? 43).map (fun i => (i.zero, i.size, i.bytes)) = some (some (.agg #[.int .i64 0, .slice none 0 0]), 2, 32) := by kernel_rfl
theorem appendB_apart {w : World} {base n : Nat} {ty : TypeId} {v x y : Value} {xs : List Value} (hown : w.ownsRow base 43 2 v n xs) (ad : Addr) (c : Nat) (hc0 : w.cell? (ad.add 0) = some x) (hc1 : w.cell? (ad.add 1) = some y) (h1 : x.oneCell' = true) (h2 : y.oneCell' = true) (hn : n < 1000000) (hbase : base ≤ w.heap.size) :
    ∃ v' w', (Builtin.append_ #[30, 30] ty #[v, .slice (some ad) 1 c]).run Tryd.prog w = .ok v' w' ∧ w'.ownsRow base 43 2 v' (n + 1) (xs ++ [x, y]) ∧ w.grownBy w' v.ownBlock ∧ (v'.ownBlock = v.ownBlock ∨ ∃ g, v'.ownBlock = some g ∧ w.heap.size ≤ g) := by
  obtain ⟨i0, hi, hz0, hz1, hz2⟩ := info_parts infoBA
  have hl : [x, y].length = 1 * 2 := rfl
  have hnews : ∀ j u, [x, y][j]? = some u → w.cell? (ad.add j) = some u := by
    intro j u hj
    match j, hj with
    | 0, hj => simp at hj; subst hj; exact hc0
    | 1, hj => simp at hj; subst hj; exact hc1
  have ho : ∀ u ∈ [x, y], u.oneCell' = true := by
    intro u hu
    simp at hu
    rcases hu with rfl | rfl
    · exact h1
    · exact h2
  have hm : n + 1 ≤ maxLen := by unfold maxLen; omega
  have hby : (n + 1) * 32 ≤ 140737488355328 := by omega
  obtain ⟨v', w', hr, r1, r2, -⟩ := run_append_own (P := Tryd.prog) w base 30 ty 43 i0 (.agg #[.int .i64 0, .slice none 0 0]) 2 32 Tryd.underlying30 hi hz0 hz1 hz2 rfl (by decide) v n xs hown ad 1 c [x, y] hl hnews ho hm hby hbase
  refine ⟨v', w', hr, r1, r2, ?_⟩
  have new : ∀ {v'' : Value} {w'' : World} {ys : List Value}, w''.ownsRow w.heap.size 43 2 v'' (n + 1) ys → v' = v'' → ∃ g, v'.ownBlock = some g ∧ w.heap.size ≤ g := by
    rintro v'' w'' ys ⟨-, ⟨-, h⟩ | ⟨g, cap, cur, rfl, hg, -⟩⟩ rfl
    · omega
    · exact ⟨g, rfl, hg⟩
  rcases hown.2 with ⟨rfl, rfl⟩ | ⟨g, cap, cur, rfl, hb, hg, hnc, hcm, hcs, htk⟩
  · obtain ⟨v'', w'', hr2, s1, -, -⟩ := run_append_own (P := Tryd.prog) w w.heap.size 30 ty 43 i0 (.agg #[.int .i64 0, .slice none 0 0]) 2 32 Tryd.underlying30 hi hz0 hz1 hz2 rfl (by decide) (.slice none 0 0) 0 [] (World.ownsRow_nil w _ _ _) ad 1 c [x, y] hl hnews ho hm hby (Nat.le_refl _)
    rw [hr] at hr2
    obtain ⟨rfl, rfl⟩ : v' = v'' ∧ w' = w'' := by simpa using hr2
    exact .inr (new s1 rfl)
  · have hcells := hown.cells (g := g) rfl
    by_cases hgr : cap < n + 1
    · obtain ⟨v'', w'', hr2, s1, -⟩ := run_append_arg_grows (P := Tryd.prog) w 30 ty 43 i0 (.agg #[.int .i64 0, .slice none 0 0]) 2 32 Tryd.underlying30 hi hz0 hz1 hz2 rfl (by decide) ⟨g, 0, none⟩ n cap xs hown.1 hcells ad 1 c [x, y] hl hnews hgr hm hby
      rw [hr] at hr2
      obtain ⟨rfl, rfl⟩ : v' = v'' ∧ w' = w'' := by simpa using hr2
      exact .inr (new s1 rfl)
    · have hat : At w g cur 43 := hg
      have hr2 := run_append_room_cells (P := Tryd.prog) w 30 ty 43 i0 Tryd.underlying30 hi g 0 n cap ad 1 c [x, y] (by rw [hz1]; exact hl) hnews ho (by omega) (fun j hj => by
          have e := hat.cell (0 + n * i0.size + j)
          rw [e, Array.getElem?_eq_getElem (by rw [hz1]; simp at hj; omega)]; rfl) (fun j hj => hat.frozen _)
      rw [hr] at hr2
      obtain ⟨rfl, -⟩ : v' = _ ∧ w' = _ := by simpa using hr2
      exact .inl rfl
theorem wp_append_rowB {o : Oper} {a : Act} {w w' : World} {K : Act → World → Prop} {Q : Exit → Act → World → Prop} {x y : Operand} {v v' u : Value} (ho : o.op = .call { callee := .builtin .append, args := #[x, y], argTypes := #[30, 30] }) (hx : a.eval x = v) (hy : a.eval y = u)
    (hr : (Builtin.append_ #[30, 30] o.type #[v, u]).run Tryd.prog w = .ok v' w') (h : K (a.put o.dst v') w') : o.wp Tryd.prog a w K Q := by
  unfold Oper.wp execOp
  simp only [ho, resolve, invoke, builtin, Sem.run_bind, Sem.run_pure, Result.andThen_ok, List.map_toArray, List.map_cons, List.map_nil, hx, hy, hr]
  exact h
theorem own_same {W W' : World} {B n sz : Nat} {e : TypeId} {x : Value} {xs : List Value} (h : W.ownsRow B e sz x n xs) (hs : ∀ g, x.ownBlock = some g → W'.heap[g]? = W.heap[g]?) : W'.ownsRow B e sz x n xs := by
  refine ⟨h.1, ?_⟩
  rcases h.2 with h2 | ⟨g, cap, cur, rfl, hb, hg, h3⟩
  · exact .inl h2
  · exact .inr ⟨g, cap, cur, rfl, hb, (hs g rfl).trans hg, h3⟩
theorem own_block {W : World} {B n sz : Nat} {e : TypeId} {x : Value} {xs : List Value} (h : W.ownsRow B e sz x n xs) {g : Nat} (hg : x.ownBlock = some g) : B ≤ g ∧ ∃ cur, W.heap[g]? = some (.cells cur e (0, 0)) := by
  rcases h.2 with ⟨rfl, -⟩ | ⟨g', cap, cur, rfl, hb, hg', -⟩
  · cases hg
  · cases hg
    exact ⟨hb, cur, hg'⟩
theorem blk_lt {W : World} {g : Nat} {o : Obj} (h : W.heap[g]? = some o) : g < W.heap.size := (Array.getElem?_eq_some_iff.1 h).1
/-- The cells of a list of rows. -/
def flB (n : Nat) (rs : List Value) : List Value := rs.flatMap fun x => [.int .i64 (n : Int), x]
theorem flB_snoc (n : Nat) (rs : List Value) (x : Value) : flB n (rs ++ [x]) = flB n rs ++ [.int .i64 (n : Int), x] := by simp [flB]
theorem flB_get {n k : Nat} {rs : List Value} {x : Value} (h : rs[k]? = some x) : (flB n rs)[k * 2]? = some (.int .i64 (n : Int)) ∧ (flB n rs)[k * 2 + 1]? = some x := by
  induction rs generalizing k with
  | nil => simp at h
  | cons a l ih =>
    cases k with
    | zero => simp at h; subst h; exact ⟨rfl, rfl⟩
    | succ k =>
      rw [List.getElem?_cons_succ] at h
      obtain ⟨h1, h2⟩ := ih h
      have e : flB n (a :: l) = .int .i64 (n : Int) :: a :: flB n l := rfl
      rw [e, show (k + 1) * 2 = k * 2 + 1 + 1 by omega, List.getElem?_cons_succ, List.getElem?_cons_succ, List.getElem?_cons_succ, List.getElem?_cons_succ]
      exact ⟨h1, h2⟩
/-- A list of j rows that is being made; all of it lies from B on. -/
def LsB (W : World) (B : Nat) (v : Value) (j n : Nat) (F : Nat → Nat → Nat) : Prop :=
  ∃ rs : List Value, rs.length = j ∧ W.ownsRow B 43 2 v j (flB n rs) ∧ ∀ (i : Nat) (x : Value), rs[i]? = some x → W.ownsRow B 22 1 x (need n) (wl (F i) (need n))
section
variable {W W' : World} {B j n : Nat} {v : Value} {F : Nat → Nat → Nat}
theorem LsB.nil (W : World) (B n : Nat) (F : Nat → Nat → Nat) : LsB W B (.slice none 0 0) 0 n F := ⟨[], rfl, World.ownsRow_nil _ _ _ _, fun i x h => by simp at h⟩
theorem LsB.same (h : LsB W B v j n F) (hs : ∀ g cur, B ≤ g → W.heap[g]? = some (.cells cur 22 (0, 0)) → W'.heap[g]? = W.heap[g]?) (hv : ∀ g, v.ownBlock = some g → W'.heap[g]? = W.heap[g]?) : LsB W' B v j n F := by
  obtain ⟨rs, h1, h2, h3⟩ := h
  refine ⟨rs, h1, own_same h2 hv, fun i x hx => own_same (h3 i x hx) (fun g hg => ?_)⟩
  obtain ⟨hb, cur, hc⟩ := own_block (h3 i x hx) hg
  exact hs g cur hb hc
theorem LsB.kept (h : LsB W B v j n F) (hb : Below W.heap.size W W') : LsB W' B v j n F := by
  have hv : ∀ g, v.ownBlock = some g → W'.heap[g]? = W.heap[g]? := fun g hg => by
    obtain ⟨rs, h1, h2, h3⟩ := h
    obtain ⟨-, cur, hc⟩ := own_block h2 hg
    exact hb.block g (blk_lt hc)
  exact h.same (fun g cur _ hc => hb.block g (blk_lt hc)) hv
theorem LsB.set (h : LsB W B v j n F) {p : Addr} (hp : p.block < B) (y : Value) : LsB (W.setCell p y) B v j n F := by
  have hv : ∀ g, v.ownBlock = some g → (W.setCell p y).heap[g]? = W.heap[g]? := fun g hg => by
    obtain ⟨rs, h1, h2, h3⟩ := h
    obtain ⟨hb, cur, hc⟩ := own_block h2 hg
    exact Below.heap_setCell W p y g (by omega)
  exact h.same (fun g cur hb hc => Below.heap_setCell W p y g (by omega)) hv
theorem LsB.blk (h : LsB W B v j n F) {g : Nat} (hg : v.ownBlock = some g) : B ≤ g ∧ ∃ cur, W.heap[g]? = some (.cells cur 43 (0, 0)) := by
  obtain ⟨rs, h1, h2, h3⟩ := h
  exact own_block h2 hg
/-- Another list grows. -/
theorem LsB.grown {u : Value} (h : LsB W B v j n F) (hg : W.grownBy W' u.ownBlock) (hu : ∀ g, u.ownBlock = some g → ∃ cur, W.heap[g]? = some (.cells cur 43 (0, 0))) (hne : ∀ g, v.ownBlock = some g → u.ownBlock ≠ some g) : LsB W' B v j n F := by
  have hv : ∀ g, v.ownBlock = some g → W'.heap[g]? = W.heap[g]? := fun g hvg => by
    obtain ⟨-, cur, hc⟩ := h.blk hvg
    exact hg.block g (blk_lt hc) (fun e => hne g hvg e.symm)
  refine h.same (fun g cur _ hc => hg.block g (blk_lt hc) (fun e => ?_)) hv
  obtain ⟨cur', hc'⟩ := hu g e.symm
  rw [hc] at hc'
  cases hc'
theorem LsB.push' {v' x : Value} {rs : List Value} (h1 : rs.length = j) (h2 : W.ownsRow B 43 2 v j (flB n rs)) (h3 : ∀ (i : Nat) (x : Value), rs[i]? = some x → W.ownsRow B 22 1 x (need n) (wl (F i) (need n))) (hg : W.grownBy W' v.ownBlock) (ho : W'.ownsRow B 43 2 v' (j + 1) (flB n rs ++ [.int .i64 (n : Int), x])) (hx : W.ownsRow B 22 1 x (need n) (wl (F j) (need n))) : LsB W' B v' (j + 1) n F := by
  have hsm : ∀ {y : Value} {k : Nat}, W.ownsRow B 22 1 y (need n) (wl (F k) (need n)) → W'.ownsRow B 22 1 y (need n) (wl (F k) (need n)) := fun hy => own_same hy (fun g hyg => by
    obtain ⟨-, cur, hc⟩ := own_block hy hyg
    refine hg.block g (blk_lt hc) (fun e => ?_)
    obtain ⟨-, cur', hc'⟩ := own_block h2 e.symm
    rw [hc] at hc'
    cases hc')
  refine ⟨rs ++ [x], by simp [h1], by rw [flB_snoc]; exact ho, fun i y hy => ?_⟩
  by_cases hi : i < rs.length
  · rw [List.getElem?_append_left hi] at hy
    exact hsm (h3 i y hy)
  · have hij : i = j := by
      have := (List.getElem?_eq_some_iff.1 hy).1
      rw [List.length_append] at this
      simp at this
      omega
    subst hij
    rw [List.getElem?_append_right (by omega), h1, Nat.sub_self] at hy
    simp at hy
    subst hy
    exact hsm hx
theorem LsB.shape (h : LsB W B v j n F) : ∃ lo cap, v = .slice lo j cap := by
  obtain ⟨rs, h1, h2, h3⟩ := h
  rcases h2.2 with ⟨rfl, rfl⟩ | ⟨g, cap, cur, rfl, hb, hg, -⟩
  · exact ⟨none, 0, rfl⟩
  · exact ⟨_, cap, rfl⟩
theorem LsB.rd2 {lo : Option Addr} {cap : Nat} (h : LsB W B (.slice lo j cap) j n F) (hrd : LsB W B (.slice lo j cap) j n F → ∃ lo' cap', Value.slice lo j cap = .slice lo' j cap' ∧ RdL W lo' j n F) : RdL W lo j n F := by
  obtain ⟨lo', cap', e, r⟩ := hrd h
  cases e
  exact r
theorem LsB.rd (h : LsB W B v j n F) (hF : ∀ k i, F k i < 18446744073709551616) : ∃ lo cap, v = .slice lo j cap ∧ RdL W lo j n F := by
  obtain ⟨rs, h1, h2, h3⟩ := h
  rcases h2.2 with ⟨rfl, rfl⟩ | ⟨g, cap, cur, rfl, hb, hg, -⟩
  · exact ⟨none, 0, rfl, fun k hk => by omega⟩
  · refine ⟨_, cap, rfl, fun k hk => ?_⟩
    obtain ⟨x, hx⟩ : ∃ x, rs[k]? = some x := ⟨_, List.getElem?_eq_getElem (by omega)⟩
    obtain ⟨f0, f1⟩ := flB_get (n := n) hx
    have c0 := h2.cells (g := g) rfl _ _ f0
    have c1 := h2.cells (g := g) rfl _ _ f1
    rw [show (⟨g, 0, none⟩ : Addr).add (k * 2) = ⟨g, k * 2, none⟩ by by_cases h : k * 2 = 0 <;> simp [Addr.add, h]] at c0
    rw [show (⟨g, 0, none⟩ : Addr).add (k * 2 + 1) = ⟨g, k * 2 + 1, none⟩ by simp [Addr.add]] at c1
    obtain ⟨ao, cap', rfl, hw⟩ := wds_of_row (h3 k x hx) (fun i _ => hF k i)
    exact ⟨g, ao, cap', rfl, c0, c1, hw⟩
end
/-- A row comes to the list. -/
theorem LsB.app {W : World} {B j n : Nat} {v x : Value} {F : Nat → Nat → Nat} {ty : TypeId} (h : LsB W B v j n F) (hx : W.ownsRow B 22 1 x (need n) (wl (F j) (need n))) (ad : Addr) (c : Nat) (hc0 : W.cell? (ad.add 0) = some (.int .i64 (n : Int))) (hc1 : W.cell? (ad.add 1) = some x) (hj : j < 1000000) (hB : B ≤ W.heap.size) :
    ∃ v' W', (Builtin.append_ #[30, 30] ty #[v, .slice (some ad) 1 c]).run Tryd.prog W = .ok v' W' ∧ LsB W' B v' (j + 1) n F ∧ W.grownBy W' v.ownBlock ∧ (v'.ownBlock = v.ownBlock ∨ ∃ g, v'.ownBlock = some g ∧ W.heap.size ≤ g) := by
  obtain ⟨rs, h1, h2, h3⟩ := h
  have ho : x.oneCell' = true := by
    rcases hx.2 with ⟨rfl, -⟩ | ⟨g, cap, cur, rfl, -⟩ <;> rfl
  obtain ⟨v', W', hr, r1, r2, r3⟩ := appendB_apart (ty := ty) h2 ad c hc0 hc1 rfl ho hj hB
  exact ⟨v', W', hr, LsB.push' h1 h2 h3 r2 r1 hx, r2, r3⟩
/-- Between two levels. -/
def RbS (w2 : World) (n : Nat) (F G : Nat → Nat → Nat) (jv ju : Nat) (v u : Value) (W : World) : Prop :=
  (At W w2.heap.size #[v, u] 32 ∧ LsB W (w2.heap.size + 1) v jv n F ∧ LsB W (w2.heap.size + 1) u ju n G ∧ ∀ g, v.ownBlock = some g → u.ownBlock ≠ some g) ∧ Below w2.heap.size w2 W
section
variable {w2 W W' : World} {n jv ju : Nat} {F G : Nat → Nat → Nat} {v u v' : Value}
theorem RbS.kept (h : RbS w2 n F G jv ju v u W) (hb : Below W.heap.size W W') : RbS w2 n F G jv ju v u W' :=
  ⟨⟨h.1.1.keptAll hb, h.1.2.1.kept hb, h.1.2.2.1.kept hb, h.1.2.2.2⟩, h.2.trans (hb.mono h.2.size)⟩
theorem At.grownT {b : Nat} {cs : Array Value} {t : TypeId} {y : Value} (h : At W b cs t) (hg : W.grownBy W' y.ownBlock) (hy : ∀ g, y.ownBlock = some g → ∃ cur, W.heap[g]? = some (.cells cur 43 (0, 0))) (ht : t ≠ 43) : At W' b cs t := by
  refine (hg.block b h.lt (fun e => ?_)).trans h
  obtain ⟨cur, hc⟩ := hy b e.symm
  have h' : W.heap[b]? = some (.cells cs t) := h
  rw [hc] at h'
  exact ht (by injection h' with h'; injection h' with _ h' _; exact h'.symm)
theorem RbS.pushv (h : RbS w2 n F G jv ju v u W) (hl : LsB W' (w2.heap.size + 1) v' (jv + 1) n F) (hg : W.grownBy W' v.ownBlock) (ha : v'.ownBlock = v.ownBlock ∨ ∃ g, v'.ownBlock = some g ∧ W.heap.size ≤ g) :
    RbS w2 n F G (jv + 1) ju v' u (W'.setCell ⟨w2.heap.size, 0, none⟩ v') := by
  obtain ⟨⟨h1, h2, h3, h4⟩, h5⟩ := h
  have hvb : ∀ g, v.ownBlock = some g → ∃ cur, W.heap[g]? = some (.cells cur 43 (0, 0)) := fun g e => (h2.blk e).2
  have hB : At W' w2.heap.size #[v, u] 32 := h1.grownT hg hvb (by decide)
  refine ⟨⟨?_, hl.set (by show w2.heap.size < w2.heap.size + 1; omega) _, (h3.grown hg hvb (fun g e1 e2 => h4 g e2 e1)).set (by show w2.heap.size < w2.heap.size + 1; omega) _, fun g e1 e2 => ?_⟩, ?_⟩
  · have := hB.set 0 v'
    simpa using this
  · rcases ha with ha | ⟨g', ha, hz⟩
    · exact h4 g (ha ▸ e1) e2
    · rw [ha] at e1
      cases e1
      obtain ⟨-, cur, hc⟩ := h3.blk e2
      have := blk_lt hc
      omega
  · exact (h5.grown hg h5.size (fun g e => by have := (h2.blk e).1; omega)).setCell (p := ⟨w2.heap.size, 0, none⟩) (Nat.le_refl _) _
theorem RbS.pushu (h : RbS w2 n F G jv ju v u W) (hl : LsB W' (w2.heap.size + 1) v' (ju + 1) n G) (hg : W.grownBy W' u.ownBlock) (ha : v'.ownBlock = u.ownBlock ∨ ∃ g, v'.ownBlock = some g ∧ W.heap.size ≤ g) :
    RbS w2 n F G jv (ju + 1) v v' (W'.setCell ⟨w2.heap.size, 1, none⟩ v') := by
  obtain ⟨⟨h1, h2, h3, h4⟩, h5⟩ := h
  have hub : ∀ g, u.ownBlock = some g → ∃ cur, W.heap[g]? = some (.cells cur 43 (0, 0)) := fun g e => (h3.blk e).2
  have hB : At W' w2.heap.size #[v, u] 32 := h1.grownT hg hub (by decide)
  refine ⟨⟨?_, (h2.grown hg hub (fun g e1 e2 => h4 g e1 e2)).set (by show w2.heap.size < w2.heap.size + 1; omega) _, hl.set (by show w2.heap.size < w2.heap.size + 1; omega) _, fun g e1 e2 => ?_⟩, ?_⟩
  · have := hB.set 1 v'
    simpa using this
  · rcases ha with ha | ⟨g', ha, hz⟩
    · exact h4 g e1 (ha ▸ e2)
    · rw [ha] at e2
      cases e2
      obtain ⟨-, cur, hc⟩ := h2.blk e1
      have := blk_lt hc
      omega
  · exact (h5.grown hg h5.size (fun g e => by have := (h3.blk e).1; omega)).setCell (p := ⟨w2.heap.size, 1, none⟩) (Nat.le_refl _) _
end
end Go.Proofs.YtjccgiadmnogeaaDoor
