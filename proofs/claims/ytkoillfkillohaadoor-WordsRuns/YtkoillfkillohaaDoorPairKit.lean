/-
  Two lists of numbers that one call makes side by side: an append to the one leaves the other alone.
-/
import Derived.Test.YtkoillfkillohaaDoorListKit
import Derived.ArgAppend
namespace Go.Proofs.YtkoillfkillohaaDoor
open Go.RowKit Go.Shelf

theorem append_apart {w : World} {base n : Nat} {ty : TypeId} {v x : Value} {xs : List Value} (hown : w.ownsRow base 3 1 v n xs) (ad : Addr) (c : Nat) (hcell : w.cell? (ad.add 0) = some x) (h1 : x.oneCell' = true) (hn : n < 1000) (hbase : base ≤ w.heap.size) :
    ∃ v' w', (Builtin.append_ #[28, 28] ty #[v, .slice (some ad) 1 c]).run Tryd.prog w = .ok v' w' ∧ w'.ownsRow base 3 1 v' (n + 1) (xs ++ [x]) ∧ w.grownBy w' v.ownBlock ∧ (v'.ownBlock = v.ownBlock ∨ ∃ g, v'.ownBlock = some g ∧ w.heap.size ≤ g) := by
  obtain ⟨i0, hi, hz0, hz1, hz2⟩ := info_parts infoInt
  have hl : [x].length = 1 * 1 := rfl
  have hnews : ∀ j u, [x][j]? = some u → w.cell? (ad.add j) = some u := by
    intro j u hj
    match j, hj with
    | 0, hj => simp at hj; subst hj; exact hcell
  have ho : ∀ u ∈ [x], u.oneCell' = true := by intro u hu; simp at hu; subst hu; exact h1
  have hm : n + 1 ≤ maxLen := by unfold maxLen; omega
  have hby : (n + 1) * 8 ≤ 140737488355328 := by omega
  obtain ⟨v', w', hr, r1, r2, -⟩ := run_append_own (P := Tryd.prog) w base 28 ty 3 i0 (.int .i64 0) 1 8 Tryd.underlying28 hi hz0 hz1 hz2 rfl (by decide) v n xs hown ad 1 c [x] hl hnews ho hm hby hbase
  refine ⟨v', w', hr, r1, r2, ?_⟩
  have new : ∀ {v'' : Value} {w'' : World} {ys : List Value}, w''.ownsRow w.heap.size 3 1 v'' (n + 1) ys → v' = v'' → ∃ g, v'.ownBlock = some g ∧ w.heap.size ≤ g := by
    rintro v'' w'' ys ⟨-, ⟨-, h⟩ | ⟨g, cap, cur, rfl, hg, -⟩⟩ rfl
    · omega
    · exact ⟨g, rfl, hg⟩
  rcases hown.2 with ⟨rfl, rfl⟩ | ⟨g, cap, cur, rfl, hb, hg, hnc, hcm, hcs, htk⟩
  · obtain ⟨v'', w'', hr2, s1, -, -⟩ := run_append_own (P := Tryd.prog) w w.heap.size 28 ty 3 i0 (.int .i64 0) 1 8 Tryd.underlying28 hi hz0 hz1 hz2 rfl (by decide) (.slice none 0 0) 0 [] (World.ownsRow_nil w _ _ _) ad 1 c [x] hl hnews ho hm hby (Nat.le_refl _)
    rw [hr] at hr2
    obtain ⟨rfl, rfl⟩ : v' = v'' ∧ w' = w'' := by simpa using hr2
    exact .inr (new s1 rfl)
  · have hcells := hown.cells (g := g) rfl
    by_cases hgr : cap < n + 1
    · obtain ⟨v'', w'', hr2, s1, -⟩ := run_append_arg_grows (P := Tryd.prog) w 28 ty 3 i0 (.int .i64 0) 1 8 Tryd.underlying28 hi hz0 hz1 hz2 rfl (by decide) ⟨g, 0, none⟩ n cap xs hown.1 hcells ad 1 c [x] hl hnews hgr hm hby
      rw [hr] at hr2
      obtain ⟨rfl, rfl⟩ : v' = v'' ∧ w' = w'' := by simpa using hr2
      exact .inr (new s1 rfl)
    · have hat : At w g cur 3 := hg
      have hr2 := run_append_room_cells (P := Tryd.prog) w 28 ty 3 i0 Tryd.underlying28 hi g 0 n cap ad 1 c [x] (by rw [hz1]; exact hl) hnews ho (by omega) (fun j hj => by
          have e := hat.cell (0 + n * i0.size + j)
          rw [e, Array.getElem?_eq_getElem (by rw [hz1]; simp at hj; omega)]; rfl) (fun j hj => hat.frozen _)
      rw [hr] at hr2
      obtain ⟨rfl, -⟩ : v' = _ ∧ w' = _ := by simpa using hr2
      exact .inl rfl

theorem wpList_append_int {ops : Array Oper} {rest : List Oper} {o : Oper} {a : Act} {w : World} {Q : Exit → Act → World → Prop} (hgd : o.guard = none) (s y : Operand)
    (ho : o.op = .call { callee := .builtin .append, args := #[s, y], argTypes := #[28, 28] }) (base : Nat) (v x : Value) (n : Nat) (xs : List Value) (hs : a.eval s = v) (hown : w.ownsRow base 3 1 v n xs)
    (ad : Addr) (c : Nat) (hy : a.eval y = .slice (some ad) 1 c) (hcell : w.cell? (ad.add 0) = some x) (h1 : x.oneCell' = true) (hn : n < 1000) (hbase : base ≤ w.heap.size)
    (h : ∀ v' w', w'.ownsRow base 3 1 v' (n + 1) (xs ++ [x]) → w.grownBy w' v.ownBlock → (v'.ownBlock = v.ownBlock ∨ ∃ g, v'.ownBlock = some g ∧ w.heap.size ≤ g) → wpList Tryd.prog ops Q rest (a.put o.dst v') w') : wpList Tryd.prog ops Q (o :: rest) a w := by
  refine wpList_plain hgd fun K hK => ?_
  obtain ⟨v', w', hr, r1, r2, r3⟩ := append_apart (ty := o.type) hown ad c hcell h1 hn hbase
  unfold Oper.wp execOp
  simp only [ho, resolve, invoke, builtin, Sem.run_bind, Sem.run_pure, Result.andThen_ok, List.map_toArray, List.map_cons, List.map_nil, hs, hy, hr]
  exact hK _ _ (h v' w' r1 r2 r3)

/-- Two values whose rows, where they have ones, are two. -/
def Apart (v v' : Value) : Prop := ∀ g, v.ownBlock = some g → v'.ownBlock ≠ some g
theorem Apart.symm {v v' : Value} (h : Apart v v') : Apart v' v := fun g h1 h2 => h g h2 h1
theorem Apart.kept {w w' : World} {B n : Nat} {v u : Value} {xs : List Value} (h : Apart v u) (hu : w.ownsRow B 3 1 u n xs) (hg : w.grownBy w' v.ownBlock) : w'.ownsRow B 3 1 u n xs := by
  refine hu.kept hg ?_
  cases hb : u.ownBlock with
  | none => exact .inl rfl
  | some g => exact .inr (fun e => h g e.symm hb)
theorem Apart.next {w : World} {B n : Nat} {v v' u : Value} {xs : List Value} (h : Apart v u) (hu : w.ownsRow B 3 1 u n xs) (h' : v'.ownBlock = v.ownBlock ∨ ∃ g, v'.ownBlock = some g ∧ w.heap.size ≤ g) : Apart v' u := by
  intro g hg hug
  rcases h' with e | ⟨g', e, hle⟩
  · exact h g (by rw [← e]; exact hg) hug
  · rw [hg] at e
    obtain rfl := Option.some.inj e
    have := (hu.lt g hug).2
    omega

/-- One number of a row turned. -/
theorem row_set {w : World} {B n g cap j : Nat} {xs : List Value} (h : w.ownsRow B 3 1 (.slice (some ⟨g, 0, none⟩) n cap) n xs) (u : Value) : (w.setCell ⟨g, j, none⟩ u).ownsRow B 3 1 (.slice (some ⟨g, 0, none⟩) n cap) n (xs.set j u) := by
  obtain ⟨h1, ⟨h2, -⟩ | ⟨g', cap', cur, h2, hb, hg, hnc, hcm, hcs, htk⟩⟩ := h
  · cases h2
  · obtain ⟨rfl, rfl⟩ : g = g' ∧ cap = cap' := by simpa using h2
    have hat : At w g cur 3 := hg
    refine ⟨by simpa using h1, .inr ⟨g, cap, cur.setIfInBounds j u, rfl, hb, hat.set j u, hnc, hcm, by simpa using hcs, ?_⟩⟩
    rw [← htk]
    simp [List.take_set]
end Go.Proofs.YtkoillfkillohaaDoor
