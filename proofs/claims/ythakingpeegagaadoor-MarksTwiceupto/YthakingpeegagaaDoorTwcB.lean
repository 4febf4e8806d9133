/-
  A variable that gathers texts while rounds go on.
-/
import Derived.Test.YthakingpeegagaaDoorTwcA
import Derived.Test.YthakingpeegagaaDoorRoundQuiet
import Derived.Test.YthakingpeegagaaDoorPack1
import Derived.Test.YthakingpeegagaaDoorQSpans
import Derived.Test.YthakingpeegagaaDoorAwake8
import Derived.Laws.BytesArg
import Derived.Laws.IdiomStrings
namespace Go.Proofs.YthakingpeegagaaDoor
open Go.RowKit Go.Shelf

/-- Variable m gathers these texts; their row lies from B on. -/
def GathT (W : World) (m B : Nat) (L : List ByteArray) : Prop := ∃ v, At W m #[v] 44 ∧ W.ownsRow B 9 1 v L.length (strs8 L)
section
variable {W W' : World} {m B : Nat} {K : Nat} {L : List ByteArray}
theorem row_blockT {v : Value} {xs : List Value} (h : W.ownsRow B 9 1 v K xs) : v.ownBlock = none ∨ ∃ g cur, v.ownBlock = some g ∧ B ≤ g ∧ W.heap[g]? = some (.cells cur 9 (0, 0)) := by
  rcases h.2 with ⟨rfl, _⟩ | ⟨g, cap, cur, rfl, hb, hgb, _⟩
  · exact .inl rfl
  · exact .inr ⟨g, cur, rfl, hb, hgb⟩
theorem row_neT {v : Value} {xs : List Value} (h : W.ownsRow B 9 1 v K xs) {b : Nat} {cs : Array Value} {t : TypeId} (ha : At W b cs t) (hd : t ≠ 9 ∨ b < B) : some b ≠ v.ownBlock := by
  rcases row_blockT h with e | ⟨g, cur, e, hb, hg⟩
  · rw [e]; simp
  · rw [e]
    rintro h'
    obtain rfl : b = g := by simpa using h'
    rcases hd with hd | hd
    · have hh : W.heap[b]? = some (.cells cs t) := ha
      rw [hh] at hg
      cases hg
      exact hd rfl
    · omega
theorem row_keptT {v : Value} {xs : List Value} (h : W.ownsRow B 9 1 v K xs) {row : Option Nat} (hg : W.grownBy W' row) (hne : v.ownBlock = none ∨ row ≠ v.ownBlock) : W'.ownsRow B 9 1 v K xs := by
  refine ⟨h.1, ?_⟩
  rcases h.2 with h2 | ⟨g, cap, cur, rfl, hb, hgb, h3⟩
  · exact .inl h2
  · refine .inr ⟨g, cap, cur, rfl, hb, (hg.block g (Array.getElem?_eq_some_iff.1 hgb).1 ?_).trans hgb, h3⟩
    rcases hne with hne | hne
    · cases hne
    · exact fun e => hne e.symm
theorem GathT.kept (h : GathT W m B L) (hb : Below W.heap.size W W') : GathT W' m B L := by
  obtain ⟨v, h1, h2⟩ := h
  refine ⟨v, h1.keptAll hb, ?_⟩
  rcases row_blockT h2 with e | ⟨g, cur, e, _⟩
  · exact row_keptT h2 (grown_of_below hb) (.inl e)
  · exact row_keptT h2 (grown_of_below hb) (.inr (by rw [e]; simp))
theorem GathT.own (h : GathT W m B L) {row : Option Nat} (hg : W.grownBy W' row) (hr : ∀ r, row = some r → ∃ o : Obj, W.heap[r]? = some o ∧ o.isCells = false) : GathT W' m B L := by
  obtain ⟨v, h1, h2⟩ := h
  refine ⟨v, h1.own hg hr, ?_⟩
  rcases row_blockT h2 with e | ⟨g, cur, e, _, hgb⟩
  · exact row_keptT h2 hg (.inl e)
  · refine row_keptT h2 hg (.inr fun e' => ?_)
    obtain ⟨o, ho, hc⟩ := hr g (by rw [e', e])
    rw [hgb] at ho
    cases ho
    cases hc
theorem GathT.nil (h : At W m #[.slice none 0 0] 44) : GathT W m B [] := ⟨_, h, by refine ⟨rfl, .inl ⟨rfl, rfl⟩⟩⟩
/-- Behind all = append(all, x). -/
theorem gathT_append {v v' x : Value} {xs ys : List Value} {w2 : World} (hv : At W m #[v] 44) (hrow : W.ownsRow B 9 1 v K xs) (hB : B ≤ W.heap.size) (hm : m < B)
    (hown' : w2.ownsRow B 9 1 v' (K + 1) ys) (hg : (W.alloc (.cells #[x] 9)).grownBy w2 v.ownBlock) :
    At w2 m #[v] 44 ∧ At (w2.setCell ⟨m, 0, none⟩ v') m #[v'] 44 ∧ (w2.setCell ⟨m, 0, none⟩ v').ownsRow B 9 1 v' (K + 1) ys ∧ KeepsOthers W (w2.setCell ⟨m, 0, none⟩ v') ∧
      Below m W (w2.setCell ⟨m, 0, none⟩ v') ∧ ∀ b cs t, At W b cs t → b ≠ m → (t ≠ 9 ∨ b < B) → At w2 b cs t ∧ At (w2.setCell ⟨m, 0, none⟩ v') b cs t := by
  have hmono : ∀ {Wq : World} {vq : Value} {k : Nat} {zs : List Value}, Wq.ownsRow B 9 1 vq k zs → Wq.ownsRow m 9 1 vq k zs := by
    rintro Wq vq k zs ⟨h1, h2 | ⟨g, cap, cur, h3, h4, h5⟩⟩
    · exact ⟨h1, .inl h2⟩
    · exact ⟨h1, .inr ⟨g, cap, cur, h3, by omega, h5⟩⟩
  have hne : (44 : TypeId) ≠ 9 := by decide
  obtain ⟨a1, a2, _, a4, a5⟩ := Boxed.appended (B := m) (n₀ := m) (t := 44) (tmp := .cells #[x] 9) hv hne (hmono hrow) (by omega) (Nat.le_refl _) (hmono hown') hg
  refine ⟨a1, a2, ?_, a4, a5, fun b cs t hb hbm hd => ?_⟩
  · refine row_keptT hown' (grownBy_setCell' w2 m v') (.inr ?_)
    exact row_neT hown' (b := m) (cs := #[v]) a1 (.inl hne)
  · have h1 : At w2 b cs t := (hg.block b (hb.alloc (.cells #[x] 9)).lt (row_neT hrow hb hd)).trans (hb.alloc _)
    exact ⟨h1, h1.other (p := ⟨m, 0, none⟩) hbm v'⟩
end
theorem info16 : (Tryd.prog.info? 9).map (fun i => (i.zero, i.size, i.bytes)) = some (some (.string ⟨#[]⟩), 1, 16) := by kernel_rfl
/-- all = append(all, x): the append, behind the block that bears x. -/
theorem wp_gatherT {o : Oper} {a : Act} {K : Act → World → Prop} {Q : Exit → Act → World → Prop} {W : World} {y z : Operand} {B k : Nat} {L : List ByteArray} {p : ByteArray} {v : Value}
    (ho : o.op = .call { callee := .builtin .append, args := #[y, z], argTypes := #[44, 44] }) (hy : a.eval y = v) (hz : a.eval z = .slice (some ⟨W.heap.size, 0, none⟩) 1 1)
    (hrow : W.ownsRow B 9 1 v k (strs8 L)) (hk : k < 8000000000) (hB : B ≤ W.heap.size)
    (h : ∀ g' cap w', w'.ownsRow B 9 1 (.slice (some ⟨g', 0, none⟩) (k + 1) cap) (k + 1) (strs8 (L ++ [p])) → (W.alloc (.cells #[.string p] 9)).grownBy w' v.ownBlock → K (a.put o.dst (.slice (some ⟨g', 0, none⟩) (k + 1 : Nat) cap)) w') :
    o.wp Tryd.prog a (W.alloc (.cells #[.string p] 9)) K Q := by
  obtain ⟨i, hi, hz0, hz1, hz2⟩ := info_parts info16
  refine wp_append_own (P := Tryd.prog) _ y z 44 ho B 9 i (.string ⟨#[]⟩) 1 16 Tryd.underlying44 hi hz0 hz1 hz2 rfl (by decide) v k (strs8 L) hy ?_ ⟨W.heap.size, 0, none⟩ 1 1 [.string p] hz rfl (cell_one_new _ _ _) (by simp [Value.oneCell']) (by unfold maxLen; omega) (by omega) (by simp; omega) ?_
  · refine row_keptT hrow (World.grownBy_alloc W _ none) ?_
    rcases row_blockT hrow with e | ⟨g, cur, e, _⟩
    · exact .inl e
    · exact .inr (by rw [e]; simp)
  · intro v' w' h1 h2 _
    rw [← strs8_snoc] at h1
    obtain ⟨g', cap, rfl⟩ := ownsRow_succ h1
    exact h g' cap w' h1 h2
end Go.Proofs.YthakingpeegagaaDoor
