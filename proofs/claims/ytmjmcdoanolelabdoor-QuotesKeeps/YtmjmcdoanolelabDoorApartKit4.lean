/-
  The list of the lists that rows were appended to: what reads it, makes it longer, lays over it.
-/
import Derived.Test.YtmjmcdoanolelabDoorApartKit3
namespace Go.Proofs.YtmjmcdoanolelabDoor
open Go.RowKit

theorem zip_snoc {rs : List RowX} {ys : List GrX} {x : RowX} (h : rs[ys.length]? = some x) (y : GrX) : List.zipWith slG rs (ys ++ [y]) = List.zipWith slG rs ys ++ [slG x y] := by
  induction ys generalizing rs with
  | nil =>
    cases rs with
    | nil => simp at h
    | cons a rs => simp at h; subst h; simp
  | cons b ys ih =>
    cases rs with
    | nil => simp at h
    | cons a rs => simp at h; simp [ih h]
theorem zip_get {rs : List RowX} {ys : List GrX} {k : Nat} {x : RowX} {y : GrX} (hx : rs[k]? = some x) (hy : ys[k]? = some y) : (List.zipWith slG rs ys)[k]? = some (slG x y) := by
  rw [List.getElem?_zipWith, hx, hy]
theorem zip_set {rs : List RowX} {ys : List GrX} {k : Nat} {x : RowX} (hx : rs[k]? = some x) (y : GrX) : List.zipWith slG rs (ys.set k y) = (List.zipWith slG rs ys).set k (slG x y) := by
  induction ys generalizing rs k with
  | nil => simp
  | cons b ys ih =>
    cases rs with
    | nil => simp at hx
    | cons a rs =>
      cases k with
      | zero => simp at hx; subst hx; simp
      | succ k => simp at hx; simp [ih hx]
section
variable {W W' : World} {base : Nat} {gv : Value} {rs : List RowX} {ys : List GrX} {m : RowX → Nat}
theorem GsI.nil (W : World) (base : Nat) (rs : List RowX) (m : RowX → Nat) : GsI W base (.slice none 0 0) rs [] m := ⟨by simpa using World.ownsRow_nil W _ _ _, by simp, fun k x y _ h => by simp at h⟩
theorem GsI.kept (h : GsI W base gv rs ys m) (hb : Below W.heap.size W W') : GsI W' base gv rs ys m :=
  ⟨row_keptAll h.1 hb, h.2.1, fun k x y hx hy => by obtain ⟨h1, h2, cur, h3, h4⟩ := h.2.2 k x y hx hy; exact ⟨h1, h2, cur, h3.keptAll hb, h4⟩⟩
theorem GsI.weaken (h : GsI W base gv rs ys m) {m' : RowX → Nat} (hm : ∀ x, m' x ≤ m x) : GsI W base gv rs ys m' :=
  ⟨h.1, h.2.1, fun k x y hx hy => by obtain ⟨h1, h2, cur, h3, h4⟩ := h.2.2 k x y hx hy; exact ⟨h1, h2, cur, h3, fun i hi => h4 i (Nat.lt_of_lt_of_le hi (hm x))⟩⟩
theorem GsI.at (h : GsI W base gv rs ys m) {k : Nat} {x : RowX} {y : GrX} (hx : rs[k]? = some x) (hy : ys[k]? = some y) : ∃ gg cap, gv = .slice (some ⟨gg, 0, none⟩) ys.length cap ∧ base ≤ gg ∧ gg < W.heap.size ∧ W.cell? ⟨gg, k, none⟩ = some (slG x y) ∧ W.frozen? ⟨gg, k, none⟩ = false := by
  have hkl : k < ys.length := (List.getElem?_eq_some_iff.1 hy).1
  rcases h.1.2 with ⟨_, h0⟩ | ⟨gg, cap, cur, rfl, hb, hgb, h3⟩
  · omega
  · refine ⟨gg, cap, rfl, hb, (show At W gg cur 23 from hgb).lt, ?_, (show At W gg cur 23 from hgb).frozen k⟩
    have := h.1.cells (g := gg) rfl k (slG x y) (zip_get hx hy)
    rwa [show (⟨gg, 0, none⟩ : Addr).add k = ⟨gg, k, none⟩ by by_cases h : k = 0 <;> simp [Addr.add, h]] at this
theorem GsI.word (h : GsI W base gv rs ys m) {k : Nat} {x : RowX} {y : GrX} (hx : rs[k]? = some x) (hy : ys[k]? = some y) {i : Nat} (hi : i < m x) : W.cell? ⟨y.b, i, none⟩ = some (.int .u64 ((markN k i : Nat) : Int)) := by
  obtain ⟨_, _, cur, h3, h4⟩ := h.2.2 k x y hx hy
  rw [h3.cell i, h4 i hi]
theorem row_new {wb r : Nat} {v : Value} {L : List Value} (h : W.ownsRow wb 33 1 v (r + 64) L) : ∃ g cap cur, v = .slice (some ⟨g, 0, none⟩) (r + 64) cap ∧ wb ≤ g ∧ At W g cur 33 ∧ ∀ (i : Nat) (u : Value), L[i]? = some u → cur[i]? = some u := by
  rcases h.2 with ⟨_, h0⟩ | ⟨g, cap, cur, rfl, hb, hgb, h3, h4, h5, h6⟩
  · omega
  · refine ⟨g, cap, cur, rfl, hb, hgb, fun i u hu => ?_⟩
    rw [← h6] at hu
    rw [List.getElem?_take] at hu
    split at hu
    · rwa [Array.getElem?_toList] at hu
    · cases hu
/-- The list is made longer by one. -/
theorem GsI.push (h : GsI W base gv rs ys m) {x : RowX} (hx : rs[ys.length]? = some x) {wb : Nat} {v : Value} (hv : W.ownsRow wb 33 1 v (x.r + 64) (wdsL (x.r + 64) (markN ys.length))) (hwb : base ≤ wb) (hgv : ∀ r, gv.ownBlock = some r → r < wb) (hm : m x ≤ x.r + 64) {o : Obj} {gv' : Value}
    (hg : (W.alloc o).grownBy W' gv.ownBlock) (hown : W'.ownsRow base 23 1 gv' (ys.length + 1) (List.zipWith slG rs ys ++ [v])) (hnew : gv'.ownBlock = gv.ownBlock ∨ ∃ g, gv'.ownBlock = some g ∧ (W.alloc o).heap.size ≤ g) : ∃ y, v = slG x y ∧ GsI W' base gv' rs (ys ++ [y]) m := by
  obtain ⟨g, cap, cur, rfl, hb, hat, hc⟩ := row_new hv
  refine ⟨⟨g, cap⟩, rfl, ?_, ?_, ?_⟩
  · rw [zip_snoc hx, List.length_append, List.length_singleton]
    exact hown
  · have := (List.getElem?_eq_some_iff.1 hx).1
    rw [List.length_append, List.length_singleton]
    omega
  · intro k x' y' hx' hy'
    have ne : ∀ b cs t, At W b cs t → gv.ownBlock ≠ some b → gv'.ownBlock ≠ some b ∧ At W' b cs t := by
      intro b cs t hat hne
      refine ⟨?_, (hat.alloc o).grow hg hne⟩
      rcases hnew with e | ⟨g', e, hg'⟩
      · rw [e]; exact hne
      · rw [e]
        intro e2
        have := hat.lt
        rw [World.size_alloc] at hg'
        have := Option.some.inj e2
        omega
    by_cases hk : k < ys.length
    · rw [List.getElem?_append_left hk] at hy'
      obtain ⟨h1, h2, cur', h3, h4⟩ := h.2.2 k x' y' hx' hy'
      exact ⟨h1, (ne _ _ _ h3 h2).1, cur', (ne _ _ _ h3 h2).2, h4⟩
    · have hkl : k = ys.length := by
        have := (List.getElem?_eq_some_iff.1 hy').1
        rw [List.length_append, List.length_singleton] at this
        omega
      subst hkl
      rw [List.getElem?_append_right (Nat.le_refl _), Nat.sub_self] at hy'
      simp at hy'
      subst hy'
      rw [hx] at hx'
      cases hx'
      have hne : gv.ownBlock ≠ some g := fun e => by have := hgv g e; omega
      refine ⟨Nat.le_trans hwb hb, (ne _ _ _ hat hne).1, cur, (ne _ _ _ hat hne).2, fun i hi => ?_⟩
      have hi' : i < x.r + 64 := Nat.lt_of_lt_of_le hi hm
      exact hc i _ (by simp [wdsL, hi'])
/-- One of its lists is another one now. -/
theorem GsI.set (h : GsI W base gv rs ys m) {k : Nat} {x : RowX} {y : GrX} (hx : rs[k]? = some x) (hy : ys[k]? = some y) {nb : Nat} {v : Value} {F : Nat → Nat} {news : List Value} (hv : W.ownsRow nb 33 1 v (x.r + 64) (wdsL x.r F ++ news)) (hF : ∀ j, j < x.r → F j = markN k j) (hnb : base ≤ nb) (hgv : ∀ r, gv.ownBlock = some r → r < nb) (hm : m x ≤ x.r) {gg cap : Nat} (hgg : gv = .slice (some ⟨gg, 0, none⟩) ys.length cap) :
    ∃ y', v = slG x y' ∧ GsI (W.setCell ⟨gg, k, none⟩ v) base gv rs (ys.set k y') m := by
  have hkl : k < ys.length := (List.getElem?_eq_some_iff.1 hy).1
  obtain ⟨g, cap', cur, rfl, hb, hat, hc⟩ := row_new hv
  have hglt : gg < nb := hgv gg (by rw [hgg]; rfl)
  refine ⟨⟨g, cap'⟩, rfl, ?_, by rw [List.length_set]; exact h.2.1, ?_⟩
  · rcases h.1.2 with ⟨_, h0⟩ | ⟨gg', capx, curx, e, hb', hgb, h3, h4, h5, h6⟩
    · omega
    · rw [hgg] at e
      cases e
      have hat' : At W gg curx 23 := hgb
      refine ⟨by rw [zip_set hx, List.length_set, List.length_set]; exact h.1.1, .inr ⟨gg, cap, curx.setIfInBounds k (slG x ⟨g, cap'⟩), by rw [hgg, List.length_set], hb', hat'.set k _, by rw [List.length_set]; exact h3, h4, by rw [Array.size_setIfInBounds]; exact h5, ?_⟩⟩
      rw [List.length_set, Array.toList_setIfInBounds, List.take_set, h6, zip_set hx]
  · intro l x' y' hx' hy'
    by_cases hl : l = k
    · subst hl
      rw [hx] at hx'
      cases hx'
      rw [List.getElem?_set_self hkl] at hy'
      cases hy'
      have hne : gv.ownBlock ≠ some g := fun e => by have := hgv g e; omega
      refine ⟨Nat.le_trans hnb hb, hne, cur, hat.other (p := ⟨gg, l, none⟩) (by show g ≠ gg; omega) _, fun i hi => ?_⟩
      have hi' : i < x.r := Nat.lt_of_lt_of_le hi hm
      refine hc i _ ?_
      rw [List.getElem?_append_left (by simp [wdsL]; exact hi')]
      simp [wdsL, hi', hF i hi']
    · rw [List.getElem?_set_ne (by omega)] at hy'
      obtain ⟨h1, h2, cur', h3, h4⟩ := h.2.2 l x' y' hx' hy'
      refine ⟨h1, h2, cur', h3.other (p := ⟨gg, k, none⟩) (fun e => h2 ?_) _, h4⟩
      rw [hgg]
      exact congrArg some e.symm
end
end Go.Proofs.YtmjmcdoanolelabDoor
