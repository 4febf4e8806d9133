/-
  What the ranges of quarrylaw08.MarksTwice keep.
-/
import Derived.Test.YthakingpeegagaaDoorTwcB
namespace Go.Proofs.YthakingpeegagaaDoor
open Go.RowKit Go.Shelf

theorem spn_ok {s : ByteArray} {r : Nat} (h : r < (spansS s).length) : (spn s r).1 ≤ (spn s r).2 ∧ (spn s r).2 ≤ s.size := by
  obtain ⟨f, hf⟩ := spAt_ex s r (by omega)
  have hn := hf.step rfl (hf.more h)
  rw [hn.spn]
  exact ⟨hn.oc, hn.cn⟩
/-- Between two rounds: variable m gathers, variable n has gathered. -/
def TwI (w : World) (s t : ByteArray) (b1 b2 g1 g2 bt m B n B1 : Nat) (nv : Value) (M : List ByteArray) (Ds : List Nat) (L : Nat → List ByteArray) (r : Nat) (W : World) : Prop :=
  SpB w s b1 b2 g1 g2 W ∧ At W bt #[.string t] 9 ∧ GathT W m B (L r) ∧ (At W n #[nv] 44 ∧ W.ownsRow B1 9 1 nv M.length (strs8 M) ∧ ∀ gg, nv.ownBlock = some gg → gg < B) ∧ (∀ d ∈ Ds, W.heap[d]? = some (.deferred (some []))) ∧ B ≤ W.heap.size
section
variable {w W Z : World} {s t : ByteArray} {b1 b2 g1 g2 bt m B n B1 : Nat} {nv : Value} {M : List ByteArray} {Ds : List Nat} {L : Nat → List ByteArray} {r : Nat}
theorem twI_kept (h : TwI w s t b1 b2 g1 g2 bt m B n B1 nv M Ds L r W) (hb : Below W.heap.size W Z) : TwI w s t b1 b2 g1 g2 bt m B n B1 nv M Ds L r Z := by
  obtain ⟨h1, h2, h3, ⟨h4, h5, h6⟩, h7, h8⟩ := h
  exact ⟨h1.kept hb, h2.keptAll hb, h3.kept hb, ⟨h4.keptAll hb, row_keptAll h5 hb, h6⟩, fun d hd => (hb.block d (Array.getElem?_eq_some_iff.1 (h7 d hd)).1).trans (h7 d hd), Nat.le_trans h8 hb.size⟩
theorem twI_own (hB : w.heap.size ≤ B) (hD : ∀ d ∈ Ds, d < B) : OwnFrom B (TwI w s t b1 b2 g1 g2 bt m B n B1 nv M Ds L) := fun r X Z row h hg hr => by
  obtain ⟨h1, h2, h3, ⟨h4, h5, h6⟩, h7, h8⟩ := h
  have hr' := fun r e => (hr r e).2
  refine ⟨h1.own hB hg hr, h2.own hg hr', h3.own hg hr', ⟨h4.own hg hr', row_keptT h5 hg ?_, h6⟩, fun d hd => (hg.block d (Array.getElem?_eq_some_iff.1 (h7 d hd)).1 (fun e => ?_)).trans (h7 d hd), Nat.le_trans h8 hg.size⟩
  · rcases row_blockT h5 with e | ⟨g, cur, e, _, hgb⟩
    · exact .inl e
    · refine .inr fun e' => ?_
      obtain ⟨o, ho, hc⟩ := hr' g (by rw [e', e])
      rw [hgb] at ho
      cases ho
      cases hc
  · have h9 := (hr d e.symm).1
    have h10 := hD d hd
    omega
/-- Behind all = append(all, x). -/
theorem twI_push {v v' : Value} {p : ByteArray} {w2 : World} {bm bs g : Nat} {s' : ByteArray} (h : TwI w s t b1 b2 g1 g2 bt m B n B1 nv M Ds L r W) (hv : At W m #[v] 44) (hrow : W.ownsRow B 9 1 v (L r).length (strs8 (L r))) (hm : m < B) (hmw : w.heap.size + 2 ≤ m) (hbt : bt < B) (hmn : n ≠ m) (hbm : bt ≠ m) (hbs : bs < B) (hLr : L (r + 1) = L r ++ [p]) (hDm : ∀ d ∈ Ds, d ≠ m)
    (hown' : w2.ownsRow B 9 1 v' ((L r).length + 1) (strs8 (L r ++ [p]))) (hg : (W.alloc (.cells #[.string p] 9)).grownBy w2 v.ownBlock) (hbsm : bs ≠ m) :
    KeepsOthers W (w2.setCell ⟨m, 0, none⟩ v') ∧ KeepT s' bm bs g W (w2.setCell ⟨m, 0, none⟩ v') ∧ TwI w s t b1 b2 g1 g2 bt m B n B1 nv M Ds L (r + 1) (w2.setCell ⟨m, 0, none⟩ v') ∧ At w2 m #[v] 44 ∧ ∀ b cs ty, At W b cs ty → b ≠ m → (ty ≠ 9 ∨ b < B) → At w2 b cs ty ∧ At (w2.setCell ⟨m, 0, none⟩ v') b cs ty := by
  obtain ⟨h1, h2, h3, ⟨h4, h5, h6⟩, h7, h8⟩ := h
  obtain ⟨e1, e2, e3, e4, e5, e6⟩ := gathT_append (W := W) (m := m) hv hrow h8 hm hown' hg
  obtain ⟨q1, q2, l1, l2, l3, l4, q7, q8, q9⟩ := h1
  have k1 : b1 ≠ m := fun e => by subst e; exact at_apart q1.1 hv (by decide) rfl
  have k2 : b2 ≠ m := fun e => by subst e; exact at_apart q2.1 hv (by decide) rfl
  have k3 : g1 ≠ m := fun e => by subst e; exact at_apart q1.2 hv (by decide) rfl
  have k4 : g2 ≠ m := fun e => by subst e; exact at_apart q2.2 hv (by decide) rfl
  have hrowu : (w2.setCell ⟨m, 0, none⟩ v').ownsRow B1 9 1 nv M.length (strs8 M) := by
    have a1 := World.ownsRow.alloc h5 (.cells #[.string p] 9)
    have a2 : w2.ownsRow B1 9 1 nv M.length (strs8 M) := a1.kept hg (by
      cases hu : nv.ownBlock with
      | none => exact .inl rfl
      | some gg =>
        refine .inr fun e => ?_
        rcases row_blockT hrow with e' | ⟨g', cur, e', hB', _⟩
        · rw [e'] at e; cases e
        · rw [e'] at e
          have : gg = g' := by simpa using e
          have := h6 gg hu
          omega)
    refine row_keptT a2 (grownBy_setCell' w2 m v') ?_
    rcases row_blockT a2 with e | ⟨gg, cur, e, _, hgb⟩
    · exact .inl e
    · refine .inr fun e' => ?_
      rw [e] at e'
      have : m = gg := by simpa using e'
      subst this
      have e1' : w2.heap[m]? = some (.cells #[v] 44) := e1
      rw [hgb] at e1'
      injection e1' with e1'
      injection e1' with _ e1'
      exact absurd e1' (by decide)
  refine ⟨e4, ⟨e4.1, fun x => ⟨(e6 _ _ _ x.1 hbsm (.inr hbs)).2, (e6 _ _ _ x.2.1 (fun e => by subst e; exact at_apart x.2.1 hv (by decide) rfl) (.inl (by decide))).2, (e6 _ _ _ x.2.2 (fun e => by subst e; exact at_apart x.2.2 hv (by decide) rfl) (.inl (by decide))).2⟩, fun _ x => x.below e5 (by omega)⟩, ⟨⟨⟨(e6 _ _ _ q1.1 k1 (.inl (by decide))).2, (e6 _ _ _ q1.2 k3 (.inl (by decide))).2⟩, ⟨(e6 _ _ _ q2.1 k2 (.inl (by decide))).2, (e6 _ _ _ q2.2 k4 (.inl (by decide))).2⟩, l1, l2, l3, l4, (e6 _ _ _ q7 (by omega) (.inr (by omega))).2, (e6 _ _ _ q8 (by omega) (.inl (by decide))).2, q9.trans (e5.mono (by omega))⟩, (e6 _ _ _ h2 hbm (.inr hbt)).2, ⟨v', e2, by rw [hLr, List.length_append]; exact e3⟩, ⟨(e6 _ _ _ h4 hmn (.inl (by decide))).2, hrowu, h6⟩, fun d hd => ?_, Nat.le_trans h8 e4.1⟩, e1, e6⟩
  have h9 := h7 d hd
  have h10 : (W.alloc (.cells #[.string p] 9)).heap[d]? = some (.deferred (some [])) := (((Below.refl _ W).alloc (Nat.le_refl _) _).block d (Array.getElem?_eq_some_iff.1 h9).1).trans h9
  have h11 : w2.heap[d]? = some (.deferred (some [])) := (hg.block d (Array.getElem?_eq_some_iff.1 h10).1 (fun e => by
    rcases row_blockT hrow with e' | ⟨g', cur, e', _, hgb⟩
    · rw [e'] at e; cases e
    · rw [e'] at e
      have : d = g' := by simpa using e
      subst this
      rw [h9] at hgb
      cases hgb)).trans h10
  exact (Below.heap_setCell w2 ⟨m, 0, none⟩ v' d (hDm d hd)).trans h11
end
/-- The frame in which a round's body begins. -/
def TwA (m : Nat) (s : ByteArray) (fr : Nat → Nat → Nat → Act) (x : Nat) (a' : Act) (W : World) : Prop :=
  ∃ gx A C : Nat, Hid (spn s x = (A, C)) ∧ m < gx ∧ At W gx #[.int .i64 (A : Int), .int .i64 (C : Int)] 34 ∧ a' = fr gx A C
theorem twA_own {m : Nat} {s : ByteArray} {fr : Nat → Nat → Nat → Act} {B : Nat} (x : Nat) (a' : Act) : OwnFrom B (fun (_ : Unit) W => TwA m s fr x a' W) := fun _ X Y row hs hg hr => by
  obtain ⟨gx, A, C, h1, h4, h5, h6⟩ := hs
  exact ⟨gx, A, C, h1, h4, h5.own hg (fun r e => (hr r e).2), h6⟩
end Go.Proofs.YthakingpeegagaaDoor
