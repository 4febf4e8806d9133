/-
  A range over an iterator that turns variables of its own between the rounds, number by number.
-/
import Derived.Test.YthakingpeegagaaDoorTellG
import Derived.Test.YthakingpeegagaaDoorFreeKit
namespace Go.Proofs.YthakingpeegagaaDoor
open Go.RowKit Go.Shelf

section
variable {P : Program}
/-- An iterator's contract, where what its caller says speaks of nothing that was laid since it was called: it tells enc 0, enc 1, .. up to N of them. -/
def SeqTellF (n : Nat) (P : Program) (g : Nat) (lb : Array Value) (enc : Nat → Array Value) (Kp : Nat → World → World → Prop) (N : Nat) (w : World) : Prop :=
  ∀ (l : Nat) (J Jx : Nat → World → Prop) (W : World), Below w.heap.size w W → FreeFrom W.heap.size J → FreeFrom W.heap.size Jx →
    (∀ r W1, J r W1 → r < N → YieldAt Fence.wide (n - 1) P l (enc r) W1 fun e W' =>
      (e = .returned (.bool true) ∧ J (r + 1) W' ∧ Kp W.heap.size W1 W') ∨ (e = .returned (.bool false) ∧ Jx (r + 1) W' ∧ Kp W.heap.size W1 W')) →
    J 0 W →
    CallsIn Fence.wide n P g (#[.func (.yield l) #[] #[]] ++ lb) W fun e W' => (∃ v, e = .returned v) ∧ (J N W' ∨ ∃ r, r ≤ N ∧ Jx r W')
theorem range_tellF {n : Nat} {g : Operand} {ps : Array Tmp} {assign body : Code} {Q : Exit → Act → World → Prop} {a : Act} {w : World}
    (hn : 1 ≤ n) {gf : Nat} {lb : Array Value} (hg : a.eval g = .func (.func gf) #[] lb) (eg : ∀ args w, (callFunc gf args).run P w = .ok (.enter gf args) w)
    {enc : Nat → Array Value} {Kp : Nat → World → World → Prop} {N : Nat} {w0 : World} (hseq : SeqTellF (n - 1) P gf lb enc Kp N w0) (hb0 : Below w0.heap.size w0 w) (hps : ∀ x, (enc x).size = ps.size)
    (hKt : ∀ {b : Nat} {A B C : World}, Kp b A B → Kp b B C → Kp b A C) (hKl : ∀ (W : World) (l : Nat) (r r' : Loop), w.heap.size ≤ l → l < w.heap.size + 1 + 1 → W.heap[l]? = some (.loop r) → Kp (w.heap.size + 1 + 1) W (W.putObj l (.loop r')))
    (I : Nat → World → Prop) (Ix : Code → Nat → World → Prop) (hIf : FreeFrom w.heap.size I) (hIxf : ∀ c, FreeFrom w.heap.size (Ix c)) (h0 : I 0 w)
    (Ax : Nat → Act → World → Prop) (hAx : ∀ x a', OwnFrom w.heap.size (fun (_ : Unit) W => Ax x a' W))
    (hassign : ∀ (l : Nat) (r : Nat) (W : World) (K : Act → World → Prop), r < N → I r W → (∀ a' W', KeepsFrom w.heap.size W W' → Kp (w.heap.size + 1 + 1) W W' → I r W' → Ax r a' W' → K a' W') →
      assign.wpIn (Fence.wide.inRound l) (n - 1 - 1) P (Exit.then K (fun _ _ _ => False)) { tmps := (ps.zip (enc r)).foldl (fun t (p, v) => t.setIfInBounds p v) a.tmps, defers := [] } W)
    (hbody : ∀ (l : Nat) (r : Nat) (a' : Act) (W : World), w.heap.size ≤ l → (∃ r, W.heap[l]? = some (.loop r)) → r < N → I r W → Ax r a' W → body.wpIn (Fence.wide.inRound l) (n - 1 - 1) P (tellPostG w.heap.size (Kp (w.heap.size + 1 + 1)) I Ix (r + 1) W) a' W)
    (hdone : ∀ (D : Nat) (W : World), w.heap.size ≤ D → I N W → W.heap[D]? = some (.deferred (some [])) → Q .normal { a with defers := { target := .collected D, args := #[] } :: a.defers } W)
    (hstop : ∀ (D : Nat) (c : Code) (r : Nat) (W : World), w.heap.size ≤ D → r ≤ N → Ix c r W → W.heap[D]? = some (.deferred (some [])) → c.wpIn Fence.wide n P Q { a with defers := { target := .collected D, args := #[] } :: a.defers } W) :
    (Code.rangeFunc g ps assign body).wpIn Fence.wide n P Q a w := by
  have hI := hIf.own
  have hIx := fun c => (hIxf c).own
  refine wpIn_rangeFunc fun fn hfn => ?_
  obtain ⟨L, hL⟩ : ∃ L : LoopState → Option Code → Loop, L = fun st pe => { state := st, pending := pe, fn, tmps := a.tmps, params := ps, assign, body, defers := w.heap.size } := ⟨_, rfl⟩
  have book1 := Book.new w (L .ready none)
  have inv1 : I 0 ((w.alloc (.deferred (some []))).alloc (.loop (L .ready none))) := hI.alloc _ (hI.alloc _ h0)
  have below1 : Below w0.heap.size w0 ((w.alloc (.deferred (some []))).alloc (.loop (L .ready none))) :=
    hb0.trans ((((Below.refl _ w).alloc (Nat.le_refl _) _).alloc (by simp) _).mono hb0.size)
  have size1 : ((w.alloc (.deferred (some []))).alloc (.loop (L .ready none))).heap.size = w.heap.size + 1 + 1 := by simp
  have enter1 : (Instr.enterLoop fn a.tmps ps assign body Fence.wide.round).run P w = .ok (w.heap.size + 1, [{ target := .collected w.heap.size, args := #[] }]) ((w.alloc (.deferred (some []))).alloc (.loop (L .ready none))) := by
    rw [hL]; exact run_enterLoop_outer _ _ _ _ _
  generalize (w.alloc (.deferred (some []))).alloc (.loop (L .ready none)) = W1 at *
  -- between two rounds, and behind the one that has left
  obtain ⟨J, hJ⟩ : ∃ J : Nat → World → Prop, J = fun r W => I r W ∧ Book w.heap.size (L .ready none) W := ⟨_, rfl⟩
  obtain ⟨Jx, hJx⟩ : ∃ Jx : Nat → World → Prop, Jx = fun r W => ∃ c, Ix c r W ∧ Book w.heap.size (L .done (some c)) W := ⟨_, rfl⟩
  have abJ : FreeFrom W1.heap.size J := fun s X Y row hs hg' hr => by
    rw [hJ] at hs ⊢
    exact ⟨hIf s X Y row hs.1 hg' (fun r e => by have := hr r e; omega), hs.2.grown hg' (fun r e => by have := hr r e; omega)⟩
  have abJx : FreeFrom W1.heap.size Jx := fun s X Y row hs hg' hr => by
    rw [hJx] at hs ⊢
    obtain ⟨c, h1, h2⟩ := hs
    exact ⟨c, hIxf c s X Y row h1 hg' (fun r e => by have := hr r e; omega), h2.grown hg' (fun r e => by have := hr r e; omega)⟩
  have round : ∀ r W, J r W → r < N → YieldAt Fence.wide (n - 1 - 1) P (w.heap.size + 1) (enc r) W fun e W' =>
      (e = .returned (.bool true) ∧ J (r + 1) W' ∧ Kp (w.heap.size + 1 + 1) W W') ∨ (e = .returned (.bool false) ∧ Jx (r + 1) W' ∧ Kp (w.heap.size + 1 + 1) W W') := by
    intro r W hs hlt
    rw [hJ] at hs
    obtain ⟨inv, book⟩ := hs
    have hy := run_yield (P := P) (args := enc r) book.1 (by rw [hL]; exact hps r)
    rw [hL] at hy
    refine ⟨fn, _, assign, body, hy, roundIn_of_wpIn hfn (hassign _ r W _ hlt inv ?_)⟩
    clear hy
    intro a' Wa hka hkpa inva hax
    have booka := book.keeps hka
    refine ⟨_, run_beginRound booka.1 (by rw [hL]), ?_⟩
    have busy := booka.turn { L .ready none with state := .busy }
    have invB := hI.putObj (.loop { L .ready none with state := .busy }) inva (by omega) booka.1 rfl
    have axB := (hAx r a').putObj (s := ()) (.loop { L .ready none with state := .busy }) hax (by omega) booka.1 rfl
    have kpB := hKt hkpa (hKl Wa (w.heap.size + 1) _ { L .ready none with state := .busy } (by omega) (by omega) booka.1)
    generalize Wa.putObj (w.heap.size + 1) (.loop { L .ready none with state := .busy }) = WB at *
    refine wpIn_mono (hbody _ r a' WB (by omega) ⟨_, busy.1⟩ hlt invB axB) ?_
    have last : ∀ (jump : Option Code) (W3 : World), KeepsFrom w.heap.size WB W3 → (Instr.endRound (w.heap.size + 1) jump).run P W3 = .ok (.bool jump.isNone) (W3.putObj (w.heap.size + 1) (.loop (L (if jump.isNone then .ready else .done) jump))) ∧ Book w.heap.size { L .ready none with state := .busy } W3 := fun jump W3 hk => by
      have b3 := busy.keeps hk
      have e := run_endRound (P := P) jump b3.1
      refine ⟨?_, b3⟩
      rw [hL] at e ⊢
      exact e
    have leave : ∀ (c : Code) (W3 : World), KeepsFrom w.heap.size WB W3 ∧ Kp (w.heap.size + 1 + 1) WB W3 ∧ Ix c (r + 1) W3 → ∃ v W4, (Instr.endRound (w.heap.size + 1) (some c)).run P W3 = .ok v W4 ∧
        ((Ending.returned v = .returned (.bool true) ∧ J (r + 1) W4 ∧ Kp (w.heap.size + 1 + 1) W W4) ∨ (Ending.returned v = .returned (.bool false) ∧ Jx (r + 1) W4 ∧ Kp (w.heap.size + 1 + 1) W W4)) := fun c W3 ⟨hk, hkp, hx⟩ => by
      obtain ⟨e, b3⟩ := last (some c) W3 hk
      exact ⟨_, _, e, .inr ⟨rfl, by rw [hJx]; exact ⟨c, (hIx c).putObj _ hx (by omega) b3.1 rfl, b3.turn _⟩, hKt kpB (hKt hkp (hKl W3 _ _ _ (by omega) (by omega) b3.1))⟩⟩
    intro e a3 W3 hp
    cases e with
    | normal =>
      obtain ⟨hk, hkp, hi3⟩ := hp
      obtain ⟨e, b3⟩ := last none W3 hk
      exact ⟨_, _, e, .inl ⟨rfl, by rw [hJ]; exact ⟨hI.putObj _ hi3 (by omega) b3.1 rfl, b3.turn _⟩, hKt kpB (hKt hkp (hKl W3 _ _ _ (by omega) (by omega) b3.1))⟩⟩
    | ret => exact leave _ W3 hp
    | exit id => exact leave _ W3 hp
    | goto t => exact leave _ W3 hp
    | panic ch => exact hp.elim
    | outgrown => exact hp.elim
  refine ⟨w.heap.size + 1, [{ target := .collected w.heap.size, args := #[] }], W1, { target := .fn (.func gf) lb, args := #[.func (.yield (w.heap.size + 1)) #[] #[]] }, W1, gf,
    #[.func (.yield (w.heap.size + 1)) #[] #[]] ++ lb, W1, enter1, ?_, ?_, ?_, fun _ => hn, ?_⟩
  · simp only [resolve, hg]
    simp [go_sem]
  · intro f' _; trivial
  · simp [invoke, go_sem, eg]
  · refine (hseq (w.heap.size + 1) J Jx W1 below1 abJ abJx (by rw [size1]; exact round) (by rw [hJ]; exact ⟨inv1, book1⟩)).mono ?_
    rintro e W2 ⟨⟨v, rfl⟩, h | h⟩
    · rw [hJ] at h
      obtain ⟨hi2, b2⟩ := h
      have e := run_endLoop (P := P) b2.1 (by rw [hL]; simp)
      exact ⟨none, _, by rw [hL] at e; exact e, hdone _ _ (Nat.le_refl _) (hI.putObj _ hi2 (by omega) b2.1 rfl) ((World.putObj_heap_other (by omega)).trans b2.2)⟩
    · obtain ⟨r, hr, hs⟩ := h
      rw [hJx] at hs
      obtain ⟨c, hx2, b2⟩ := hs
      have e := run_endLoop (P := P) b2.1 (by rw [hL]; simp)
      exact ⟨some c, _, by rw [hL] at e; exact e, hstop _ c r _ (Nat.le_refl _) hr ((hIx c).putObj _ hx2 (by omega) b2.1 rfl) ((World.putObj_heap_other (by omega)).trans b2.2)⟩
end
/-- What an iterator with a row of its own asks of a round. -/
abbrev HeldT (n0 b g : Nat) : World → World → Prop := HeldS (fun _ _ => True) n0 b g
theorem heldT_put {n0 b g l : Nat} {W : World} {r r' : Loop} (hn : n0 ≤ l) (hl : l < b) (hg : g ≠ l) (h : W.heap[l]? = some (.loop r)) : HeldT n0 b g W (W.putObj l (.loop r')) := by
  have oth : ∀ k, k ≠ l → (W.putObj l (.loop r')).heap[k]? = W.heap[k]? := fun k hk => World.putObj_heap_other hk
  have hgr := grownBy_putObj' W l (.loop r')
  exact ⟨(Below.refl n0 W).grown hgr (by have := (Array.getElem?_eq_some_iff.1 h).1; omega) (fun b e => by cases e; exact hn), hgr.size, fun k o hk hc ho => (oth k (by omega)).trans ho, fun c cs t hc _ ha => ⟨(oth c (by rcases hc with h | h <;> omega)).trans ha, trivial⟩⟩
theorem HeldT.refl (n0 b g : Nat) (W : World) : HeldT n0 b g W W := ⟨Below.refl _ _, Nat.le_refl _, fun _ _ _ _ h => h, fun _ _ _ _ _ ha => ⟨ha, trivial⟩⟩
theorem HeldT.of_below {n0 b g : Nat} {W W' : World} (h : Below W.heap.size W W') (hn : n0 ≤ W.heap.size) : HeldT n0 b g W W' := ⟨h.mono hn, h.size, fun k _ _ _ ho => (h.block k (Array.getElem?_eq_some_iff.1 ho).1).trans ho, fun _ _ _ _ _ ha => ⟨ha.keptAll h, trivial⟩⟩
theorem heldT_set {n0 b g q i : Nat} {W : World} (x : Value) (hn : n0 ≤ q) (hq : q < b) (hg : g ≠ q) : HeldT n0 b g W (W.setCell ⟨q, i, none⟩ x) :=
  ⟨(Below.refl n0 W).setCell (p := ⟨q, i, none⟩) hn _, (KeepsOthers.setCell W ⟨q, i, none⟩ x).1, fun k o hk hc ho => (Below.heap_setCell W ⟨q, i, none⟩ x k (by show k ≠ q; omega)).trans ho, fun c cs t hc _ ha => ⟨ha.other (p := ⟨q, i, none⟩) (by show c ≠ q; rcases hc with h | h <;> omega) x, trivial⟩⟩
theorem marks_set {B U q i : Nat} {ds : List Deferred} {W : World} {cs : Array Value} {t : TypeId} (h : Marks B U ds W) (hq : At W q cs t) (x : Value) : Marks B U ds (W.setCell ⟨q, i, none⟩ x) :=
  h.of (fun D _ _ h3 => Below.heap_setCell W ⟨q, i, none⟩ x D (fun e => by
    have e' : D = q := e
    subst e'
    have hq' : W.heap[D]? = some (.cells cs t) := hq
    rw [h3] at hq'
    cases hq'))
end Go.Proofs.YthakingpeegagaaDoor
