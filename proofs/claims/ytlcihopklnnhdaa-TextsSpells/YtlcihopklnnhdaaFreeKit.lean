/-
  A range over an iterator that turns variables of its own between the rounds: what its caller says speaks of no block that was laid since the iterator was called.
-/
import Derived.Test.YtlcihopklnnhdaaKitA
namespace Go.Proofs.Ytlcihopklnnhdaa
open Go.RowKit Go.Shelf

/-- What is said of a world speaks of no block from B on. -/
def FreeFrom {β : Type} (B : Nat) (I : β → World → Prop) : Prop := ∀ s W W' row, I s W → W.grownBy W' row → (∀ r, row = some r → B ≤ r) → I s W'
theorem FreeFrom.own {β : Type} {B : Nat} {I : β → World → Prop} (h : FreeFrom B I) : OwnFrom B I := fun s W W' row hs hg hr => h s W W' row hs hg (fun r e => (hr r e).1)
theorem At.free {w w' : World} {b B : Nat} {cs : Array Value} {t : TypeId} (h : At w b cs t) (hb : b < B) {row : Option Nat} (hg : w.grownBy w' row) (hr : ∀ r, row = some r → B ≤ r) : At w' b cs t :=
  (hg.block b h.lt (fun e => by have := hr b e.symm; omega)).trans h
theorem below_free {n B : Nat} {w W W' : World} {row : Option Nat} (h : Below n w W) (hn : n ≤ B) (hB : n ≤ W.heap.size) (hg : W.grownBy W' row) (hr : ∀ r, row = some r → B ≤ r) : Below n w W' := h.grown hg hB (fun k e => by have := hr k e; omega)

section
variable {P : Program}
/-- An iterator's contract, where what its caller says speaks of nothing that was laid since it was called. -/
def SeqFree {α : Type} (n : Nat) (P : Program) (g : Nat) (lb : Array Value) (encs : α → Array Value) (Kp : World → World → Prop) (S Sp : List α → Prop) (N : Nat) (w : World) : Prop :=
  ∀ (l : Nat) (J Jx : List α → World → Prop) (W : World), Below w.heap.size w W → FreeFrom W.heap.size J → FreeFrom W.heap.size Jx →
    (∀ pre x W1, J pre W1 → pre.length < N → YieldAt Fence.wide (n - 1) P l (encs x) W1 fun e W' =>
      (e = .returned (.bool true) ∧ J (pre ++ [x]) W' ∧ Kp W1 W') ∨ (e = .returned (.bool false) ∧ Jx (pre ++ [x]) W' ∧ Kp W1 W')) →
    J [] W → w.heap.size + 1 + 1 ≤ W.heap.size →
    CallsIn Fence.wide n P g (#[.func (.yield l) #[] #[]] ++ lb) W fun e W' => (∃ v, e = .returned v) ∧ ((∃ xs, S xs ∧ J xs W') ∨ (∃ pre, Sp pre ∧ Jx pre W'))
theorem range_free {α : Type} {n : Nat} {g : Operand} {ps : Array Tmp} {assign body : Code} {Q : Exit → Act → World → Prop} {a : Act} {w : World}
    (hn : 1 ≤ n) {gf : Nat} {lb : Array Value} (hg : a.eval g = .func (.func gf) #[] lb) (eg : ∀ args w, (callFunc gf args).run P w = .ok (.enter gf args) w)
    {encs : α → Array Value} {Kp : World → World → Prop} {S Sp : List α → Prop} {N : Nat} {w0 : World} (hseq : SeqFree (n - 1) P gf lb encs Kp S Sp N w0) (hb0 : Below w0.heap.size w0 w) (hps : ∀ x, (encs x).size = ps.size)
    (hKt : ∀ {A B C : World}, Kp A B → Kp B C → Kp A C) (hKl : ∀ (W : World) (r r' : Loop), W.heap[w.heap.size + 1]? = some (.loop r) → Kp W (W.putObj (w.heap.size + 1) (.loop r')))
    (I : List α → World → Prop) (Ix : Code → List α → World → Prop) (hIf : FreeFrom w.heap.size I) (hIxf : ∀ c, FreeFrom w.heap.size (Ix c)) (h0 : I [] w) (fr : α → Act)
    (hassign : ∀ (l : Nat) (x : α) (W : World) (K : Act → World → Prop), K (fr x) W →
      assign.wpIn (Fence.wide.inRound l) (n - 1 - 1) P (Exit.then K (fun _ _ _ => False)) { tmps := (ps.zip (encs x)).foldl (fun t (p, v) => t.setIfInBounds p v) a.tmps, defers := [] } W)
    (hbody : ∀ (l : Nat) (pre : List α) (x : α) (W : World), w.heap.size ≤ l → I pre W → pre.length < N → body.wpIn (Fence.wide.inRound l) (n - 1 - 1) P (heldPost w.heap.size Kp I Ix (pre ++ [x]) W) (fr x) W)
    (hdone : ∀ (D : Nat) (xs : List α) (W : World), w.heap.size ≤ D → S xs → I xs W → W.heap[D]? = some (.deferred (some [])) → Q .normal { a with defers := { target := .collected D, args := #[] } :: a.defers } W)
    (hstop : ∀ (D : Nat) (c : Code) (pre : List α) (W : World), w.heap.size ≤ D → Sp pre → Ix c pre W → W.heap[D]? = some (.deferred (some [])) → c.wpIn Fence.wide n P Q { a with defers := { target := .collected D, args := #[] } :: a.defers } W) :
    (Code.rangeFunc g ps assign body).wpIn Fence.wide n P Q a w := by
  have hI := hIf.own
  have hIx := fun c => (hIxf c).own
  refine wpIn_rangeFunc fun fn hfn => ?_
  obtain ⟨L, hL⟩ : ∃ L : LoopState → Option Code → Loop, L = fun st pe => { state := st, pending := pe, fn, tmps := a.tmps, params := ps, assign, body, defers := w.heap.size } := ⟨_, rfl⟩
  have book1 := Book.new w (L .ready none)
  have inv1 : I [] ((w.alloc (.deferred (some []))).alloc (.loop (L .ready none))) := hI.alloc _ (hI.alloc _ h0)
  have below1 : Below w0.heap.size w0 ((w.alloc (.deferred (some []))).alloc (.loop (L .ready none))) :=
    hb0.trans ((((Below.refl _ w).alloc (Nat.le_refl _) _).alloc (by simp) _).mono hb0.size)
  have size1 : ((w.alloc (.deferred (some []))).alloc (.loop (L .ready none))).heap.size = w.heap.size + 1 + 1 := by simp
  have enter1 : (Instr.enterLoop fn a.tmps ps assign body Fence.wide.round).run P w = .ok (w.heap.size + 1, [{ target := .collected w.heap.size, args := #[] }]) ((w.alloc (.deferred (some []))).alloc (.loop (L .ready none))) := by
    rw [hL]; exact run_enterLoop_outer _ _ _ _ _
  generalize (w.alloc (.deferred (some []))).alloc (.loop (L .ready none)) = W1 at *
  -- between two rounds, and behind the one that has left
  obtain ⟨J, hJ⟩ : ∃ J : List α → World → Prop, J = fun pre W => I pre W ∧ Book w.heap.size (L .ready none) W := ⟨_, rfl⟩
  obtain ⟨Jx, hJx⟩ : ∃ Jx : List α → World → Prop, Jx = fun pre W => ∃ c, Ix c pre W ∧ Book w.heap.size (L .done (some c)) W := ⟨_, rfl⟩
  have abJ : FreeFrom W1.heap.size J := fun s X Y row hs hg' hr => by
    rw [hJ] at hs ⊢
    exact ⟨hIf s X Y row hs.1 hg' (fun r e => by have := hr r e; omega), hs.2.grown hg' (fun r e => by have := hr r e; omega)⟩
  have abJx : FreeFrom W1.heap.size Jx := fun s X Y row hs hg' hr => by
    rw [hJx] at hs ⊢
    obtain ⟨c, h1, h2⟩ := hs
    exact ⟨c, hIxf c s X Y row h1 hg' (fun r e => by have := hr r e; omega), h2.grown hg' (fun r e => by have := hr r e; omega)⟩
  have round : ∀ pre x W, J pre W → pre.length < N → YieldAt Fence.wide (n - 1 - 1) P (w.heap.size + 1) (encs x) W fun e W' =>
      (e = .returned (.bool true) ∧ J (pre ++ [x]) W' ∧ Kp W W') ∨ (e = .returned (.bool false) ∧ Jx (pre ++ [x]) W' ∧ Kp W W') := by
    intro pre x W hs hlen
    rw [hJ] at hs
    obtain ⟨inv, book⟩ := hs
    have hy := run_yield (P := P) (args := encs x) book.1 (by rw [hL]; exact hps x)
    rw [hL] at hy
    refine ⟨fn, _, assign, body, hy, roundIn_of_wpIn hfn (hassign _ x W _ ⟨_, run_beginRound book.1 (by rw [hL]), ?_⟩)⟩
    clear hy
    have busy := book.turn { L .ready none with state := .busy }
    have invB := hI.putObj (.loop { L .ready none with state := .busy }) inv (by omega) book.1 rfl
    have kpB := hKl W _ { L .ready none with state := .busy } book.1
    generalize W.putObj (w.heap.size + 1) (.loop { L .ready none with state := .busy }) = WB at *
    refine wpIn_mono (hbody _ pre x WB (by omega) invB hlen) ?_
    have last : ∀ (jump : Option Code) (W3 : World), KeepsFrom w.heap.size WB W3 → (Instr.endRound (w.heap.size + 1) jump).run P W3 = .ok (.bool jump.isNone) (W3.putObj (w.heap.size + 1) (.loop (L (if jump.isNone then .ready else .done) jump))) ∧ Book w.heap.size { L .ready none with state := .busy } W3 := fun jump W3 hk => by
      have b3 := busy.keeps hk
      have e := run_endRound (P := P) jump b3.1
      refine ⟨?_, b3⟩
      rw [hL] at e ⊢
      exact e
    have leave : ∀ (c : Code) (W3 : World), KeepsFrom w.heap.size WB W3 ∧ Kp WB W3 ∧ Ix c (pre ++ [x]) W3 → ∃ v W4, (Instr.endRound (w.heap.size + 1) (some c)).run P W3 = .ok v W4 ∧
        ((Ending.returned v = .returned (.bool true) ∧ J (pre ++ [x]) W4 ∧ Kp W W4) ∨ (Ending.returned v = .returned (.bool false) ∧ Jx (pre ++ [x]) W4 ∧ Kp W W4)) := fun c W3 ⟨hk, hkp, hx⟩ => by
      obtain ⟨e, b3⟩ := last (some c) W3 hk
      exact ⟨_, _, e, .inr ⟨rfl, by rw [hJx]; exact ⟨c, (hIx c).putObj _ hx (by omega) b3.1 rfl, b3.turn _⟩, hKt kpB (hKt hkp (hKl W3 _ _ b3.1))⟩⟩
    intro e a3 W3 hp
    cases e with
    | normal =>
      obtain ⟨hk, hkp, hi3⟩ := hp
      obtain ⟨e, b3⟩ := last none W3 hk
      exact ⟨_, _, e, .inl ⟨rfl, by rw [hJ]; exact ⟨hI.putObj _ hi3 (by omega) b3.1 rfl, b3.turn _⟩, hKt kpB (hKt hkp (hKl W3 _ _ b3.1))⟩⟩
    | ret => exact leave _ W3 hp
    | exit id => exact leave _ W3 hp
    | goto t => exact leave _ W3 hp
    | panic ch => exact hp.elim
    | outgrown => exact hp.elim
  refine ⟨w.heap.size + 1, [{ target := .collected w.heap.size, args := #[] }], W1, { target := .fn (.func gf) lb, args := #[.func (.yield (w.heap.size + 1)) #[] #[]] }, W1, gf,
    #[.func (.yield (w.heap.size + 1)) #[] #[]] ++ lb, W1, enter1, ?_, ?_, ?_, fun _ => hn, ?_⟩
  · simp only [resolve, hg]
    simp [go_sem]
  · intro f' _; trivial
  · simp [invoke, go_sem, eg]
  · refine (hseq (w.heap.size + 1) J Jx W1 below1 abJ abJx round (by rw [hJ]; exact ⟨inv1, book1⟩) (by have := hb0.size; omega)).mono ?_
    rintro e W2 ⟨⟨v, rfl⟩, h | h⟩
    · obtain ⟨xs, hS, hs⟩ := h
      rw [hJ] at hs
      obtain ⟨hi2, b2⟩ := hs
      have e := run_endLoop (P := P) b2.1 (by rw [hL]; simp)
      exact ⟨none, _, by rw [hL] at e; exact e, hdone _ xs _ (Nat.le_refl _) hS (hI.putObj _ hi2 (by omega) b2.1 rfl) ((World.putObj_heap_other (by omega)).trans b2.2)⟩
    · obtain ⟨pre, hSp, hs⟩ := h
      rw [hJx] at hs
      obtain ⟨c, hx2, b2⟩ := hs
      have e := run_endLoop (P := P) b2.1 (by rw [hL]; simp)
      exact ⟨some c, _, by rw [hL] at e; exact e, hstop _ c pre _ (Nat.le_refl _) hSp ((hIx c).putObj _ hx2 (by omega) b2.1 rfl) ((World.putObj_heap_other (by omega)).trans b2.2)⟩
end
end Go.Proofs.Ytlcihopklnnhdaa
