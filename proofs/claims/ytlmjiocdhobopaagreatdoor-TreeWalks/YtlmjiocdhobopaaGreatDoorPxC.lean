/-
 quarrylaw17.told: what is known between two rounds.
-/
import Derived.Test.YtlmjiocdhobopaaGreatDoorPxB
import Derived.Test.YtlmjiocdhobopaaGreatDoorPwE
namespace Go.Proofs.YtlmjiocdhobopaaGreatDoor
open Go.RowKit Go.Shelf
/-- The two lists of a value that was handed over lie in rows that can be written, from c on and below q. -/
def TopX (c q : Nat) (w : World) (ko : Option Addr) (n : Nat) (vo : Option Addr) (m : Nat) : Prop :=
 (n = 0 ∨ ∃ (R : Nat) (cs : Array Value), ko = some ⟨R, 0, none⟩ ∧ c ≤ R ∧ R < q ∧ n ≤ cs.size ∧ At w R cs 9) ∧ (m = 0 ∨ ∃ (R : Nat) (cs : Array Value), vo = some ⟨R, 0, none⟩ ∧ c ≤ R ∧ R < q ∧ m * 6 ≤ cs.size ∧ At w R cs 25)
theorem topX_of {c q : Nat} {w : World} {t : Vt} {k : Int} {b : Bool} {r tx : ByteArray} {ko : Option Addr} {n kc : Nat} {vo : Option Addr} {m vc : Nat} (hv : ValAt w t (.agg #[.int .i64 k, .bool b, .string r, .string tx, .slice ko n kc, .slice vo m vc])) (ht : TopAt c w (.agg #[.int .i64 k, .bool b, .string r, .string tx, .slice ko n kc, .slice vo m vc])) (hq : w.heap.size ≤ q) : TopX c q w ko n vo m := by
 obtain ⟨k', b', r', t', ko', n', kc', vo', m', vc', he, h1, h2⟩ := ht
 cases he
 cases hv with
 | mk k b r t ks vs ko kc vo vc X hw hz hk hr hv =>
 refine ⟨?_, ?_⟩
 ·rcases h1 with h | ⟨R, cs, rfl, hR, hA⟩
  ·exact .inl h
  ·by_cases h0 : ks.length = 0
   ·exact .inl h0
   ·refine .inr ⟨R, cs, rfl, hR, Nat.lt_of_lt_of_le hA.lt hq, ?_, hA⟩
    obtain ⟨s, hs⟩ : ∃ s, ks[ks.length - 1]? = some s := ⟨_, List.getElem?_eq_getElem (by omega)⟩
    obtain ⟨-, g, o, e, -, hc⟩ := hk _ s hs
    injection e with e
    injection e with e1 e2
    subst e1 e2
    rw [hA.cell, Nat.zero_add] at hc
    have := (Array.getElem?_eq_some_iff.1 hc).1
    omega
 ·rcases h2 with h | ⟨R, cs, rfl, hR, hA⟩
  ·exact .inl h
  ·by_cases h0 : vs.length = 0
   ·exact .inl h0
   ·refine .inr ⟨R, cs, rfl, hR, Nat.lt_of_lt_of_le hA.lt hq, ?_, hA⟩
    obtain ⟨h6, g, o, e, -, hc⟩ := hr (vs.length - 1) (by omega)
    injection e with e
    injection e with e1 e2
    subst e1 e2
    have h5 := hc 5 (by omega)
    have hx : (X (vs.length - 1))[5]? = some _ := Array.getElem?_eq_getElem (by rw [h6]; omega)
    rw [hA.cell, Nat.zero_add, hx] at h5
    have := (Array.getElem?_eq_some_iff.1 h5).1
    omega
theorem TopX.kept {c q : Nat} {w w' : World} {ko : Option Addr} {n : Nat} {vo : Option Addr} {m : Nat} (h : TopX c q w ko n vo m) (hb : ∀ (R : Nat) (cs : Array Value) (t : TypeId), At w R cs t → At w' R cs t) : TopX c q w' ko n vo m := by
 refine ⟨?_, ?_⟩
 ·rcases h.1 with h | ⟨R, cs, a1, a2, a3, a4, a5⟩
  ·exact .inl h
  ·exact .inr ⟨R, cs, a1, a2, a3, a4, hb _ _ _ a5⟩
 ·rcases h.2 with h | ⟨R, cs, a1, a2, a3, a4, a5⟩
  ·exact .inl h
  ·exact .inr ⟨R, cs, a1, a2, a3, a4, hb _ _ _ a5⟩
theorem at_typeX {w : World} {b : Nat} {cs cs' : Array Value} {t t' : TypeId} (h : At w b cs t) (h' : At w b cs' t') : t = t' := by
 have e1 : w.heap[b]? = some (.cells cs t) := h
 have e2 : w.heap[b]? = some (.cells cs' t') := h'
 rw [e1] at e2
 cases e2
 rfl
theorem TopX.key {c q : Nat} {w : World} {R n : Nat} {vo : Option Addr} {m : Nat} (h : TopX c q w (some ⟨R, 0, none⟩) n vo m) (hn : n ≠ 0) (i : Nat) (x : Value) : TopX c q (w.setCell ⟨R, i, none⟩ x) (some ⟨R, 0, none⟩) n vo m := by
 rcases h.1 with h0 | ⟨R', cs, e, a2, a3, a4, a5⟩
 ·exact absurd h0 hn
 ·injection e with e
  injection e with e
  subst e
  refine ⟨.inr ⟨R, _, rfl, a2, a3, by rw [Array.size_setIfInBounds]; exact a4, a5.set i x⟩, ?_⟩
  rcases h.2 with h0 | ⟨R2, cs2, b1, b2, b3, b4, b5⟩
  ·exact .inl h0
  ·refine .inr ⟨R2, cs2, b1, b2, b3, b4, b5.other (p := ⟨R, i, none⟩) ?_ x⟩
   show R2 ≠ R
   rintro rfl
   have := at_typeX a5 b5
   exact absurd this (by decide)
theorem TopX.kid {c q : Nat} {w : World} {R n : Nat} {ko : Option Addr} {m : Nat} (h : TopX c q w ko n (some ⟨R, 0, none⟩) m) {i : Nat} (hi : i < m) (L : List Value) (hL : L.length = 6) : TopX c q (w.setCells R (i * 6) L) ko n (some ⟨R, 0, none⟩) m := by
 rcases h.2 with h0 | ⟨R', cs, e, a2, a3, a4, a5⟩
 ·omega
 ·injection e with e
  injection e with e
  subst e
  obtain ⟨ds, d1, d2, -⟩ := a5.setCells_at L (i * 6) (by rw [hL]; omega)
  refine ⟨?_, .inr ⟨R, ds, rfl, a2, a3, by rw [d2]; exact a4, d1⟩⟩
  rcases h.1 with h0 | ⟨R2, cs2, b1, b2, b3, b4, b5⟩
  ·exact .inl h0
  ·refine .inr ⟨R2, cs2, b1, b2, b3, b4, b5.setCells_other (b' := R) ?_ L _⟩
   rintro rfl
   have := at_typeX a5 b5
   exact absurd this (by decide)
/-- Between two rounds of told. -/
def TdI (w : World) (sq : Value) (ao : Option Addr) (N ca : Nat) (vo : Option Addr) (cl : Nat) (left : Int) (d : Nat) (r : Nat) (W : World) : Prop :=
 (At W w.heap.size #[sq] 27 ∧ At W (w.heap.size + 1) #[.slice ao N ca] 22 ∧ At W (w.heap.size + 1 + 1) #[.slice vo N cl] 23 ∧ At W (w.heap.size + 1 + 1 + 1) #[.int .i64 left] 3 ∧ At W (w.heap.size + 1 + 1 + 1 + 1) #[.int .i64 (d : Int)] 3 ∧
  At W (w.heap.size + 1 + 1 + 1 + 1 + 1) #[.bool false] 4 ∧ At W (w.heap.size + 1 + 1 + 1 + 1 + 1 + 1) #[.int .i64 (r : Int)] 3 ∧ w.heap.size + 7 ≤ W.heap.size) ∧ Below w.heap.size w W
def TdX (w : World) (c : Code) (_ : Nat) (W : World) : Prop := c = .ret ∧ At W (w.heap.size + 1 + 1 + 1 + 1 + 1) #[.bool true] 4 ∧ Below w.heap.size w W ∧ w.heap.size + 7 ≤ W.heap.size
/-- What the loop's variables are. -/
def TdY (L : List (List UInt8 × Vt)) (G : Nat) (r c : Nat) (y : List UInt8 × Nat × Array Value) (W : World) : Prop :=
 ∃ (t : Vt) (k : Int) (b : Bool) (r' tx : ByteArray) (ko : Option Addr) (n kc : Nat) (vo : Option Addr) (m vc : Nat), L[r]? = some (y.1, t) ∧ G ≤ c ∧ c ≤ y.2.1 ∧ y.2.2 = #[.int .i64 k, .bool b, .string r', .string tx, .slice ko n kc, .slice vo m vc] ∧ At W y.2.1 y.2.2 25 ∧ ValAt W t (.agg y.2.2) ∧ TopX c y.2.1 W ko n vo m
def TdG (T : Array Value) (y : List UInt8 × Nat × Array Value) : Act :=
 { tmps := (((T.setIfInBounds 17 (.string (mkL y.1))).setIfInBounds 18 (.agg y.2.2)).setIfInBounds 12 (.string (mkL y.1))).setIfInBounds 13 (.pointer (some ⟨y.2.1, 0, none⟩)), defers := [] }
theorem At.belowX {B b : Nat} {W W' : World} {cs : Array Value} {t : TypeId} (h : At W b cs t) (hb : Below B W W') (hl : b < B) : At W' b cs t := (hb.block b hl).trans h
section
variable {w : World} {Bk : Value} {ao : Option Addr} {N ca : Nat} {vo : Option Addr} {cl : Nat} {left : Int} {d : Nat}
theorem tdI_free {G : Nat} (h : w.heap.size + 7 ≤ G) : BFree G (TdI w Bk ao N ca vo cl left d) := fun r W W' ⟨⟨a0, a1, a2, a3, a4, a5, a6, a7⟩, f⟩ hb =>
 ⟨⟨a0.belowX hb (by omega), a1.belowX hb (by omega), a2.belowX hb (by omega), a3.belowX hb (by omega), a4.belowX hb (by omega), a5.belowX hb (by omega), a6.belowX hb (by omega), Nat.le_trans a7 hb.size⟩, f.trans (hb.mono (by omega))⟩
theorem tdX_free {G : Nat} (h : w.heap.size + 7 ≤ G) (c : Code) : BFree G (TdX w c) := fun r W W' ⟨a, b, e, f⟩ hb => ⟨a, b.belowX hb (by omega), e.trans (hb.mono (by omega)), Nat.le_trans f hb.size⟩
theorem tdI_kept {r : Nat} {X Z : World} (h : TdI w Bk ao N ca vo cl left d r X) (hb : Below X.heap.size X Z) : TdI w Bk ao N ca vo cl left d r Z := by
 obtain ⟨⟨a0, a1, a2, a3, a4, a5, a6, a7⟩, f⟩ := h
 exact ⟨⟨a0.keptAll hb, a1.keptAll hb, a2.keptAll hb, a3.keptAll hb, a4.keptAll hb, a5.keptAll hb, a6.keptAll hb, Nat.le_trans a7 hb.size⟩, f.trans (hb.mono f.size)⟩
end
theorem At.ownX {B : Nat} {W W' : World} {b : Nat} {cs : Array Value} {t : TypeId} {row : Option Nat} (h : At W b cs t) (hg : W.grownBy W' row) (hr : ∀ r, row = some r → B ≤ r ∧ ∃ o : Obj, W.heap[r]? = some o ∧ o.isCells = false) : At W' b cs t :=
 (hg.block b h.lt (fun e => by
  obtain ⟨-, o, h1, h2⟩ := hr b e.symm
  have h' : W.heap[b]? = some (.cells cs t) := h
  rw [h'] at h1
  cases h1
  cases h2)).trans h
theorem cell_ownX {B : Nat} {W W' : World} {b o : Nat} {x : Value} {row : Option Nat} (hl : b < W.heap.size) (h : W.cell? ⟨b, o, none⟩ = some x) (hg : W.grownBy W' row) (hr : ∀ r, row = some r → B ≤ r ∧ ∃ o : Obj, W.heap[r]? = some o ∧ o.isCells = false) : W'.cell? ⟨b, o, none⟩ = some x := by
 rw [World.cell?_of_block (w := W) (hg.block b hl (fun e => by
  obtain ⟨-, ob, h1, h2⟩ := hr b e.symm
  rw [World.cell?, h1] at h
  cases ob with
  | cells _ _ => cases h2
  | _ => simp at h))]
 exact h
theorem valAt_ownX {B : Nat} {W W' : World} {t : Vt} {v : Value} {row : Option Nat} (h : ValAt W t v) (hg : W.grownBy W' row) (hr : ∀ r, row = some r → B ≤ r ∧ ∃ o : Obj, W.heap[r]? = some o ∧ o.isCells = false) : ValAt W' t v := by
 induction h with
 | mk k b r t ks vs ko kc vo vc X hw hz hk hrw hv ih =>
  refine .mk k b r t ks vs ko kc vo vc X hw hz (fun i s hi => ?_) (fun i hi => ?_) ih
  ·obtain ⟨h0, g, off, h1, h2, h3⟩ := hk i s hi
   exact ⟨h0, g, off, h1, Nat.lt_of_lt_of_le h2 hg.size, cell_ownX h2 h3 hg hr⟩
  ·obtain ⟨h0, g, off, h1, h2, h3⟩ := hrw i hi
   refine ⟨h0, g, off, h1, Nat.lt_of_lt_of_le h2 hg.size, fun j hj => ?_⟩
   have hx : (X i)[j]? = some (X i)[j] := Array.getElem?_eq_getElem (by rw [h0]; exact hj)
   rw [hx]
   exact cell_ownX h2 ((h3 j hj).trans hx) hg hr
theorem tdY_own {L : List (List UInt8 × Vt)} {G B : Nat} (r c : Nat) (y : List UInt8 × Nat × Array Value) : OwnFrom B (fun (_ : Unit) W => TdY L G r c y W) := fun _ W W' row h hg hr => by
 obtain ⟨t, k, b, r', tx, ko, n, kc, vo, m, vc, h1, h2, h3, h4, h5, h6, h7⟩ := h
 exact ⟨t, k, b, r', tx, ko, n, kc, vo, m, vc, h1, h2, h3, h4, h5.ownX hg hr, valAt_ownX h6 hg hr, h7.kept (fun R cs t hA => hA.ownX hg hr)⟩
end Go.Proofs.YtlmjiocdhobopaaGreatDoor
