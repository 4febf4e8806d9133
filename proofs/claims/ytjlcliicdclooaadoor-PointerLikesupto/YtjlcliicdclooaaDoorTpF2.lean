/-
 tree.copied: the same value in memory of its own (by gen_tpf2.py).
-/
import Derived.Test.YtjlcliicdclooaaDoorTpF
import Derived.Test.YtjlcliicdclooaaDoorTrE2
import Derived.Test.YtjlcliicdclooaaDoorTrO
import Derived.Deep.MidRow
import Derived.Deep.RegionHeld
import Derived.Deep.DeepCutAuto
import Derived.BigQuiet
import Derived.OwnWalk
namespace Go.Proofs.YtjlcliicdclooaaDoor
open Go.RowKit Go.Shelf
theorem belowF {w W w1 : World} (h : Below w.heap.size w W) (hb : Below W.heap.size W w1) : Below w.heap.size w w1 := h.trans (hb.mono h.size)
theorem infoK0 : (Tryd.prog.info? 9).map (fun i => (i.zero, i.size, i.bytes)) = some (some (.string ⟨#[]⟩), 1, 16) := by kernel_rfl
theorem infoK : ∃ i z, Tryd.prog.info? 9 = some i ∧ i.zero = some z ∧ i.size = 1 ∧ i.bytes = 16 := by
 obtain ⟨i, h1, h2⟩ := Option.map_eq_some_iff.1 infoK0
 exact ⟨i, _, h1, congrArg (·.1) h2, congrArg (·.2.1) h2, congrArg (·.2.2) h2⟩
theorem infoV0 : (Tryd.prog.info? 35).map (fun i => (i.zero, i.size, i.bytes)) = some (some (.agg #[.int .i64 0, .bool false, .string ⟨#[]⟩, .string ⟨#[]⟩, .slice none 0 0, .slice none 0 0]), 6, 96) := by kernel_rfl
theorem infoV : ∃ i z, Tryd.prog.info? 35 = some i ∧ i.zero = some z ∧ i.size = 6 ∧ i.bytes = 96 := by
 obtain ⟨i, h1, h2⟩ := Option.map_eq_some_iff.1 infoV0
 exact ⟨i, _, h1, congrArg (·.1) h2, congrArg (·.2.1) h2, congrArg (·.2.2) h2⟩
theorem src_empty {w : World} {t e : TypeId} (ht : Tryd.prog.underlying t = some (.slice e)) (z : Nat) (ao : Option Addr) (c : Nat) : Src Tryd.prog z t (.slice ao 0 c) 0 [] w := by
 cases ao with
 | none => exact Src.ofNil w ht c
 | some a => exact Src.ofSlice w ht a 0 c [] (by simp) (fun j u h => by simp at h) (fun u h => by simp at h)
/-- The names, one behind the other, as cells. -/
theorem keys_src {w : World} {ko : Option Addr} {ks : List ByteArray} (kc : Nat) (h : KeysAt w ko ks) : Src Tryd.prog 1 22 (.slice ko ks.length kc) ks.length (ks.map Value.string) w := by
 cases ks with
 | nil => exact src_empty Tryd.underlying22 1 ko kc
 | cons s0 ks =>
  obtain ⟨-, b, off, rfl, -, -⟩ := h 0 s0 rfl
  refine Src.ofSlice w Tryd.underlying22 ⟨b, off, none⟩ _ kc _ (by simp) (fun j u hj => ?_) (fun u hu => ?_)
  ·rw [List.getElem?_map] at hj
   obtain ⟨s, hs, rfl⟩ := Option.map_eq_some_iff.1 hj
   obtain ⟨-, b', off', e, -, hc⟩ := h j s hs
   injection e with e
   injection e with e1 e2
   subst e1 e2
   have ad : (⟨b, off, none⟩ : Addr).add j = ⟨b, off + j, none⟩ := by by_cases h : j = 0 <;> simp [Addr.add, h]
   rw [ad]
   exact hc
  ·obtain ⟨s, -, rfl⟩ := List.mem_map.1 hu
   rfl
theorem wpList_append_run {ops : Array Oper} {rest : List Oper} {o : Oper} {a : Act} {w : World} {Q : Exit → Act → World → Prop} (hgd : o.guard = none) (s y : Operand) (t : TypeId)
  (ho : o.op = .call { callee := .builtin .append, args := #[s, y], argTypes := #[t, t] }) (v u v' : Value) (w' : World) (hs : a.eval s = v) (hy : a.eval y = u)
  (hr : ∀ ty, (Builtin.append_ #[t, t] ty #[v, u]).run Tryd.prog w = .ok v' w') (h : wpList Tryd.prog ops Q rest (a.put o.dst v') w') : wpList Tryd.prog ops Q (o :: rest) a w := by
 refine wpList_plain hgd fun K hK => ?_
 unfold Oper.wp execOp
 simp only [ho, resolve, invoke, builtin, Sem.run_bind, Sem.run_pure, Result.andThen_ok, List.map_toArray, List.map_cons, List.map_nil, hs, hy, hr]
 exact hK _ _ h
/-- The kids' cells, one behind the other. -/
def flatX (X : Nat → Array Value) (n : Nat) : List Value := (List.range n).flatMap fun i => (X i).toList
theorem flatX_len {X : Nat → Array Value} : ∀ (n : Nat), (∀ i, i < n → (X i).size = 6) → (flatX X n).length = n * 6
 | 0, _ => rfl
 | n + 1, h => by
  have := flatX_len n (fun i hi => h i (by omega))
  unfold flatX at this ⊢
  rw [List.range_succ, List.flatMap_append, List.length_append, this]
  simp [h n (by omega)]
  omega
theorem flatX_get {X : Nat → Array Value} : ∀ (n : Nat), (∀ i, i < n → (X i).size = 6) → ∀ i j, i < n → j < 6 → (flatX X n)[i * 6 + j]? = (X i)[j]?
 | 0, _, i, j, hi, _ => by omega
 | n + 1, h, i, j, hi, hj => by
  have hl := flatX_len n (fun i hi => h i (by omega))
  have ih := flatX_get n (fun i hi => h i (by omega)) i j
  unfold flatX at hl ih ⊢
  rw [List.range_succ, List.flatMap_append]
  by_cases e : i < n
  ·rw [List.getElem?_append_left (by rw [hl]; omega)]
   exact ih e hj
  ·obtain rfl : i = n := by omega
   rw [List.getElem?_append_right (by rw [hl]; omega), hl]
   simp [show i * 6 + j - i * 6 = j by omega]
theorem flatX_at {X : Nat → Array Value} {n q : Nat} {u : Value} (hX : ∀ i, i < n → (X i).size = 6) (h : (flatX X n)[q]? = some u) : ∃ i j, i < n ∧ j < 6 ∧ q = i * 6 + j ∧ (X i)[j]? = some u := by
 have hq := (List.getElem?_eq_some_iff.1 h).1
 rw [flatX_len n hX] at hq
 refine ⟨q / 6, q % 6, by omega, by omega, by omega, ?_⟩
 rw [← flatX_get n hX (q / 6) (q % 6) (by omega) (by omega), show q / 6 * 6 + q % 6 = q by omega]
 exact h
theorem kids_src {w : World} {vo : Option Addr} {vs : List Vt} {X : Nat → Array Value} (vc : Nat) (h : RowAt w vo vs.length X) (hv : ∀ (i : Nat) (u : Vt), vs[i]? = some u → ValAt w u (.agg (X i))) : Src Tryd.prog 6 33 (.slice vo vs.length vc) vs.length (flatX X vs.length) w := by
 by_cases h0 : vs.length = 0
 ·have e : flatX X vs.length = [] := by rw [h0]; rfl
  rw [e, h0]
  exact src_empty Tryd.underlying33 6 vo vc
 ·obtain ⟨-, b, off, rfl, -, -⟩ := h 0 (by omega)
  have hX : ∀ i, i < vs.length → (X i).size = 6 := fun i hi => (h i hi).1
  refine Src.ofSlice w Tryd.underlying33 ⟨b, off, none⟩ _ vc _ (flatX_len _ hX) (fun q u hq => ?_) (fun u hu => ?_)
  ·obtain ⟨i, j, hi, hj, rfl, hu⟩ := flatX_at hX hq
   obtain ⟨-, b', off', e, -, hc⟩ := h i hi
   injection e with e
   injection e with e1 e2
   subst e1 e2
   have ad : (⟨b, off, none⟩ : Addr).add (i * 6 + j) = ⟨b, off + i * 6 + j, none⟩ := by
    rw [Nat.add_assoc]
    generalize i * 6 + j = q
    by_cases h : q = 0 <;> simp [Addr.add, h]
   rw [ad, hc j hj]
   exact hu
  ·obtain ⟨q, hq⟩ := List.getElem?_of_mem hu
   obtain ⟨i, j, hi, hj, -, hu⟩ := flatX_at hX hq
   obtain ⟨ko, kc, vo, vc, hx⟩ := (hv i _ (List.getElem?_eq_getElem hi)).cells
   rw [hx] at hu
   match j, hj with
   | 0, _ => simp at hu; subst hu; rfl
   | 1, _ => simp at hu; subst hu; rfl
   | 2, _ => simp at hu; subst hu; rfl
   | 3, _ => simp at hu; subst hu; rfl
   | 4, _ => simp at hu; subst hu; rfl
   | 5, _ => simp at hu; subst hu; rfl
theorem set_same {cs : Array Value} {i : Nat} {v : Value} (h : cs[i]? = some v) : cs.setIfInBounds i v = cs := by
 obtain ⟨hi, he⟩ := Array.getElem?_eq_some_iff.1 h
 apply Array.ext_getElem?
 intro j
 rw [Array.getElem?_setIfInBounds]
 by_cases e : i = j
 ·subst e
  simp [hi, he]
 ·simp [e]
theorem at_type {w : World} {b : Nat} {cs cs' : Array Value} {t t' : TypeId} (h : At w b cs t) (h' : At w b cs' t') : t = t' := by
 unfold At at h h'
 rw [h] at h'
 injection h' with h'
 injection h'
/-- The kids' row of its own, as far as it is copied. -/
def VRow (H : Nat) (w : World) (vo : Option Addr) (vs : List Vt) (X : Nat → Array Value) (i : Nat) : Prop :=
 vs.length = 0 ∨ ∃ (R : Nat) (cs : Array Value) (Y : Nat → Array Value), vo = some ⟨R, 0, none⟩ ∧ H ≤ R ∧ At w R cs 35 ∧ (∀ q, q < vs.length → (Y q).size = 6 ∧ ∀ j, j < 6 → cs[q * 6 + j]? = (Y q)[j]?) ∧ (∀ q, i ≤ q → Y q = X q) ∧ ∀ (q : Nat) (u : Vt), q < i → vs[q]? = some u → ValOn (fun b => R < b) w u (.agg (Y q))
/-- The names' row of its own: none, or a block of just these texts. -/
def KRow (H : Nat) (w : World) (ko : Option Addr) (ks : List ByteArray) : Prop := ks.length = 0 ∨ ∃ (R : Nat) (cs : Array Value), ko = some ⟨R, 0, none⟩ ∧ H ≤ R ∧ At w R cs 9 ∧ ∀ (i : Nat) (s : ByteArray), ks[i]? = some s → cs[i]? = some (.string s)
theorem KRow.keys {H : Nat} {w : World} {ko : Option Addr} {ks : List ByteArray} (h : KRow H w ko ks) (hs : ∀ (i : Nat) (s : ByteArray), ks[i]? = some s → s.size ≤ capT) : KeysOn (fun b => H ≤ b) w ko ks := fun i s hi => by
 rcases h with h | ⟨R, cs, rfl, h1, h2, h3⟩
 ·have := (List.getElem?_eq_some_iff.1 hi).1; omega
 ·exact ⟨hs i s hi, R, 0, rfl, h1, h2.lt, by rw [Nat.zero_add, h2.cell i]; exact h3 i s hi⟩
theorem KRow.kept {H : Nat} {w w' : World} {ko : Option Addr} {ks : List ByteArray} (h : KRow H w ko ks) (hb : Below w.heap.size w w') : KRow H w' ko ks := by
 rcases h with h | ⟨R, cs, h0, h1, h2, h3⟩
 ·exact .inl h
 ·exact .inr ⟨R, cs, h0, h1, h2.keptAll hb, h3⟩
theorem KRow.setH {H h0 : Nat} {w : World} {ko : Option Addr} {ks : List ByteArray} {cs0 : Array Value} (h : KRow H w ko ks) (h1 : At w h0 cs0 35) (v : Value) (o : Nat) : KRow H (w.setCell ⟨h0, o, none⟩ v) ko ks := by
 rcases h with h | ⟨R, cs, e, h2, h3, h4⟩
 ·exact .inl h
 ·refine .inr ⟨R, cs, e, h2, h3.other (p := ⟨h0, o, none⟩) (fun e => ?_) v, h4⟩
  subst e
  have := at_type h1 h3
  exact absurd this (by decide)
theorem KRow.same {H R : Nat} {w wf : World} {ko : Option Addr} {ks : List ByteArray} {cs0 : Array Value} (h : KRow H w ko ks) (hs : SameOn (fun b => b ≠ R) w wf) (h1 : At w R cs0 35) : KRow H wf ko ks := by
 rcases h with h | ⟨R', cs, e, h2, h3, h4⟩
 ·exact .inl h
 ·refine .inr ⟨R', cs, e, h2, ?_, h4⟩
  have hne : R' ≠ R := fun e => by
   subst e
   exact absurd (at_type h1 h3) (by decide)
  exact (hs.2 R' hne h3.lt).trans h3
theorem same_six {w : World} {h : Nat} {y0 y1 y2 y3 y4 y5 : Value} : SameOn (fun b => b ≠ h) w ((((((w.setCell ⟨h, 0, none⟩ y0).setCell ⟨h, 1, none⟩ y1).setCell ⟨h, 2, none⟩ y2).setCell ⟨h, 3, none⟩ y3).setCell ⟨h, 4, none⟩ y4).setCell ⟨h, 5, none⟩ y5) := by
 refine ⟨by simp, fun b hb _ => ?_⟩
 rw [Below.heap_setCell _ _ _ _ hb, Below.heap_setCell _ _ _ _ hb, Below.heap_setCell _ _ _ _ hb, Below.heap_setCell _ _ _ _ hb, Below.heap_setCell _ _ _ _ hb, Below.heap_setCell _ _ _ _ hb]
/-- The whole. -/
theorem val_done {H : Nat} {wr wf : World} {k : Int} {b : Bool} {r t : ByteArray} {ks : List ByteArray} {vs : List Vt} {ko : Option Addr} {kc : Nat} {vo : Option Addr} {vc : Nat} {X : Nat → Array Value}
  (hw : (Lit.int .i64 k).wf = true) (hz : r.size ≤ capT ∧ t.size ≤ capT ∧ ks.length ≤ capT ∧ vs.length ≤ capT) (hks : ∀ (i : Nat) (s : ByteArray), ks[i]? = some s → s.size ≤ capT) (hK : KRow (H + 2) wr ko ks) (hV : VRow (H + 2) wr vo vs X vs.length) (hs : SameOn (fun b => b ≠ H + 1) wr wf) :
  ValOn (fun b => H ≤ b) wf (.mk k b r t ks vs) (.agg #[.int .i64 k, .bool b, .string r, .string t, .slice ko ks.length kc, .slice vo vs.length vc]) := by
 have hs2 : SameOn (fun b => H + 2 ≤ b) wr wf := ⟨hs.1, fun b hb hl => hs.2 b (by omega) hl⟩
 have hk := (hK.keys hks).kept (S' := fun b => H ≤ b) (fun b _ h => by omega) hs2
 rcases hV with h0 | ⟨R, cs, Y, rfl, hR, hAt, hcs, -, hval⟩
 ·obtain rfl : vs = [] := List.length_eq_zero_iff.1 h0
  exact .mk k b r t ks [] ko kc vo vc (fun _ => #[]) hw hz hk (fun i hi => by simp at hi) (fun i u hu => by simp at hu)
 ·refine .mk k b r t ks vs ko kc (some ⟨R, 0, none⟩) vc Y hw hz hk (fun q hq => ?_) (fun q u hu => ?_)
  ·obtain ⟨h1, h2⟩ := hcs q hq
   have hl : R < wr.heap.size := hAt.lt
   refine ⟨h1, R, 0, rfl, by omega, Nat.lt_of_lt_of_le hl hs.1, fun j hj => ?_⟩
   rw [cell_same (hs2.2 R hR hl), Nat.zero_add, hAt.cell]
   exact h2 j hj
  ·exact (hval q u (List.getElem?_eq_some_iff.1 hu).1 hu).kept (fun b _ h => by omega) ⟨hs.1, fun b hb hl => hs.2 b (by omega) hl⟩
/-- A kid's copy is laid in. -/
theorem VRow.put {H : Nat} {w w' wf : World} {R : Nat} {cs : Array Value} {Y : Nat → Array Value} {vs : List Vt} {X : Nat → Array Value} {i : Nat} {u : Vt} {x0 x1 x2 x3 x4 x5 : Value} (hi : i < vs.length) (hu : vs[i]? = some u) (hR : H ≤ R) (hRw : R < w.heap.size) (hf : wf = (((((w'.setCell ⟨R, i * 6, none⟩ x0).setCell ⟨R, i * 6 + 1, none⟩ x1).setCell ⟨R, i * 6 + 2, none⟩ x2).setCell ⟨R, i * 6 + 3, none⟩ x3).setCell ⟨R, i * 6 + 4, none⟩ x4).setCell ⟨R, i * 6 + 5, none⟩ x5)
  (hAt : At w' R cs 35) (hcs : ∀ q, q < vs.length → (Y q).size = 6 ∧ ∀ j, j < 6 → cs[q * 6 + j]? = (Y q)[j]?) (hYX : ∀ q, i ≤ q → Y q = X q) (hval : ∀ (q : Nat) (u : Vt), q < i → vs[q]? = some u → ValOn (fun b => R < b) w' u (.agg (Y q))) (hx : ValOn (fun b => w.heap.size ≤ b) w' u (.agg #[x0, x1, x2, x3, x4, x5])) :
  VRow H wf (some ⟨R, 0, none⟩) vs X (i + 1) ∧ SameOn (fun b => b ≠ R) w' wf := by
 have hsm : SameOn (fun b => b ≠ R) w' wf := by
  subst hf
  refine ⟨by simp, fun b hb _ => ?_⟩
  rw [Below.heap_setCell _ _ _ _ hb, Below.heap_setCell _ _ _ _ hb, Below.heap_setCell _ _ _ _ hb, Below.heap_setCell _ _ _ _ hb, Below.heap_setCell _ _ _ _ hb, Below.heap_setCell _ _ _ _ hb]
 refine ⟨.inr ⟨R, ((((((cs.setIfInBounds (i * 6) x0).setIfInBounds (i * 6 + 1) x1).setIfInBounds (i * 6 + 2) x2).setIfInBounds (i * 6 + 3) x3).setIfInBounds (i * 6 + 4) x4).setIfInBounds (i * 6 + 5) x5), fun q => if q = i then #[x0, x1, x2, x3, x4, x5] else Y q, rfl, hR, ?_, fun q hq => ?_, fun q hq => ?_, fun q v hq hv => ?_⟩, hsm⟩
 ·rw [hf]
  exact (((((hAt.set _ x0).set _ x1).set _ x2).set _ x3).set _ x4).set _ x5
 ·have hsz : i * 6 + 5 < cs.size := by
   obtain ⟨a1, a2⟩ := hcs i hi
   have h5 : (Y i)[5]? = some ((Y i)[5]'(by rw [a1]; decide)) := Array.getElem?_eq_getElem (by rw [a1]; decide)
   have := a2 5 (by decide)
   rw [h5] at this
   exact (Array.getElem?_eq_some_iff.1 this).1
  by_cases e : q = i
  ·subst e
   dsimp only
   rw [if_pos rfl]
   refine ⟨rfl, fun j hj => ?_⟩
   simp only [Array.getElem?_setIfInBounds, Array.size_setIfInBounds]
   match j, hj with
   | 0, _ => simp; omega
   | 1, _ => simp; omega
   | 2, _ => simp; omega
   | 3, _ => simp; omega
   | 4, _ => simp; omega
   | 5, _ => simp; omega
  ·dsimp only
   rw [if_neg e]
   refine ⟨(hcs q hq).1, fun j hj => ?_⟩
   rw [Array.getElem?_setIfInBounds_ne (by omega), Array.getElem?_setIfInBounds_ne (by omega), Array.getElem?_setIfInBounds_ne (by omega), Array.getElem?_setIfInBounds_ne (by omega), Array.getElem?_setIfInBounds_ne (by omega), Array.getElem?_setIfInBounds_ne (by omega)]
   exact (hcs q hq).2 j hj
 ·dsimp only
  rw [if_neg (by omega)]
  exact hYX q (by omega)
 ·dsimp only
  have hm : ∀ b, b < w'.heap.size → R < b → b ≠ R := fun b _ h => by omega
  by_cases e : q = i
  ·subst e
   rw [if_pos rfl]
   rw [hu] at hv
   injection hv with hv
   subst hv
   exact hx.kept (fun b _ h => by omega) ⟨hsm.1, fun b h hl => hsm.2 b (by omega) hl⟩
  ·rw [if_neg e]
   exact (hval q v (by omega) hv).kept (fun _ _ h => h) ⟨hsm.1, fun b h hl => hsm.2 b (by omega) hl⟩
end Go.Proofs.YtjlcliicdclooaaDoor
