/-
 tree.copied: the same value in memory of its own (by gen_tpf2.py).
-/
import Derived.Test.YtlhbgfhmcjaabaaGreatDoorTpF
import Derived.Test.YtlhbgfhmcjaabaaGreatDoorTrE2
import Derived.Test.YtlhbgfhmcjaabaaGreatDoorTrO
import Derived.Deep.MidRow
import Derived.Deep.RegionHeld
import Derived.Deep.DeepCutAuto
import Derived.BigQuiet
import Derived.OwnWalk
namespace Go.Proofs.YtlhbgfhmcjaabaaGreatDoor
open Go.RowKit Go.Shelf
theorem infoK0 : (Tryz.prog.info? 9).map (fun i => (i.zero, i.size, i.bytes)) = some (some (.string ⟨#[]⟩), 1, 16) := by kernel_rfl
theorem infoK : ∃ i z, Tryz.prog.info? 9 = some i ∧ i.zero = some z ∧ i.size = 1 ∧ i.bytes = 16 := by
 obtain ⟨i, h1, h2⟩ := Option.map_eq_some_iff.1 infoK0
 exact ⟨i, _, h1, congrArg (·.1) h2, congrArg (·.2.1) h2, congrArg (·.2.2) h2⟩
theorem src_empty {w : World} {t e : TypeId} (ht : Tryz.prog.underlying t = some (.slice e)) (z : Nat) (ao : Option Addr) (c : Nat) : Src Tryz.prog z t (.slice ao 0 c) 0 [] w := by
 cases ao with
 | none => exact Src.ofNil w ht c
 | some a => exact Src.ofSlice w ht a 0 c [] (by simp) (fun j u h => by simp at h) (fun u h => by simp at h)
/-- The names, one behind the other, as cells. -/
theorem keys_src {w : World} {ko : Option Addr} {ks : List ByteArray} (kc : Nat) (h : KeysAt w ko ks) : Src Tryz.prog 1 22 (.slice ko ks.length kc) ks.length (ks.map Value.string) w := by
 cases ks with
 | nil => exact src_empty Tryz.underlying22 1 ko kc
 | cons s0 ks =>
  obtain ⟨-, b, off, rfl, -, -⟩ := h 0 s0 rfl
  refine Src.ofSlice w Tryz.underlying22 ⟨b, off, none⟩ _ kc _ (by simp) (fun j u hj => ?_) (fun u hu => ?_)
  ·rw [List.getElem?_map] at hj
   obtain ⟨s, hs, rfl⟩ := Option.map_eq_some_iff.1 hj
   obtain ⟨-, b', off', e, -, hc⟩ := h j s hs
   injection e with e
   injection e with e1 e2
   subst e1 e2
   have ad : (⟨b, off, none⟩ : Addr).add j = ⟨b, off + j, none⟩ := by by_cases h : j = 0 <;> simp [Addr.add, h]
   rw [ad]
   exact hc
  ·obtain ⟨s, -, rfl⟩ := List.mem_map.1 hu
   rfl
theorem wpList_append_run {ops : Array Oper} {rest : List Oper} {o : Oper} {a : Act} {w : World} {Q : Exit → Act → World → Prop} (hgd : o.guard = none) (s y : Operand) (t : TypeId)
  (ho : o.op = .call { callee := .builtin .append, args := #[s, y], argTypes := #[t, t] }) (v u v' : Value) (w' : World) (hs : a.eval s = v) (hy : a.eval y = u)
  (hr : ∀ ty, (Builtin.append_ #[t, t] ty #[v, u]).run Tryz.prog w = .ok v' w') (h : wpList Tryz.prog ops Q rest (a.put o.dst v') w') : wpList Tryz.prog ops Q (o :: rest) a w := by
 refine wpList_plain hgd fun K hK => ?_
 unfold Oper.wp execOp
 simp only [ho, resolve, invoke, builtin, Sem.run_bind, Sem.run_pure, Result.andThen_ok, List.map_toArray, List.map_cons, List.map_nil, hs, hy, hr]
 exact hK _ _ h
theorem at_type {w : World} {b : Nat} {cs cs' : Array Value} {t t' : TypeId} (h : At w b cs t) (h' : At w b cs' t') : t = t' := by
 unfold At at h h'
 rw [h] at h'
 injection h' with h'
 injection h'
/-- The kids' row of its own, as far as it is copied. -/
def VRow (H : Nat) (w : World) (vo : Option Addr) (vs : List Vt) (X : Nat → Array Value) (i : Nat) : Prop :=
 vs.length = 0 ∨ ∃ (R : Nat) (cs : Array Value) (Y : Nat → Array Value), vo = some ⟨R, 0, none⟩ ∧ H ≤ R ∧ At w R cs 25 ∧ (∀ q, q < vs.length → (Y q).size = 6 ∧ ∀ j, j < 6 → cs[q * 6 + j]? = (Y q)[j]?) ∧ (∀ q, i ≤ q → Y q = X q) ∧ ∀ (q : Nat) (u : Vt), q < i → vs[q]? = some u → ValOn (fun b => R < b) w u (.agg (Y q))
/-- The names' row of its own: none, or a block of just these texts. -/
def KRow (H : Nat) (w : World) (ko : Option Addr) (ks : List ByteArray) : Prop := ks.length = 0 ∨ ∃ (R : Nat) (cs : Array Value), ko = some ⟨R, 0, none⟩ ∧ H ≤ R ∧ At w R cs 9 ∧ ∀ (i : Nat) (s : ByteArray), ks[i]? = some s → cs[i]? = some (.string s)
theorem KRow.keys {H : Nat} {w : World} {ko : Option Addr} {ks : List ByteArray} (h : KRow H w ko ks) (hs : ∀ (i : Nat) (s : ByteArray), ks[i]? = some s → s.size ≤ capT) : KeysOn (fun b => H ≤ b) w ko ks := fun i s hi => by
 rcases h with h | ⟨R, cs, rfl, h1, h2, h3⟩
 ·have := (List.getElem?_eq_some_iff.1 hi).1; omega
 ·exact ⟨hs i s hi, R, 0, rfl, h1, h2.lt, by rw [Nat.zero_add, h2.cell i]; exact h3 i s hi⟩
theorem KRow.kept {H : Nat} {w w' : World} {ko : Option Addr} {ks : List ByteArray} (h : KRow H w ko ks) (hb : Below w.heap.size w w') : KRow H w' ko ks := by
 rcases h with h | ⟨R, cs, h0, h1, h2, h3⟩
 ·exact .inl h
 ·exact .inr ⟨R, cs, h0, h1, h2.keptAll hb, h3⟩
theorem KRow.setH {H h0 : Nat} {w : World} {ko : Option Addr} {ks : List ByteArray} {cs0 : Array Value} (h : KRow H w ko ks) (h1 : At w h0 cs0 25) (v : Value) (o : Nat) : KRow H (w.setCell ⟨h0, o, none⟩ v) ko ks := by
 rcases h with h | ⟨R, cs, e, h2, h3, h4⟩
 ·exact .inl h
 ·refine .inr ⟨R, cs, e, h2, h3.other (p := ⟨h0, o, none⟩) (fun e => ?_) v, h4⟩
  subst e
  have := at_type h1 h3
  exact absurd this (by decide)
theorem KRow.same {H R : Nat} {w wf : World} {ko : Option Addr} {ks : List ByteArray} {cs0 : Array Value} (h : KRow H w ko ks) (hs : SameOn (fun b => b ≠ R) w wf) (h1 : At w R cs0 25) : KRow H wf ko ks := by
 rcases h with h | ⟨R', cs, e, h2, h3, h4⟩
 ·exact .inl h
 ·refine .inr ⟨R', cs, e, h2, ?_, h4⟩
  have hne : R' ≠ R := fun e => by
   subst e
   exact absurd (at_type h1 h3) (by decide)
  exact (hs.2 R' hne h3.lt).trans h3
theorem same_six {w : World} {h : Nat} {y0 y1 y2 y3 y4 y5 : Value} : SameOn (fun b => b ≠ h) w ((((((w.setCell ⟨h, 0, none⟩ y0).setCell ⟨h, 1, none⟩ y1).setCell ⟨h, 2, none⟩ y2).setCell ⟨h, 3, none⟩ y3).setCell ⟨h, 4, none⟩ y4).setCell ⟨h, 5, none⟩ y5) := by
 refine ⟨by simp, fun b hb _ => ?_⟩
 rw [Below.heap_setCell _ _ _ _ hb, Below.heap_setCell _ _ _ _ hb, Below.heap_setCell _ _ _ _ hb, Below.heap_setCell _ _ _ _ hb, Below.heap_setCell _ _ _ _ hb, Below.heap_setCell _ _ _ _ hb]
/-- A kid's copy is laid in. -/
theorem VRow.put {H : Nat} {w w' wf : World} {R : Nat} {cs : Array Value} {Y : Nat → Array Value} {vs : List Vt} {X : Nat → Array Value} {i : Nat} {u : Vt} {x0 x1 x2 x3 x4 x5 : Value} (hi : i < vs.length) (hu : vs[i]? = some u) (hR : H ≤ R) (hRw : R < w.heap.size) (hf : wf = (((((w'.setCell ⟨R, i * 6, none⟩ x0).setCell ⟨R, i * 6 + 1, none⟩ x1).setCell ⟨R, i * 6 + 2, none⟩ x2).setCell ⟨R, i * 6 + 3, none⟩ x3).setCell ⟨R, i * 6 + 4, none⟩ x4).setCell ⟨R, i * 6 + 5, none⟩ x5)
  (hAt : At w' R cs 25) (hcs : ∀ q, q < vs.length → (Y q).size = 6 ∧ ∀ j, j < 6 → cs[q * 6 + j]? = (Y q)[j]?) (hYX : ∀ q, i ≤ q → Y q = X q) (hval : ∀ (q : Nat) (u : Vt), q < i → vs[q]? = some u → ValOn (fun b => R < b) w' u (.agg (Y q))) (hx : ValOn (fun b => w.heap.size ≤ b) w' u (.agg #[x0, x1, x2, x3, x4, x5])) :
  VRow H wf (some ⟨R, 0, none⟩) vs X (i + 1) ∧ SameOn (fun b => b ≠ R) w' wf := by
 have hsm : SameOn (fun b => b ≠ R) w' wf := by
  subst hf
  refine ⟨by simp, fun b hb _ => ?_⟩
  rw [Below.heap_setCell _ _ _ _ hb, Below.heap_setCell _ _ _ _ hb, Below.heap_setCell _ _ _ _ hb, Below.heap_setCell _ _ _ _ hb, Below.heap_setCell _ _ _ _ hb, Below.heap_setCell _ _ _ _ hb]
 refine ⟨.inr ⟨R, ((((((cs.setIfInBounds (i * 6) x0).setIfInBounds (i * 6 + 1) x1).setIfInBounds (i * 6 + 2) x2).setIfInBounds (i * 6 + 3) x3).setIfInBounds (i * 6 + 4) x4).setIfInBounds (i * 6 + 5) x5), fun q => if q = i then #[x0, x1, x2, x3, x4, x5] else Y q, rfl, hR, ?_, fun q hq => ?_, fun q hq => ?_, fun q v hq hv => ?_⟩, hsm⟩
 ·rw [hf]
  exact (((((hAt.set _ x0).set _ x1).set _ x2).set _ x3).set _ x4).set _ x5
 ·have hsz : i * 6 + 5 < cs.size := by
   obtain ⟨a1, a2⟩ := hcs i hi
   have h5 : (Y i)[5]? = some ((Y i)[5]'(by rw [a1]; decide)) := Array.getElem?_eq_getElem (by rw [a1]; decide)
   have := a2 5 (by decide)
   rw [h5] at this
   exact (Array.getElem?_eq_some_iff.1 this).1
  by_cases e : q = i
  ·subst e
   dsimp only
   rw [if_pos rfl]
   refine ⟨rfl, fun j hj => ?_⟩
   simp only [Array.getElem?_setIfInBounds, Array.size_setIfInBounds]
   match j, hj with
   | 0, _ => simp; omega
   | 1, _ => simp; omega
   | 2, _ => simp; omega
   | 3, _ => simp; omega
   | 4, _ => simp; omega
   | 5, _ => simp; omega
  ·dsimp only
   rw [if_neg e]
   refine ⟨(hcs q hq).1, fun j hj => ?_⟩
   rw [Array.getElem?_setIfInBounds_ne (by omega), Array.getElem?_setIfInBounds_ne (by omega), Array.getElem?_setIfInBounds_ne (by omega), Array.getElem?_setIfInBounds_ne (by omega), Array.getElem?_setIfInBounds_ne (by omega), Array.getElem?_setIfInBounds_ne (by omega)]
   exact (hcs q hq).2 j hj
 ·dsimp only
  rw [if_neg (by omega)]
  exact hYX q (by omega)
 ·dsimp only
  have hm : ∀ b, b < w'.heap.size → R < b → b ≠ R := fun b _ h => by omega
  by_cases e : q = i
  ·subst e
   rw [if_pos rfl]
   rw [hu] at hv
   injection hv with hv
   subst hv
   exact hx.kept (fun b _ h => by omega) ⟨hsm.1, fun b h hl => hsm.2 b (by omega) hl⟩
  ·rw [if_neg e]
   exact (hval q v (by omega) hv).kept (fun _ _ h => h) ⟨hsm.1, fun b h hl => hsm.2 b (by omega) hl⟩
end Go.Proofs.YtlhbgfhmcjaabaaGreatDoor
