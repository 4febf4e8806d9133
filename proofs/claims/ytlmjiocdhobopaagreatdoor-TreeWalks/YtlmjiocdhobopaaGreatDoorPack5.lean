/-
  Texts of mine that others lean on, one behind the other.
-/
import Derived.Test.YtlmjiocdhobopaaGreatDoorPack3
import Derived.Test.YtlmjiocdhobopaaGreatDoorPack4
import Derived.WalkSmall
import Derived.Laws.Concat
import Derived.Test.YtlmjiocdhobopaaGreatDoorPack1
/-
 A text, cut at its /s, by the program: cut.
-/
namespace Go.Proofs.YtlmjiocdhobopaaGreatDoor
open Go.RowKit Go.Shelf
theorem KeysG.mono {B B' : Nat} {W : World} {v : Value} {ks : List ByteArray} (h : KeysG B W v ks) (hb : B' ≤ B) : KeysG B' W v ks := ⟨h.1.mono hb, h.2⟩
/-- What is known while a text is cut. -/
def CuS (l : List UInt8) (ks : List (List UInt8)) (f q : Nat) : Prop := f ≤ q ∧ q ≤ l.length ∧ ks.length ≤ f ∧ ks ++ cuL (l.drop f) = cuL l ∧ ∀ j, f ≤ j → j < q → lk (mkL l) j ≠ 47
theorem CuS.start (l : List UInt8) : CuS l [] 0 0 := ⟨Nat.le_refl _, Nat.zero_le _, Nat.le_refl _, rfl, fun j h1 h2 => by omega⟩
theorem no_sl {l : List UInt8} {f q : Nat} (h : ∀ j, f ≤ j → j < q → lk (mkL l) j ≠ 47) (hq : q ≤ l.length) : ∀ c ∈ (l.drop f).take (q - f), c ≠ 47 := by
 intro c hc e
 obtain ⟨i, hi, he⟩ := List.mem_iff_getElem.1 hc
 have hi2 : i < q - f ∧ f + i < l.length := by simp at hi; omega
 have h1 : l[f + i]? = some c := by
  have h2 : ((l.drop f).take (q - f))[i]? = some c := by rw [List.getElem?_eq_getElem hi, he]
  rw [List.getElem?_take, if_pos hi2.1, List.getElem?_drop] at h2
  exact h2
 have h3 := lk_mkL l (f + i) c h1
 exact h (f + i) (by omega) (by omega) (by rw [h3, e]; rfl)
theorem CuS.other {l : List UInt8} {ks : List (List UInt8)} {f q : Nat} (h : CuS l ks f q) (hq : q < l.length) (hc : lk (mkL l) q ≠ 47) : CuS l ks f (q + (Utf8.decode (mkL l) q).2) := by
 obtain ⟨h1, h2, h3, h4, h5⟩ := h
 obtain ⟨d1, d2⟩ := dec_conts (mkL l) q (by rw [mkL_size]; exact hq)
 rw [mkL_size] at d1
 refine ⟨by omega, d1, h3, h4, fun j a b => ?_⟩
 rcases Nat.lt_or_ge j q with h6 | h6
 ·exact h5 j a h6
 ·by_cases e : j = q
  ·rw [e]; exact hc
  ·have := d2 j (by omega) b
   omega
theorem CuS.stop {l : List UInt8} {ks : List (List UInt8)} {f : Nat} (h : CuS l ks f l.length) : ks ++ [l.drop f] = cuL l := by
 obtain ⟨h1, h2, h3, h4, h5⟩ := h
 rw [← h4]
 have h6 := no_sl h5 h2
 rw [List.take_of_length_le (by simp)] at h6
 rw [cuL_self _ h6]
end Go.Proofs.YtlmjiocdhobopaaGreatDoor

/-
 The names of a pointer, by the program: Parse.
-/
namespace Go.Proofs.YtlmjiocdhobopaaGreatDoor
open Go.RowKit Go.Shelf
theorem KeysG.stored {B : Nat} {W : World} {g n cap : Nat} {ks : List ByteArray} (h : KeysG B W (.slice (some ⟨g, 0, none⟩) n cap) ks) (i : Nat) (u : ByteArray) (hu : u.size ≤ capT) : KeysG B (W.setCell ⟨g, i, none⟩ (.string u)) (.slice (some ⟨g, 0, none⟩) n cap) (ks.set i u) ∧ W.grownBy (W.setCell ⟨g, i, none⟩ (.string u)) (some g) := by
 obtain ⟨h1, h2⟩ := h
 obtain ⟨so, c, e⟩ := own_shape h1
 cases e
 obtain ⟨a, b⟩ := h1.stored i (.string u)
 refine ⟨⟨?_, fun j s hj => ?_⟩, b⟩
 ·rw [List.length_set, List.map_set]
  exact a
 ·by_cases e : i = j
  ·subst e
   have hl := (List.getElem?_eq_some_iff.1 hj).1
   rw [List.length_set] at hl
   rw [List.getElem?_set_self hl] at hj
   cases hj
   exact hu
  ·rw [List.getElem?_set_ne e] at hj
   exact h2 j s hj
theorem KeysG.cell {B : Nat} {W : World} {g n cap : Nat} {ks : List ByteArray} (h : KeysG B W (.slice (some ⟨g, 0, none⟩) n cap) ks) {i : Nat} {u : ByteArray} (hi : ks[i]? = some u) : W.cell? ⟨g, i, none⟩ = some (.string u) ∧ W.frozen? ⟨g, i, none⟩ = false := by
 obtain ⟨h1, h2⟩ := h
 obtain ⟨so, c, e⟩ := own_shape h1
 cases e
 have hl := (List.getElem?_eq_some_iff.1 hi).1
 refine ⟨?_, h1.frozenAt i⟩
 rw [h1.cellAt i (by omega), List.getElem?_map, hi]
 rfl
end Go.Proofs.YtlmjiocdhobopaaGreatDoor

/-
 The names of a pointer, by the reference: from the left to the right.
-/
namespace Go.Proofs.YtlmjiocdhobopaaGreatDoor
open Go.RowKit Go.Shelf
/-- What is known on the way. -/
def RfS (l : List UInt8) (out : List (List UInt8)) (q : Nat) : Prop := q ≤ l.length ∧ rfL out (l.drop q) = ptrL l ∧ out.length ≤ q ∧ (0 < q → out ≠ []) ∧ ∀ a ∈ out, a.length ≤ q
theorem RfS.start {l : List UInt8} (h : ∀ c ∈ l.head?, c = 47) : RfS l [] 0 := ⟨Nat.zero_le _, rfL_ptr l h, Nat.le_refl _, fun h => by omega, fun a h => by simp at h⟩
theorem drop_at {l : List UInt8} {q : Nat} {c : UInt8} (h : l[q]? = some c) : l.drop q = c :: l.drop (q + 1) := by
 obtain ⟨h1, h2⟩ := List.getElem?_eq_some_iff.1 h
 rw [List.drop_eq_getElem_cons h1, h2]
theorem RfS.last {l : List UInt8} {out : List (List UInt8)} {q : Nat} (h : RfS l out q) (hh : ∀ c ∈ l.head?, c = 47) {c : UInt8} (hc : l[q]? = some c) (hc47 : c ≠ 47) : ∃ o a, out = o ++ [a] := by
 obtain ⟨h1, h2, h3, h4, h5⟩ := h
 have hq0 : 0 < q := by
  rcases Nat.eq_zero_or_pos q with rfl | h
  ·exfalso
   cases l with
   | nil => simp at hc
   | cons d t =>
    simp at hc
    exact hc47 (by rw [← hc]; exact hh d rfl)
  ·exact h
 have := h4 hq0
 exact ⟨out.dropLast, out.getLast this, (List.dropLast_concat_getLast this).symm⟩
theorem RfS.plain {l : List UInt8} {o : List (List UInt8)} {a : List UInt8} {q : Nat} (h : RfS l (o ++ [a]) q) {c : UInt8} (hc : l[q]? = some c) (h1 : c ≠ 47) (h2 : c ≠ 126) : RfS l (o ++ [a ++ [c]]) (q + 1) := by
 obtain ⟨g1, g2, g3, g4, g5⟩ := h
 have hq := (List.getElem?_eq_some_iff.1 hc).1
 rw [drop_at hc, rfL_plain h1 h2, addN_on] at g2
 refine ⟨hq, g2, by simp at g3 ⊢; omega, fun _ => by simp, fun b hb => ?_⟩
 simp at hb
 rcases hb with hb | rfl
 ·have := g5 b (by simp [hb]); omega
 ·have := g5 a (by simp); simp; omega
theorem RfS.bad {l : List UInt8} {out : List (List UInt8)} {q : Nat} (h : RfS l out q) (hc : l[q]? = some 126) (hd : q + 1 = l.length ∨ ∃ d, l[q + 1]? = some d ∧ d ≠ 48 ∧ d ≠ 49) : ptrL l = none := by
 obtain ⟨-, g2, -⟩ := h
 rw [drop_at hc] at g2
 rcases hd with hd | ⟨d, hd, h1, h2⟩
 ·rw [List.drop_eq_nil_of_le (by omega), rfL_none] at g2
  exact g2.symm
 ·rw [drop_at hd, rfL_til, if_neg h1, if_neg h2] at g2
  exact g2.symm
theorem RfS.stop {l : List UInt8} {out : List (List UInt8)} (h : RfS l out l.length) : ptrL l = some out := by
 have := h.2.1
 rw [List.drop_eq_nil_of_le (Nat.le_refl _)] at this
 rw [← this]
 rfl
end Go.Proofs.YtlmjiocdhobopaaGreatDoor

/-
 The law PointerParses, walked.
-/
namespace Go.Proofs.YtlmjiocdhobopaaGreatDoor
open Go.RowKit Go.Shelf
theorem KeysG.keys {B : Nat} {W : World} {so : Option Addr} {n cap : Nat} {ks : List ByteArray} (h : KeysG B W (.slice so n cap) ks) : KeysAt W so ks := (h.row.2).at
end Go.Proofs.YtlmjiocdhobopaaGreatDoor

/-
 quarryref17.Member: the first member of a name.
-/
namespace Go.Proofs.YtlmjiocdhobopaaGreatDoor
open Go.RowKit Go.Shelf
theorem At.six {w : World} {b : Nat} {x0 x1 x2 x3 x4 x5 y0 y1 y2 y3 y4 y5 : Value} (h : At w b #[x0, x1, x2, x3, x4, x5] 25) :
  At ((((((w.setCell ⟨b, 0, none⟩ y0).setCell ⟨b, 1, none⟩ y1).setCell ⟨b, 2, none⟩ y2).setCell ⟨b, 3, none⟩ y3).setCell ⟨b, 4, none⟩ y4).setCell ⟨b, 5, none⟩ y5) b #[y0, y1, y2, y3, y4, y5] 25 := by
 have := (((((h.set 0 y0).set 1 y1).set 2 y2).set 3 y3).set 4 y4).set 5 y5
 simpa using this
theorem below_six {w w' : World} {n b : Nat} (h : Below n w w') (hb : n ≤ b) (y0 y1 y2 y3 y4 y5 : Value) : Below n w ((((((w'.setCell ⟨b, 0, none⟩ y0).setCell ⟨b, 1, none⟩ y1).setCell ⟨b, 2, none⟩ y2).setCell ⟨b, 3, none⟩ y3).setCell ⟨b, 4, none⟩ y4).setCell ⟨b, 5, none⟩ y5) :=
 (((((h.setCell hb _).setCell hb _).setCell hb _).setCell hb _).setCell hb _).setCell hb _
end Go.Proofs.YtlmjiocdhobopaaGreatDoor

/-
 The laws' own small value.
-/
namespace Go.Proofs.YtlmjiocdhobopaaGreatDoor
open Go.RowKit Go.Shelf
theorem ret_val1 {fn : Func} {p : Tmp} {R : Ending → World → Prop} {a : Act} {w : World} {b : Nat} {x0 x1 x2 x3 x4 x5 : Value} (hres : fn.results = #[.cell p 25]) (hp : a.tmps.getD p undef = .pointer (some ⟨b, 0, none⟩))
  (h : At w b #[x0, x1, x2, x3, x4, x5] 25) (hd : a.defers = []) (hR : R (.returned (.agg #[x0, x1, x2, x3, x4, x5])) w) : bodyPost Tryz.prog fn R .ret a w :=
 bodyPost_ret (v := .agg #[x0, x1, x2, x3, x4, x5]) (results_cell_row (P := Tryz.prog) hres _ w b 25 #[x0, x1, x2, x3, x4, x5] (0, 0) _ hp h Tryz.underlying25 rfl sizeVl) hd hR
theorem valLeaf (w : World) (k : Int) (b : Bool) (r t : ByteArray) (hw : (Lit.int .i64 k).wf = true) (hr : r.size ≤ capT) (ht : t.size ≤ capT) : ValAt w (.mk k b r t [] []) (.agg #[.int .i64 k, .bool b, .string r, .string t, .slice none 0 0, .slice none 0 0]) :=
 .mk k b r t [] [] none 0 none 0 (fun _ => #[]) hw ⟨hr, ht, Nat.zero_le _, Nat.zero_le _⟩ (fun i s h => by simp at h) (fun i h => by simp at h) (fun i u h => by simp at h)
theorem row2 {w : World} {b : Nat} {ty : TypeId} {c0 c1 c2 c3 c4 c5 d0 d1 d2 d3 d4 d5 : Value} (h : At w b #[c0, c1, c2, c3, c4, c5, d0, d1, d2, d3, d4, d5] ty) : RowAt w (some ⟨b, 0, none⟩) 2 (fun i => if i = 0 then #[c0, c1, c2, c3, c4, c5] else #[d0, d1, d2, d3, d4, d5]) := by
 intro i hi
 have hi2 : i = 0 ∨ i = 1 := by omega
 rcases hi2 with rfl | rfl
 ·refine ⟨rfl, b, 0, rfl, h.lt, fun j hj => ?_⟩
  match j, hj with
  | 0, _ => exact h.cell 0
  | 1, _ => exact h.cell 1
  | 2, _ => exact h.cell 2
  | 3, _ => exact h.cell 3
  | 4, _ => exact h.cell 4
  | 5, _ => exact h.cell 5
 ·refine ⟨rfl, b, 0, rfl, h.lt, fun j hj => ?_⟩
  match j, hj with
  | 0, _ => exact h.cell 6
  | 1, _ => exact h.cell 7
  | 2, _ => exact h.cell 8
  | 3, _ => exact h.cell 9
  | 4, _ => exact h.cell 10
  | 5, _ => exact h.cell 11
theorem keys2 {w : World} {b : Nat} {ty : TypeId} {s0 s1 : ByteArray} (h : At w b #[.string s0, .string s1] ty) (h0 : s0.size ≤ capT) (h1 : s1.size ≤ capT) : KeysAt w (some ⟨b, 0, none⟩) [s0, s1] := by
 intro i s hi
 match i, hi with
 | 0, hi => simp at hi; subst hi; exact ⟨h0, b, 0, rfl, h.lt, h.cell 0⟩
 | 1, hi => simp at hi; subst hi; exact ⟨h1, b, 0, rfl, h.lt, h.cell 1⟩
 | i + 2, hi => simp at hi
def listT : Vt := .mk 5 false ⟨#[]⟩ ⟨#[]⟩ [] [.mk 3 false ⟨#[49, 46, 48]⟩ ⟨#[]⟩ [] [], .mk 2 true ⟨#[]⟩ ⟨#[]⟩ [] []]
/-- What smallValue answers. -/
def smallT : Vt := .mk 6 false ⟨#[]⟩ ⟨#[]⟩ [⟨#[97]⟩, ⟨#[98]⟩] [listT, .mk 1 false ⟨#[]⟩ ⟨#[]⟩ [] []]
theorem list_at {w : World} {b : Nat} {ty : TypeId} (h : At w b #[.int .i64 3, .bool false, .string ⟨#[49, 46, 48]⟩, .string ⟨#[]⟩, .slice none 0 0, .slice none 0 0, .int .i64 2, .bool true, .string ⟨#[]⟩, .string ⟨#[]⟩, .slice none 0 0, .slice none 0 0] ty) :
  ValAt w listT (.agg #[.int .i64 5, .bool false, .string ⟨#[]⟩, .string ⟨#[]⟩, .slice none 0 0, .slice (some ⟨b, 0, none⟩) 2 2]) := by
 refine .mk 5 false _ _ [] _ none 0 (some ⟨b, 0, none⟩) 2 _ (by decide) ⟨by decide, by decide, by decide, by decide⟩ (fun i s h => by simp at h) (row2 h) (fun i u hu => ?_)
 match i, hu with
 | 0, hu => simp at hu; subst hu; exact valLeaf w 3 false _ _ (by decide) (by decide) (by decide)
 | 1, hu => simp at hu; subst hu; exact valLeaf w 2 true _ _ (by decide) (by decide) (by decide)
 | i + 2, hu => simp at hu
theorem small_at {w : World} {b1 b3 b4 : Nat} {ty1 ty3 ty4 : TypeId} (h1 : At w b1 #[.int .i64 3, .bool false, .string ⟨#[49, 46, 48]⟩, .string ⟨#[]⟩, .slice none 0 0, .slice none 0 0, .int .i64 2, .bool true, .string ⟨#[]⟩, .string ⟨#[]⟩, .slice none 0 0, .slice none 0 0] ty1) (h3 : At w b3 #[.string ⟨#[97]⟩, .string ⟨#[98]⟩] ty3)
  (h4 : At w b4 #[.int .i64 5, .bool false, .string ⟨#[]⟩, .string ⟨#[]⟩, .slice none 0 0, .slice (some ⟨b1, 0, none⟩) 2 2, .int .i64 1, .bool false, .string ⟨#[]⟩, .string ⟨#[]⟩, .slice none 0 0, .slice none 0 0] ty4) :
  ValAt w smallT (.agg #[.int .i64 6, .bool false, .string ⟨#[]⟩, .string ⟨#[]⟩, .slice (some ⟨b3, 0, none⟩) 2 2, .slice (some ⟨b4, 0, none⟩) 2 2]) := by
 refine .mk 6 false _ _ _ _ _ 2 _ 2 _ (by decide) ⟨by decide, by decide, by decide, by decide⟩ (keys2 h3 (by decide) (by decide)) (row2 h4) (fun i u hu => ?_)
 match i, hu with
 | 0, hu => simp at hu; subst hu; exact list_at h1
 | 1, hu => simp at hu; subst hu; exact valLeaf _ 1 false _ _ (by decide) (by decide) (by decide)
 | i + 2, hu => simp at hu
theorem At.newAt {w : World} {b : Nat} (cs : Array Value) (ty : TypeId) (h : b = w.heap.size) : At (w.alloc (.cells cs ty)) b cs ty := by
 subst h
 exact At.new _ _ _
set_option maxRecDepth 10000 in
set_option maxHeartbeats 4000000 in
theorem small_calls (w : World) :
  Calls Tryz.prog 5 #[] w fun e w' => ∃ v, e = .returned v ∧ ValAt w' smallT v ∧ Below w.heap.size w w' := by
 go_enter Tryz.func5, Tryz.ntmps5
 go_wp2_with fail
 refine ret_val1 (p := 0) rfl rfl ((((At.new w _ 25).alloc _).alloc _).alloc _ |>.alloc _) rfl ?_
 refine ⟨_, rfl, small_at (ty1 := 25) (ty3 := 9) (ty4 := 25) (b1 := w.heap.size + 1) ?_ ?_ ?_, by repeat (first | with_reducible exact Below.refl _ _ | with_reducible refine Below.setCell ?_ (by first | (simp; done) | (simp; omega)) _ | with_reducible refine below_drewN ?_ _ | with_reducible refine Below.alloc ?_ (by first | (simp; done) | (simp; omega)) _ | with_reducible refine Below.drew ?_)⟩
 ·exact (((At.newAt _ _ (by simp only [World.size_alloc])).alloc _).alloc _).alloc _
 ·exact (At.newAt _ _ (by simp only [World.size_alloc])).alloc _
 ·exact At.newAt _ _ (by simp only [World.size_alloc])
end Go.Proofs.YtlmjiocdhobopaaGreatDoor
