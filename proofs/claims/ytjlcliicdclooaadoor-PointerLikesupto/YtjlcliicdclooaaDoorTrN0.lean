/-
 A value that comes in, of a bulk that is bounded.
-/
import Derived.Test.YtjlcliicdclooaaDoorTrAA
namespace Go.Proofs.YtjlcliicdclooaaDoor
open Go.ChangeShapes Go.WideShapes Go.ChangeAt Go.RowKit
set_option maxRecDepth 100000
/-- The bulk of names. -/
def blkK : List ByteArray → Nat
 | [] => 0
 | k :: ks => k.size + 1 + blkK ks
mutual
/-- The bulk of a value. -/
def blkV : Vt → Nat
 | .mk _ _ r t ks vs => r.size + t.size + blkK ks + blkL vs + 1
def blkL : List Vt → Nat
 | [] => 0
 | v :: vs => blkV v + blkL vs
end
theorem blkK_snoc (ks : List ByteArray) (k : ByteArray) : blkK (ks ++ [k]) = blkK ks + (k.size + 1) := by
 induction ks with
 | nil => simp [blkK]
 | cons a ks ih => simp only [List.cons_append, blkK, ih]; omega
theorem blkL_snoc (vs : List Vt) (v : Vt) : blkL (vs ++ [v]) = blkL vs + blkV v := by
 induction vs with
 | nil => simp [blkL]
 | cons a vs ih => simp only [List.cons_append, blkL, ih]; omega
theorem blkK_len (ks : List ByteArray) : ks.length ≤ blkK ks := by
 induction ks with
 | nil => exact Nat.zero_le _
 | cons a ks ih => simp only [List.length_cons, blkK]; omega
theorem blkK_get : ∀ {ks : List ByteArray} {i : Nat} {k : ByteArray}, ks[i]? = some k → k.size < blkK ks
 | [], i, k, h => by simp at h
 | a :: ks, 0, k, h => by simp at h; subst h; simp only [blkK]; omega
 | a :: ks, i + 1, k, h => by
  have := blkK_get (ks := ks) (i := i) (by simpa using h)
  simp only [blkK]; omega
theorem blkV_pos (t : Vt) : 1 ≤ blkV t := by cases t; unfold blkV; omega
theorem blkL_len (vs : List Vt) : vs.length ≤ blkL vs := by
 induction vs with
 | nil => exact Nat.zero_le _
 | cons a vs ih => have := blkV_pos a; simp only [List.length_cons, blkL]; omega
theorem bulk_snoc {H : Type} (ds : List (DataW H)) (d : DataW H) : Rows.uptoBulkAll (ds ++ [d]) = Rows.uptoBulkAll ds + Rows.uptoBulk d := by
 induction ds with
 | nil => simp [Rows.uptoBulkAll]
 | cons a ds ih => simp only [List.cons_append, Rows.uptoBulkAll, ih]; omega
section
variable {H : Type} {enc : TypeId × Value → H} {w : World} {base : Nat} {spare : Nat → Bool} {held : Bool}
/-- A list of texts that comes in. -/
theorem open_ku {fuel : Nat} {v : Value} {x : DataW H × List MemPlace} (hf : DataW.trod enc Tryd.prog w base spare held fuel 22 [v] = some x) (hwt : Rows.uptoBulk x.1 ≤ capT) :
  ∃ (ao : Option Addr) (cap : Nat) (ks : List ByteArray), v = .slice ao ks.length cap ∧ blkK ks < Rows.uptoBulk x.1 ∧ KeysAt w ao ks := by
 rcases DataW.trod_slice Tryd.underlying22 hf with ⟨hcs, hx⟩ | ⟨a, len, cap, elems, rest, n, _, hcs, hx, hb, hl, hm, hlen, hel, -, -⟩
 ·simp at hcs
  subst hcs
  refine ⟨none, 0, [], rfl, ?_, fun i o h => by simp at h⟩
  rw [congrArg Prod.fst hx]
  simp [Rows.uptoBulk, blkK]
 ·simp at hcs
  subst hcs
  rw [congrArg Prod.fst hx] at hwt ⊢
  simp only [Rows.uptoBulk] at hwt ⊢
  have each : ∀ i (hi : i < elems.length), ∃ s : ByteArray, w.cells? base (a.add i) 1 = some [.string s] ∧ Rows.uptoBulk (elems[i]'hi).1 = s.size + 1 := by
   intro i hi
   have h := hel i (by omega)
   rw [cellsSt, Nat.mul_one, List.getElem?_eq_getElem hi, Option.bind_eq_some_iff] at h
   obtain ⟨cs, h1, h2⟩ := h
   obtain ⟨s, rfl, hy, -⟩ := DataW.trod_string Tryd.underlying9 h2
   refine ⟨s, h1, ?_⟩
   rw [hy]
   simp only [Rows.uptoBulk, Array.length_toList]
   rfl
  have key : ∀ k, k ≤ elems.length → ∃ L : List ByteArray, L.length = k ∧ blkK L = Rows.uptoBulkAll ((elems.take k).map (·.1)) ∧ ∀ (i : Nat) (s : ByteArray), L[i]? = some s → w.cells? base (a.add i) 1 = some [.string s] := by
   intro k
   induction k with
   | zero => exact fun _ => ⟨[], rfl, by simp [blkK, Rows.uptoBulkAll], fun i o h => by simp at h⟩
   | succ k ih =>
    intro hk
    obtain ⟨L, hL, hbl, hall⟩ := ih (by omega)
    obtain ⟨s, hs, hbs⟩ := each k (by omega)
    refine ⟨L ++ [s], by simp [hL], ?_, fun i o' h => ?_⟩
    ·rw [blkK_snoc, hbl, List.take_add_one, List.getElem?_eq_getElem (by omega), Option.toList_some, List.map_append, List.map_cons, List.map_nil, bulk_snoc, hbs]
    ·by_cases hi : i < k
     ·rw [List.getElem?_append_left (by omega)] at h
      exact hall i o' h
     ·have hi2 := (List.getElem?_eq_some_iff.1 h).1
      rw [List.length_append, List.length_cons, List.length_nil] at hi2
      obtain rfl : i = k := by omega
      rw [List.getElem?_append_right (by omega), hL] at h
      simp at h
      subst h
      exact hs
  obtain ⟨L, hL, hbl, hall⟩ := key elems.length (Nat.le_refl _)
  rw [List.take_length] at hbl
  refine ⟨some a, cap, L, by rw [hL, hlen], by omega, fun i s hi => ?_⟩
  have hsz := blkK_get hi
  have c0 := (World.cells?_some (hall i s hi)).2.2 0 (by decide)
  obtain ⟨b, off, spot⟩ := a
  have hspot : spot = none := by
   have hi2 := (List.getElem?_eq_some_iff.1 hi).1
   obtain ⟨o0, ho0⟩ : ∃ o0, L[0]? = some o0 := ⟨_, List.getElem?_eq_getElem (by omega)⟩
   have := World.cell?_spot ((World.cells?_some (hall 0 o0 ho0)).2.2 0 (by decide))
   simpa [Addr.add] using this
  subst hspot
  have e : ((⟨b, off, none⟩ : Addr).add i).add 0 = ⟨b, off + i, none⟩ := by by_cases h : i = 0 <;> simp [Addr.add, h]
  rw [e] at c0
  exact ⟨by omega, b, off, rfl, cell_ltT c0, c0⟩
/-- A value that comes in, as six cells. -/
theorem open_vu : ∀ (fuel : Nat) {cs : List Value} {x : DataW H × List MemPlace}, DataW.trod enc Tryd.prog w base spare held fuel 35 cs = some x → Rows.uptoBulk x.1 ≤ capT → cs.length = 6 ∧ ∃ t, ValAt w t (.agg cs.toArray) ∧ blkV t ≤ Rows.uptoBulk x.1 := by
 intro fuel
 induction fuel using Nat.strongRecOn with
 | ind fuel ih =>
  intro cs x h hwt
  obtain ⟨xs, n, rfl, hx, hl, hxs, hf⟩ := DataW.trod_struct Tryd.underlying35 h
  rw [cellsVl] at hl
  refine ⟨hl, ?_⟩
  obtain ⟨c0, c1, c2, c3, c4, c5, rfl⟩ : ∃ a b c d e f, cs = [a, b, c, d, e, f] := by
   match cs, hl with
   | [a, b, c, d, e, f], _ => exact ⟨a, b, c, d, e, f, rfl⟩
  have hxs2 : xs.length = 6 := hxs
  obtain ⟨y0, y1, y2, y3, y4, y5, rfl⟩ : ∃ a b c d e f, xs = [a, b, c, d, e, f] := by
   match xs, hxs2 with
   | [a, b, c, d, e, f], _ => exact ⟨a, b, c, d, e, f, rfl⟩
  rw [congrArg Prod.fst hx] at hwt ⊢
  simp only [Rows.uptoBulk, List.map_cons, List.map_nil, Rows.uptoBulkAll] at hwt ⊢
  have f0 : DataW.trod enc Tryd.prog w base spare held n 3 ((([c0, c1, c2, c3, c4, c5] : List Value).drop 0).take (Tryd.prog.cellsOf 3)) = some y0 := hf 0 _ rfl
  have f1 : DataW.trod enc Tryd.prog w base spare held n 4 ((([c0, c1, c2, c3, c4, c5] : List Value).drop 1).take (Tryd.prog.cellsOf 4)) = some y1 := hf 1 _ rfl
  have f2 : DataW.trod enc Tryd.prog w base spare held n 9 ((([c0, c1, c2, c3, c4, c5] : List Value).drop 2).take (Tryd.prog.cellsOf 9)) = some y2 := hf 2 _ rfl
  have f3 : DataW.trod enc Tryd.prog w base spare held n 9 ((([c0, c1, c2, c3, c4, c5] : List Value).drop 3).take (Tryd.prog.cellsOf 9)) = some y3 := hf 3 _ rfl
  have f4 : DataW.trod enc Tryd.prog w base spare held n 22 ((([c0, c1, c2, c3, c4, c5] : List Value).drop 4).take (Tryd.prog.cellsOf 22)) = some y4 := hf 4 _ rfl
  have f5 : DataW.trod enc Tryd.prog w base spare held n 33 ((([c0, c1, c2, c3, c4, c5] : List Value).drop 5).take (Tryd.prog.cellsOf 33)) = some y5 := hf 5 _ rfl
  rw [show Tryd.prog.cellsOf 3 = 1 by kernel_rfl] at f0
  rw [show Tryd.prog.cellsOf 4 = 1 by kernel_rfl] at f1
  rw [cellsSt] at f2 f3
  rw [cellsKs] at f4
  rw [cellsVs] at f5
  obtain ⟨k, e0, -, hw⟩ := DataW.trod_int Tryd.underlying3 (show DataW.trod enc Tryd.prog w base spare held n 3 [c0] = some y0 from f0)
  obtain ⟨b, e1, -⟩ := DataW.trod_bool Tryd.underlying4 (show DataW.trod enc Tryd.prog w base spare held n 4 [c1] = some y1 from f1)
  obtain ⟨r, e2, g2, -⟩ := DataW.trod_string Tryd.underlying9 (show DataW.trod enc Tryd.prog w base spare held n 9 [c2] = some y2 from f2)
  obtain ⟨t, e3, g3, -⟩ := DataW.trod_string Tryd.underlying9 (show DataW.trod enc Tryd.prog w base spare held n 9 [c3] = some y3 from f3)
  have hz2 : Rows.uptoBulk y2.1 = r.size + 1 := by rw [g2]; simp only [Rows.uptoBulk, Array.length_toList]; rfl
  have hz3 : Rows.uptoBulk y3.1 = t.size + 1 := by rw [g3]; simp only [Rows.uptoBulk, Array.length_toList]; rfl
  obtain ⟨ko, kc, ks, rfl, hz4, hks⟩ := open_ku (show DataW.trod enc Tryd.prog w base spare held n 22 [c4] = some y4 from f4) (by omega)
  have hkl := blkK_len ks
  simp only [List.cons.injEq, and_true] at e0 e1 e2 e3
  subst e0 e1 e2 e3
  rcases DataW.trod_slice Tryd.underlying33 (show DataW.trod enc Tryd.prog w base spare held n 33 [c5] = some y5 from f5) with ⟨hcs, _⟩ | ⟨a, len, cap, elems, rest, m, rfl, hcs, hx5, hb, hlc, hm, hlen, hel, -, -⟩
  ·simp only [List.cons.injEq, and_true] at hcs
   subst hcs
   refine ⟨_, .mk k b r t ks [] ko kc none 0 (fun _ => #[]) hw ⟨by omega, by omega, by omega, Nat.zero_le _⟩ hks (fun i hi => by simp at hi) (fun i u hu => by simp at hu), ?_⟩
   unfold blkV blkL
   omega
  ·simp only [List.cons.injEq, and_true] at hcs
   subst hcs
   have hz5 : Rows.uptoBulkAll (elems.map (·.1)) < Rows.uptoBulk y5.1 := by
    rw [congrArg Prod.fst hx5]
    simp only [Rows.uptoBulk]
    omega
   have hle : ∀ k, k < elems.length → Rows.uptoBulkAll ((elems.take (k + 1)).map (·.1)) ≤ Rows.uptoBulkAll (elems.map (·.1)) := by
    have gen : ∀ (l : List (DataW H)) (k : Nat), Rows.uptoBulkAll (l.take k) ≤ Rows.uptoBulkAll l := by
     intro l
     induction l with
     | nil => intro k; simp
     | cons a l ih =>
      intro k
      cases k with
      | zero => simp [Rows.uptoBulkAll]
      | succ k => have := ih k; simp only [List.take_succ_cons, Rows.uptoBulkAll]; omega
    intro k _
    rw [List.map_take]
    exact gen _ _
   have each : ∀ i (hi : i < elems.length), ∃ (cs : List Value) (u : Vt), w.cells? base (a.add (i * 6)) 6 = some cs ∧ cs.length = 6 ∧ ValAt w u (.agg cs.toArray) ∧ blkV u ≤ Rows.uptoBulk (elems[i]'hi).1 := by
    intro i hi
    have h := hel i (by omega)
    rw [cellsVl, List.getElem?_eq_getElem hi, Option.bind_eq_some_iff] at h
    obtain ⟨cs, h1, h2⟩ := h
    have hbb : Rows.uptoBulk (elems[i]'hi).1 ≤ capT := by
     have := hle i hi
     rw [List.take_add_one, List.getElem?_eq_getElem hi, Option.toList_some, List.map_append, List.map_cons, List.map_nil, bulk_snoc] at this
     omega
    obtain ⟨h3, u, h4, h5⟩ := ih m (by omega) h2 hbb
    exact ⟨cs, u, h1, h3, h4, h5⟩
   have key : ∀ q, q ≤ elems.length → ∃ (L : List Vt) (X : Nat → Array Value), L.length = q ∧ blkL L ≤ Rows.uptoBulkAll ((elems.take q).map (·.1)) ∧ ∀ (i : Nat) (u : Vt), L[i]? = some u → w.cells? base (a.add (i * 6)) 6 = some (X i).toList ∧ (X i).size = 6 ∧ ValAt w u (.agg (X i)) := by
    intro q
    induction q with
    | zero => exact fun _ => ⟨[], fun _ => #[], rfl, by simp [blkL], fun i o h => by simp at h⟩
    | succ q ihq =>
     intro hq
     obtain ⟨L, X, hL, hbl, hall⟩ := ihq (by omega)
     obtain ⟨cs, u, h1, h2, h3, h4⟩ := each q (by omega)
     refine ⟨L ++ [u], fun i => if i = q then cs.toArray else X i, by simp [hL], ?_, fun i o' h => ?_⟩
     ·rw [blkL_snoc, List.take_add_one, List.getElem?_eq_getElem (by omega), Option.toList_some, List.map_append, List.map_cons, List.map_nil, bulk_snoc]
      omega
     ·by_cases hi : i < q
      ·rw [List.getElem?_append_left (by omega)] at h
       dsimp only
       rw [if_neg (by omega)]
       exact hall i o' h
      ·have hi2 := (List.getElem?_eq_some_iff.1 h).1
       rw [List.length_append, List.length_cons, List.length_nil] at hi2
       obtain rfl : i = q := by omega
       rw [List.getElem?_append_right (by omega), hL] at h
       simp at h
       subst h
       dsimp only
       rw [if_pos rfl]
       exact ⟨by simpa using h1, by simpa using h2, h3⟩
   obtain ⟨L, X, hL, hbl, hall⟩ := key elems.length (Nat.le_refl _)
   rw [List.take_length] at hbl
   have hvl := blkL_len L
   refine ⟨.mk k b r t ks L, ?_, by unfold blkV; omega⟩
   rw [← hlen, ← hL]
   refine .mk k b r t ks L ko kc (some a) cap X hw ⟨by omega, by omega, by omega, by omega⟩ hks (fun i hi => ?_) (fun i u hu => (hall i u hu).2.2)
   obtain ⟨u, hu⟩ : ∃ u, L[i]? = some u := ⟨_, List.getElem?_eq_getElem hi⟩
   obtain ⟨g1, g2, -⟩ := hall i u hu
   refine ⟨g2, ?_⟩
   have hc := World.cells?_some g1
   obtain ⟨bk, off, spot⟩ := a
   have hspot : spot = none := by
    obtain ⟨o0, ho0⟩ : ∃ o0, L[0]? = some o0 := ⟨_, List.getElem?_eq_getElem (by omega)⟩
    have hq := (World.cells?_some (hall 0 o0 ho0).1).2.2 0 (by decide)
    rw [List.getElem?_eq_getElem (by rw [Array.length_toList, (hall 0 o0 ho0).2.1]; decide)] at hq
    have := World.cell?_spot hq
    simpa [Addr.add] using this
   subst hspot
   have e : ∀ j, ((⟨bk, off, none⟩ : Addr).add (i * 6)).add j = ⟨bk, off + i * 6 + j, none⟩ := by
    intro j
    by_cases h : i * 6 = 0 <;> by_cases h' : j = 0 <;> simp [Addr.add, h, h']
   have hcell : ∀ j, j < 6 → w.cell? ⟨bk, off + i * 6 + j, none⟩ = (X i)[j]? := fun j hj => by
    have h2 := hc.2.2 j hj
    rw [e] at h2
    rw [h2, Array.getElem?_eq_getElem (by omega)]
    simp
   refine ⟨bk, off, rfl, ?_, hcell⟩
   have h0 := hcell 0 (by decide)
   rw [Array.getElem?_eq_getElem (by omega)] at h0
   exact cell_ltT h0
/-- A value that comes in. -/
theorem open_valueU {r : Reach} {b0 : Nat} {v : Value} {d : DataW H} {ps : List MemPlace} (hval : Value.okWide Tryd.prog w r b0 35 v) (hd : DataW.Trod enc Tryd.prog w base spare held 35 v d ps) (hwt : Rows.uptoBulk d ≤ 1048576) : ∃ t, ValAt w t v ∧ blkV t ≤ 1048576 := by
 obtain ⟨cs, rfl, hs⟩ := okWide_strctT Tryd.underlying35 hval
 obtain ⟨fuel, hf⟩ := hd
 obtain ⟨-, t, ht, hb⟩ := open_vu fuel hf (by show Rows.uptoBulk d ≤ _; unfold capT; omega)
 exact ⟨t, by simpa [Value.cells] using ht, Nat.le_trans hb hwt⟩
end
end Go.Proofs.YtjlcliicdclooaaDoor
