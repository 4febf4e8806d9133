/-
 A value that comes in, whose lists of names are no longer than their room (by gen_rwo.py, out of TrAA).
-/
import Derived.Test.YtlhbgfhmcjaabaaGreatDoorPack3
namespace Go.Proofs.YtlhbgfhmcjaabaaGreatDoor
open Go.ChangeShapes Go.WideShapes Go.ChangeAt Go.RowKit
set_option maxRecDepth 100000
/-- A value in memory; its names are no more than they have room. -/
inductive ValC (w : World) : Vt → Value → Prop
 | mk (k : Int) (b : Bool) (r t : ByteArray) (ks : List ByteArray) (vs : List Vt) (ko : Option Addr) (kc : Nat) (vo : Option Addr) (vc : Nat) (X : Nat → Array Value)
   (hw : (Lit.int .i64 k).wf = true) (hz : r.size ≤ capT ∧ t.size ≤ capT ∧ ks.length ≤ capT ∧ vs.length ≤ capT) (hc : ks.length ≤ kc) (hk : KeysAt w ko ks) (hr : RowAt w vo vs.length X) (hv : ∀ (i : Nat) (u : Vt), vs[i]? = some u → ValC w u (.agg (X i))) :
   ValC w (.mk k b r t ks vs) (.agg #[.int .i64 k, .bool b, .string r, .string t, .slice ko ks.length kc, .slice vo vs.length vc])
theorem ValC.kept {w w' : World} {t : Vt} {v : Value} (h : ValC w t v) (hb : Below w.heap.size w w') : ValC w' t v := by
 induction h with
 | mk k b r t ks vs ko kc vo vc X hw hz hc hk hr hv ih => exact .mk k b r t ks vs ko kc vo vc X hw hz hc (hk.kept hb) (hr.kept hb) ih
theorem ValC.at {w : World} {t : Vt} {v : Value} (h : ValC w t v) : ValAt w t v := by
 induction h with
 | mk k b r t ks vs ko kc vo vc X hw hz hc hk hr hv ih => exact .mk k b r t ks vs ko kc vo vc X hw hz hk hr ih
section
variable {H : Type} {enc : TypeId × Value → H} {w : World} {base : Nat} {spare : Nat → Bool} {held : Bool}
/-- A list of texts that comes in. -/
theorem open_keysC {fuel : Nat} {v : Value} {x : DataW H × List MemPlace} (hf : DataW.trod enc Tryz.prog w base spare held fuel 22 [v] = some x) (hwt : ∀ m ∈ x.1.weights Tryz.prog 22, m ≤ reachBytes) :
  ∃ (ao : Option Addr) (cap : Nat) (ks : List ByteArray), v = .slice ao ks.length cap ∧ ks.length ≤ capT ∧ KeysAt w ao ks ∧ ks.length ≤ cap := by
 rcases DataW.trod_slice Tryz.underlying22 hf with ⟨hcs, _⟩ | ⟨a, len, cap, elems, rest, n, _, hcs, hx, hb, hl, hm, hlen, hel, -, -⟩
 ·simp at hcs
  subst hcs
  exact ⟨none, 0, [], rfl, Nat.zero_le _, fun i o h => by simp at h, Nat.le_refl _⟩
 ·simp at hcs
  subst hcs
  rw [congrArg Prod.fst hx] at hwt
  simp only [DataW.weights, Tryz.underlying22] at hwt
  have hlc : len ≤ capT := by
   have h := hwt _ (List.mem_cons_self ..)
   rw [show Tryz.prog.bytesOf 9 = 16 by kernel_rfl] at h
   simp only [List.length_map] at h
   unfold reachBytes at h
   unfold capT
   omega
  have each : ∀ i, i < len → ∃ s : ByteArray, w.cells? base (a.add i) 1 = some [.string s] ∧ s.size ≤ capT := by
   intro i hi
   have h := hel i hi
   rw [cellsSt, Nat.mul_one, List.getElem?_eq_getElem (by omega), Option.bind_eq_some_iff] at h
   obtain ⟨cs, h1, h2⟩ := h
   obtain ⟨s, rfl, hy, -⟩ := DataW.trod_string Tryz.underlying9 h2
   refine ⟨s, h1, ?_⟩
   have hmem : (elems[i]'(by omega)).1 ∈ elems.map (·.1) := List.mem_map_of_mem (List.getElem_mem _)
   have h3 := hwt s.size (List.mem_cons_of_mem _ (List.mem_append_left _ (weights_all hmem (by
    rw [hy]
    simp only [DataW.weights, List.mem_singleton, Array.length_toList]
    rfl))))
   exact h3
  have key : ∀ k, k ≤ len → ∃ L : List ByteArray, L.length = k ∧ ∀ (i : Nat) (s : ByteArray), L[i]? = some s → w.cells? base (a.add i) 1 = some [.string s] ∧ s.size ≤ capT := by
   intro k
   induction k with
   | zero => exact fun _ => ⟨[], rfl, fun i o h => by simp at h⟩
   | succ k ih =>
    intro hk
    obtain ⟨L, hL, hall⟩ := ih (by omega)
    obtain ⟨s, hs⟩ := each k (by omega)
    refine ⟨L ++ [s], by simp [hL], fun i o' h => ?_⟩
    by_cases hi : i < k
    ·rw [List.getElem?_append_left (by omega)] at h
     exact hall i o' h
    ·have hi2 := (List.getElem?_eq_some_iff.1 h).1
     rw [List.length_append, List.length_cons, List.length_nil] at hi2
     obtain rfl : i = k := by omega
     rw [List.getElem?_append_right (by omega), hL] at h
     simp at h
     subst h
     exact hs
  obtain ⟨L, hL, hall⟩ := key len (Nat.le_refl _)
  refine ⟨some a, cap, L, by rw [hL], by rw [hL]; exact hlc, fun i s hi => ?_, by rw [hL]; exact hl⟩
  have c0 := (World.cells?_some (hall i s hi).1).2.2 0 (by decide)
  obtain ⟨b, off, spot⟩ := a
  have hspot : spot = none := by
   have hi2 := (List.getElem?_eq_some_iff.1 hi).1
   obtain ⟨o0, ho0⟩ : ∃ o0, L[0]? = some o0 := ⟨_, List.getElem?_eq_getElem (by omega)⟩
   have := World.cell?_spot ((World.cells?_some (hall 0 o0 ho0).1).2.2 0 (by decide))
   simpa [Addr.add] using this
  subst hspot
  have e : ((⟨b, off, none⟩ : Addr).add i).add 0 = ⟨b, off + i, none⟩ := by by_cases h : i = 0 <;> simp [Addr.add, h]
  rw [e] at c0
  exact ⟨(hall i s hi).2, b, off, rfl, cell_ltT c0, c0⟩
/-- A value that comes in, as six cells. -/
theorem open_vtC : ∀ (fuel : Nat) {cs : List Value} {x : DataW H × List MemPlace}, DataW.trod enc Tryz.prog w base spare held fuel 25 cs = some x → (∀ m ∈ x.1.weights Tryz.prog 25, m ≤ reachBytes) → cs.length = 6 ∧ ∃ t, ValC w t (.agg cs.toArray) := by
 intro fuel
 induction fuel using Nat.strongRecOn with
 | ind fuel ih =>
  intro cs x h hwt
  obtain ⟨xs, n, rfl, hx, hl, hxs, hf⟩ := DataW.trod_struct Tryz.underlying25 h
  rw [cellsVl] at hl
  refine ⟨hl, ?_⟩
  obtain ⟨c0, c1, c2, c3, c4, c5, rfl⟩ : ∃ a b c d e f, cs = [a, b, c, d, e, f] := by
   match cs, hl with
   | [a, b, c, d, e, f], _ => exact ⟨a, b, c, d, e, f, rfl⟩
  have hxs2 : xs.length = 6 := hxs
  obtain ⟨y0, y1, y2, y3, y4, y5, rfl⟩ : ∃ a b c d e f, xs = [a, b, c, d, e, f] := by
   match xs, hxs2 with
   | [a, b, c, d, e, f], _ => exact ⟨a, b, c, d, e, f, rfl⟩
  rw [congrArg Prod.fst hx] at hwt
  simp only [DataW.weights, Tryz.underlying25] at hwt
  have hw2 : ∀ m ∈ y2.1.weights Tryz.prog 9, m ≤ reachBytes := fun m hm => hwt m (DataW.weights_mem_each (j := 2) rfl rfl m hm)
  have hw3 : ∀ m ∈ y3.1.weights Tryz.prog 9, m ≤ reachBytes := fun m hm => hwt m (DataW.weights_mem_each (j := 3) rfl rfl m hm)
  have hw4 : ∀ m ∈ y4.1.weights Tryz.prog 22, m ≤ reachBytes := fun m hm => hwt m (DataW.weights_mem_each (j := 4) rfl rfl m hm)
  have hw5 : ∀ m ∈ y5.1.weights Tryz.prog 23, m ≤ reachBytes := fun m hm => hwt m (DataW.weights_mem_each (j := 5) rfl rfl m hm)
  have f0 : DataW.trod enc Tryz.prog w base spare held n 3 ((([c0, c1, c2, c3, c4, c5] : List Value).drop 0).take (Tryz.prog.cellsOf 3)) = some y0 := hf 0 _ rfl
  have f1 : DataW.trod enc Tryz.prog w base spare held n 4 ((([c0, c1, c2, c3, c4, c5] : List Value).drop 1).take (Tryz.prog.cellsOf 4)) = some y1 := hf 1 _ rfl
  have f2 : DataW.trod enc Tryz.prog w base spare held n 9 ((([c0, c1, c2, c3, c4, c5] : List Value).drop 2).take (Tryz.prog.cellsOf 9)) = some y2 := hf 2 _ rfl
  have f3 : DataW.trod enc Tryz.prog w base spare held n 9 ((([c0, c1, c2, c3, c4, c5] : List Value).drop 3).take (Tryz.prog.cellsOf 9)) = some y3 := hf 3 _ rfl
  have f4 : DataW.trod enc Tryz.prog w base spare held n 22 ((([c0, c1, c2, c3, c4, c5] : List Value).drop 4).take (Tryz.prog.cellsOf 22)) = some y4 := hf 4 _ rfl
  have f5 : DataW.trod enc Tryz.prog w base spare held n 23 ((([c0, c1, c2, c3, c4, c5] : List Value).drop 5).take (Tryz.prog.cellsOf 23)) = some y5 := hf 5 _ rfl
  rw [show Tryz.prog.cellsOf 3 = 1 by kernel_rfl] at f0
  rw [show Tryz.prog.cellsOf 4 = 1 by kernel_rfl] at f1
  rw [cellsSt] at f2 f3
  rw [cellsKs] at f4
  rw [cellsVs] at f5
  obtain ⟨k, e0, -, hw⟩ := DataW.trod_int Tryz.underlying3 (show DataW.trod enc Tryz.prog w base spare held n 3 [c0] = some y0 from f0)
  obtain ⟨b, e1, -⟩ := DataW.trod_bool Tryz.underlying4 (show DataW.trod enc Tryz.prog w base spare held n 4 [c1] = some y1 from f1)
  obtain ⟨r, e2, g2, -⟩ := DataW.trod_string Tryz.underlying9 (show DataW.trod enc Tryz.prog w base spare held n 9 [c2] = some y2 from f2)
  obtain ⟨t, e3, g3, -⟩ := DataW.trod_string Tryz.underlying9 (show DataW.trod enc Tryz.prog w base spare held n 9 [c3] = some y3 from f3)
  have hz2 : r.size ≤ capT := hw2 r.size (by rw [g2]; simp only [DataW.weights, List.mem_singleton, Array.length_toList]; rfl)
  have hz3 : t.size ≤ capT := hw3 t.size (by rw [g3]; simp only [DataW.weights, List.mem_singleton, Array.length_toList]; rfl)
  obtain ⟨ko, kc, ks, rfl, hz4, hks, hkc⟩ := open_keysC (show DataW.trod enc Tryz.prog w base spare held n 22 [c4] = some y4 from f4) hw4
  simp only [List.cons.injEq, and_true] at e0 e1 e2 e3
  subst e0 e1 e2 e3
  rcases DataW.trod_slice Tryz.underlying23 (show DataW.trod enc Tryz.prog w base spare held n 23 [c5] = some y5 from f5) with ⟨hcs, _⟩ | ⟨a, len, cap, elems, rest, m, rfl, hcs, hx5, hb, hlc, hm, hlen, hel, -, -⟩
  ·simp only [List.cons.injEq, and_true] at hcs
   subst hcs
   exact ⟨_, .mk k b r t ks [] ko kc none 0 (fun _ => #[]) hw ⟨hz2, hz3, hz4, Nat.zero_le _⟩ hkc hks (fun i hi => by simp at hi) (fun i u hu => by simp at hu)⟩
  ·simp only [List.cons.injEq, and_true] at hcs
   subst hcs
   rw [congrArg Prod.fst hx5] at hw5
   simp only [DataW.weights, Tryz.underlying23] at hw5
   have hlc2 : len ≤ capT := by
    have h := hw5 _ (List.mem_cons_self ..)
    have hby : 1 ≤ Tryz.prog.bytesOf 25 := by decide +kernel
    simp only [List.length_map] at h
    have h2 := Nat.le_mul_of_pos_right (elems.length + rest.length) hby
    unfold reachBytes at h
    unfold capT
    omega
   have each : ∀ i, i < len → ∃ (cs : List Value) (u : Vt), w.cells? base (a.add (i * 6)) 6 = some cs ∧ cs.length = 6 ∧ ValC w u (.agg cs.toArray) := by
    intro i hi
    have h := hel i hi
    rw [cellsVl, List.getElem?_eq_getElem (by omega), Option.bind_eq_some_iff] at h
    obtain ⟨cs, h1, h2⟩ := h
    obtain ⟨h3, u, h4⟩ := ih m (by omega) h2 (fun q hq => hw5 q (List.mem_cons_of_mem _ (List.mem_append_left _ (weights_all (List.mem_map_of_mem (List.getElem_mem _)) hq))))
    exact ⟨cs, u, h1, h3, h4⟩
   have key : ∀ q, q ≤ len → ∃ (L : List Vt) (X : Nat → Array Value), L.length = q ∧ ∀ (i : Nat) (u : Vt), L[i]? = some u → w.cells? base (a.add (i * 6)) 6 = some (X i).toList ∧ (X i).size = 6 ∧ ValC w u (.agg (X i)) := by
    intro q
    induction q with
    | zero => exact fun _ => ⟨[], fun _ => #[], rfl, fun i o h => by simp at h⟩
    | succ q ihq =>
     intro hq
     obtain ⟨L, X, hL, hall⟩ := ihq (by omega)
     obtain ⟨cs, u, h1, h2, h3⟩ := each q (by omega)
     refine ⟨L ++ [u], fun i => if i = q then cs.toArray else X i, by simp [hL], fun i o' h => ?_⟩
     by_cases hi : i < q
     ·rw [List.getElem?_append_left (by omega)] at h
      dsimp only
      rw [if_neg (by omega)]
      exact hall i o' h
     ·have hi2 := (List.getElem?_eq_some_iff.1 h).1
      rw [List.length_append, List.length_cons, List.length_nil] at hi2
      obtain rfl : i = q := by omega
      rw [List.getElem?_append_right (by omega), hL] at h
      simp at h
      subst h
      dsimp only
      rw [if_pos rfl]
      exact ⟨by simpa using h1, by simpa using h2, h3⟩
   obtain ⟨L, X, hL, hall⟩ := key len (Nat.le_refl _)
   refine ⟨.mk k b r t ks L, ?_⟩
   rw [← hL]
   refine .mk k b r t ks L ko kc (some a) cap X hw ⟨hz2, hz3, hz4, by rw [hL]; exact hlc2⟩ hkc hks (fun i hi => ?_) (fun i u hu => (hall i u hu).2.2)
   obtain ⟨u, hu⟩ : ∃ u, L[i]? = some u := ⟨_, List.getElem?_eq_getElem hi⟩
   obtain ⟨g1, g2, -⟩ := hall i u hu
   refine ⟨g2, ?_⟩
   have hc := World.cells?_some g1
   obtain ⟨bk, off, spot⟩ := a
   have hspot : spot = none := by
    obtain ⟨o0, ho0⟩ : ∃ o0, L[0]? = some o0 := ⟨_, List.getElem?_eq_getElem (by omega)⟩
    have hq := (World.cells?_some (hall 0 o0 ho0).1).2.2 0 (by decide)
    rw [List.getElem?_eq_getElem (by rw [Array.length_toList, (hall 0 o0 ho0).2.1]; decide)] at hq
    have := World.cell?_spot hq
    simpa [Addr.add] using this
   subst hspot
   have e : ∀ j, ((⟨bk, off, none⟩ : Addr).add (i * 6)).add j = ⟨bk, off + i * 6 + j, none⟩ := by
    intro j
    by_cases h : i * 6 = 0 <;> by_cases h' : j = 0 <;> simp [Addr.add, h, h']
   have hcell : ∀ j, j < 6 → w.cell? ⟨bk, off + i * 6 + j, none⟩ = (X i)[j]? := fun j hj => by
    have h2 := hc.2.2 j hj
    rw [e] at h2
    rw [h2, Array.getElem?_eq_getElem (by omega)]
    simp
   refine ⟨bk, off, rfl, ?_, hcell⟩
   have h0 := hcell 0 (by decide)
   rw [Array.getElem?_eq_getElem (by omega)] at h0
   exact cell_ltT h0
theorem open_valueC {r : Reach} {b0 : Nat} {v : Value} {d : DataW H} {ps : List MemPlace} (hval : Value.okWide Tryz.prog w r b0 25 v) (hd : DataW.Trod enc Tryz.prog w base spare held 25 v d ps) (hwt : ∀ m ∈ d.weights Tryz.prog 25, m ≤ reachBytes) : ∃ t, ValC w t v := by
 obtain ⟨cs, rfl, hs⟩ := okWide_strctT Tryz.underlying25 hval
 obtain ⟨fuel, hf⟩ := hd
 obtain ⟨-, t, ht⟩ := open_vtC fuel hf hwt
 exact ⟨t, by simpa [Value.cells] using ht⟩
end
end Go.Proofs.YtlhbgfhmcjaabaaGreatDoor
