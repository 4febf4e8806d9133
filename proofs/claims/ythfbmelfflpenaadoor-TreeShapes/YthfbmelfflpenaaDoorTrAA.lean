/-
  TrA, TrB, TrC, one behind the other.
-/
import Derived.Test.YthfbmelfflpenaaDoorKitA
import Derived.Test.YthfbmelfflpenaaDoorRows
import Derived.ChangeSlices
import Derived.SizedLaws
import Derived.Lib.Strings
import Derived.BigQuiet
/- Values as trees, and how they lie in memory; a value that comes in. -/
namespace Go.Proofs.YthfbmelfflpenaaDoor
open Go.ChangeShapes Go.WideShapes Go.ChangeAt Go.RowKit
set_option maxRecDepth 100000

/-- A value: its kind, its truth, its number's text, its text, its names, its kids. -/
inductive Vt where
  | mk (kind : Int) (b : Bool) (raw text : ByteArray) (keys : List ByteArray) (kids : List Vt)
def Vt.kind : Vt → Int | .mk k _ _ _ _ _ => k
def Vt.b : Vt → Bool | .mk _ b _ _ _ _ => b
def Vt.raw : Vt → ByteArray | .mk _ _ r _ _ _ => r
def Vt.text : Vt → ByteArray | .mk _ _ _ t _ _ => t
def Vt.keys : Vt → List ByteArray | .mk _ _ _ _ ks _ => ks
def Vt.kids : Vt → List Vt | .mk _ _ _ _ _ vs => vs
/-- No text and no list is longer than that (the form's own reach). -/
def capT : Nat := 140737488351232
/-- A list of texts in memory. -/
def KeysAt (w : World) (ao : Option Addr) (ks : List ByteArray) : Prop := ∀ (i : Nat) (s : ByteArray), ks[i]? = some s → s.size ≤ capT ∧ ∃ b off, ao = some ⟨b, off, none⟩ ∧ b < w.heap.size ∧ w.cell? ⟨b, off + i, none⟩ = some (.string s)
/-- A list of values in memory, six cells each. -/
def RowAt (w : World) (ao : Option Addr) (n : Nat) (X : Nat → Array Value) : Prop := ∀ i, i < n → (X i).size = 6 ∧ ∃ b off, ao = some ⟨b, off, none⟩ ∧ b < w.heap.size ∧ ∀ j, j < 6 → w.cell? ⟨b, off + i * 6 + j, none⟩ = (X i)[j]?
/-- A value in memory. -/
inductive ValAt (w : World) : Vt → Value → Prop
  | mk (k : Int) (b : Bool) (r t : ByteArray) (ks : List ByteArray) (vs : List Vt) (ko : Option Addr) (kc : Nat) (vo : Option Addr) (vc : Nat) (X : Nat → Array Value)
      (hw : (Lit.int .i64 k).wf = true) (hz : r.size ≤ capT ∧ t.size ≤ capT ∧ ks.length ≤ capT ∧ vs.length ≤ capT) (hk : KeysAt w ko ks) (hr : RowAt w vo vs.length X) (hv : ∀ (i : Nat) (u : Vt), vs[i]? = some u → ValAt w u (.agg (X i))) :
      ValAt w (.mk k b r t ks vs) (.agg #[.int .i64 k, .bool b, .string r, .string t, .slice ko ks.length kc, .slice vo vs.length vc])
theorem KeysAt.kept {w w' : World} {ao : Option Addr} {ks : List ByteArray} (h : KeysAt w ao ks) (hb : Below w.heap.size w w') : KeysAt w' ao ks := fun i s hi => by
  obtain ⟨h0, b, off, h1, h2, h3⟩ := h i s hi
  exact ⟨h0, b, off, h1, Nat.lt_of_lt_of_le h2 hb.size, (hb.cell (p := ⟨b, off + i, none⟩) h2).trans h3⟩
theorem RowAt.kept {w w' : World} {ao : Option Addr} {n : Nat} {X : Nat → Array Value} (h : RowAt w ao n X) (hb : Below w.heap.size w w') : RowAt w' ao n X := fun i hi => by
  obtain ⟨h0, b, off, h1, h2, h3⟩ := h i hi
  exact ⟨h0, b, off, h1, Nat.lt_of_lt_of_le h2 hb.size, fun j hj => (hb.cell (p := ⟨b, off + i * 6 + j, none⟩) h2).trans (h3 j hj)⟩
theorem ValAt.kept {w w' : World} {t : Vt} {v : Value} (h : ValAt w t v) (hb : Below w.heap.size w w') : ValAt w' t v := by
  induction h with
  | mk k b r t ks vs ko kc vo vc X hw hz hk hr hv ih => exact .mk k b r t ks vs ko kc vo vc X hw hz (hk.kept hb) (hr.kept hb) ih
section
variable {H : Type} {enc : TypeId × Value → H} {w : World} {base : Nat} {spare : Nat → Bool} {held : Bool}
theorem cellsVl : Tryd.prog.cellsOf 25 = 6 := by kernel_rfl
theorem cellsVs : Tryd.prog.cellsOf 23 = 1 := by kernel_rfl
theorem cellsKs : Tryd.prog.cellsOf 22 = 1 := by kernel_rfl
theorem cellsSt : Tryd.prog.cellsOf 9 = 1 := by kernel_rfl
theorem cell_ltT {w : World} {a : Addr} {v : Value} (h : w.cell? a = some v) : a.block < w.heap.size := by
  unfold World.cell? at h
  cases ho : w.heap[a.block]? with
  | none => simp [ho] at h
  | some o => exact (Array.getElem?_eq_some_iff.1 ho).1
theorem weights_all {H : Type} {P : Program} {e : TypeId} : ∀ {ds : List (DataW H)} {d : DataW H} {m : Nat}, d ∈ ds → m ∈ d.weights P e → m ∈ DataW.weightsAll P e ds
  | d0 :: ds, d, m, hd, hm => by
    simp only [DataW.weightsAll, List.mem_append]
    rcases List.mem_cons.1 hd with rfl | hd
    · exact .inl hm
    · exact .inr (weights_all hd hm)
  | [], _, _, hd, _ => by simp at hd
/-- A list of texts that comes in. -/
theorem open_keys {fuel : Nat} {v : Value} {x : DataW H × List MemPlace} (hf : DataW.trod enc Tryd.prog w base spare held fuel 22 [v] = some x) (hwt : ∀ m ∈ x.1.weights Tryd.prog 22, m ≤ reachBytes) :
    ∃ (ao : Option Addr) (cap : Nat) (ks : List ByteArray), v = .slice ao ks.length cap ∧ ks.length ≤ capT ∧ KeysAt w ao ks := by
  rcases DataW.trod_slice Tryd.underlying22 hf with ⟨hcs, _⟩ | ⟨a, len, cap, elems, rest, n, _, hcs, hx, hb, hl, hm, hlen, hel, -, -⟩
  · simp at hcs
    subst hcs
    exact ⟨none, 0, [], rfl, Nat.zero_le _, fun i o h => by simp at h⟩
  · simp at hcs
    subst hcs
    rw [congrArg Prod.fst hx] at hwt
    simp only [DataW.weights, Tryd.underlying22] at hwt
    have hlc : len ≤ capT := by
      have h := hwt _ (List.mem_cons_self ..)
      rw [show Tryd.prog.bytesOf 9 = 16 by kernel_rfl] at h
      simp only [List.length_map] at h
      unfold reachBytes at h
      unfold capT
      omega
    have each : ∀ i, i < len → ∃ s : ByteArray, w.cells? base (a.add i) 1 = some [.string s] ∧ s.size ≤ capT := by
      intro i hi
      have h := hel i hi
      rw [cellsSt, Nat.mul_one, List.getElem?_eq_getElem (by omega), Option.bind_eq_some_iff] at h
      obtain ⟨cs, h1, h2⟩ := h
      obtain ⟨s, rfl, hy, -⟩ := DataW.trod_string Tryd.underlying9 h2
      refine ⟨s, h1, ?_⟩
      have hmem : (elems[i]'(by omega)).1 ∈ elems.map (·.1) := List.mem_map_of_mem (List.getElem_mem _)
      have h3 := hwt s.size (List.mem_cons_of_mem _ (List.mem_append_left _ (weights_all hmem (by
        rw [hy]
        simp only [DataW.weights, List.mem_singleton, Array.length_toList]
        rfl))))
      exact h3
    have key : ∀ k, k ≤ len → ∃ L : List ByteArray, L.length = k ∧ ∀ (i : Nat) (s : ByteArray), L[i]? = some s → w.cells? base (a.add i) 1 = some [.string s] ∧ s.size ≤ capT := by
      intro k
      induction k with
      | zero => exact fun _ => ⟨[], rfl, fun i o h => by simp at h⟩
      | succ k ih =>
        intro hk
        obtain ⟨L, hL, hall⟩ := ih (by omega)
        obtain ⟨s, hs⟩ := each k (by omega)
        refine ⟨L ++ [s], by simp [hL], fun i o' h => ?_⟩
        by_cases hi : i < k
        · rw [List.getElem?_append_left (by omega)] at h
          exact hall i o' h
        · have hi2 := (List.getElem?_eq_some_iff.1 h).1
          rw [List.length_append, List.length_cons, List.length_nil] at hi2
          obtain rfl : i = k := by omega
          rw [List.getElem?_append_right (by omega), hL] at h
          simp at h
          subst h
          exact hs
    obtain ⟨L, hL, hall⟩ := key len (Nat.le_refl _)
    refine ⟨some a, cap, L, by rw [hL], by rw [hL]; exact hlc, fun i s hi => ?_⟩
    have c0 := (World.cells?_some (hall i s hi).1).2.2 0 (by decide)
    obtain ⟨b, off, spot⟩ := a
    have hspot : spot = none := by
      have hi2 := (List.getElem?_eq_some_iff.1 hi).1
      obtain ⟨o0, ho0⟩ : ∃ o0, L[0]? = some o0 := ⟨_, List.getElem?_eq_getElem (by omega)⟩
      have := World.cell?_spot ((World.cells?_some (hall 0 o0 ho0).1).2.2 0 (by decide))
      simpa [Addr.add] using this
    subst hspot
    have e : ((⟨b, off, none⟩ : Addr).add i).add 0 = ⟨b, off + i, none⟩ := by by_cases h : i = 0 <;> simp [Addr.add, h]
    rw [e] at c0
    exact ⟨(hall i s hi).2, b, off, rfl, cell_ltT c0, c0⟩
/-- A value that comes in, as six cells. -/
theorem open_vt : ∀ (fuel : Nat) {cs : List Value} {x : DataW H × List MemPlace}, DataW.trod enc Tryd.prog w base spare held fuel 25 cs = some x → (∀ m ∈ x.1.weights Tryd.prog 25, m ≤ reachBytes) → cs.length = 6 ∧ ∃ t, ValAt w t (.agg cs.toArray) := by
  intro fuel
  induction fuel using Nat.strongRecOn with
  | ind fuel ih =>
    intro cs x h hwt
    obtain ⟨xs, n, rfl, hx, hl, hxs, hf⟩ := DataW.trod_struct Tryd.underlying25 h
    rw [cellsVl] at hl
    refine ⟨hl, ?_⟩
    obtain ⟨c0, c1, c2, c3, c4, c5, rfl⟩ : ∃ a b c d e f, cs = [a, b, c, d, e, f] := by
      match cs, hl with
      | [a, b, c, d, e, f], _ => exact ⟨a, b, c, d, e, f, rfl⟩
    have hxs2 : xs.length = 6 := hxs
    obtain ⟨y0, y1, y2, y3, y4, y5, rfl⟩ : ∃ a b c d e f, xs = [a, b, c, d, e, f] := by
      match xs, hxs2 with
      | [a, b, c, d, e, f], _ => exact ⟨a, b, c, d, e, f, rfl⟩
    rw [congrArg Prod.fst hx] at hwt
    simp only [DataW.weights, Tryd.underlying25] at hwt
    have hw2 : ∀ m ∈ y2.1.weights Tryd.prog 9, m ≤ reachBytes := fun m hm => hwt m (DataW.weights_mem_each (j := 2) rfl rfl m hm)
    have hw3 : ∀ m ∈ y3.1.weights Tryd.prog 9, m ≤ reachBytes := fun m hm => hwt m (DataW.weights_mem_each (j := 3) rfl rfl m hm)
    have hw4 : ∀ m ∈ y4.1.weights Tryd.prog 22, m ≤ reachBytes := fun m hm => hwt m (DataW.weights_mem_each (j := 4) rfl rfl m hm)
    have hw5 : ∀ m ∈ y5.1.weights Tryd.prog 23, m ≤ reachBytes := fun m hm => hwt m (DataW.weights_mem_each (j := 5) rfl rfl m hm)
    have f0 : DataW.trod enc Tryd.prog w base spare held n 3 ((([c0, c1, c2, c3, c4, c5] : List Value).drop 0).take (Tryd.prog.cellsOf 3)) = some y0 := hf 0 _ rfl
    have f1 : DataW.trod enc Tryd.prog w base spare held n 4 ((([c0, c1, c2, c3, c4, c5] : List Value).drop 1).take (Tryd.prog.cellsOf 4)) = some y1 := hf 1 _ rfl
    have f2 : DataW.trod enc Tryd.prog w base spare held n 9 ((([c0, c1, c2, c3, c4, c5] : List Value).drop 2).take (Tryd.prog.cellsOf 9)) = some y2 := hf 2 _ rfl
    have f3 : DataW.trod enc Tryd.prog w base spare held n 9 ((([c0, c1, c2, c3, c4, c5] : List Value).drop 3).take (Tryd.prog.cellsOf 9)) = some y3 := hf 3 _ rfl
    have f4 : DataW.trod enc Tryd.prog w base spare held n 22 ((([c0, c1, c2, c3, c4, c5] : List Value).drop 4).take (Tryd.prog.cellsOf 22)) = some y4 := hf 4 _ rfl
    have f5 : DataW.trod enc Tryd.prog w base spare held n 23 ((([c0, c1, c2, c3, c4, c5] : List Value).drop 5).take (Tryd.prog.cellsOf 23)) = some y5 := hf 5 _ rfl
    rw [show Tryd.prog.cellsOf 3 = 1 by kernel_rfl] at f0
    rw [show Tryd.prog.cellsOf 4 = 1 by kernel_rfl] at f1
    rw [cellsSt] at f2 f3
    rw [cellsKs] at f4
    rw [cellsVs] at f5
    obtain ⟨k, e0, -, hw⟩ := DataW.trod_int Tryd.underlying3 (show DataW.trod enc Tryd.prog w base spare held n 3 [c0] = some y0 from f0)
    obtain ⟨b, e1, -⟩ := DataW.trod_bool Tryd.underlying4 (show DataW.trod enc Tryd.prog w base spare held n 4 [c1] = some y1 from f1)
    obtain ⟨r, e2, g2, -⟩ := DataW.trod_string Tryd.underlying9 (show DataW.trod enc Tryd.prog w base spare held n 9 [c2] = some y2 from f2)
    obtain ⟨t, e3, g3, -⟩ := DataW.trod_string Tryd.underlying9 (show DataW.trod enc Tryd.prog w base spare held n 9 [c3] = some y3 from f3)
    have hz2 : r.size ≤ capT := hw2 r.size (by rw [g2]; simp only [DataW.weights, List.mem_singleton, Array.length_toList]; rfl)
    have hz3 : t.size ≤ capT := hw3 t.size (by rw [g3]; simp only [DataW.weights, List.mem_singleton, Array.length_toList]; rfl)
    obtain ⟨ko, kc, ks, rfl, hz4, hks⟩ := open_keys (show DataW.trod enc Tryd.prog w base spare held n 22 [c4] = some y4 from f4) hw4
    simp only [List.cons.injEq, and_true] at e0 e1 e2 e3
    subst e0 e1 e2 e3
    rcases DataW.trod_slice Tryd.underlying23 (show DataW.trod enc Tryd.prog w base spare held n 23 [c5] = some y5 from f5) with ⟨hcs, _⟩ | ⟨a, len, cap, elems, rest, m, rfl, hcs, hx5, hb, hlc, hm, hlen, hel, -, -⟩
    · simp only [List.cons.injEq, and_true] at hcs
      subst hcs
      exact ⟨_, .mk k b r t ks [] ko kc none 0 (fun _ => #[]) hw ⟨hz2, hz3, hz4, Nat.zero_le _⟩ hks (fun i hi => by simp at hi) (fun i u hu => by simp at hu)⟩
    · simp only [List.cons.injEq, and_true] at hcs
      subst hcs
      rw [congrArg Prod.fst hx5] at hw5
      simp only [DataW.weights, Tryd.underlying23] at hw5
      have hlc2 : len ≤ capT := by
        have h := hw5 _ (List.mem_cons_self ..)
        have hby : 1 ≤ Tryd.prog.bytesOf 25 := by decide +kernel
        simp only [List.length_map] at h
        have h2 := Nat.le_mul_of_pos_right (elems.length + rest.length) hby
        unfold reachBytes at h
        unfold capT
        omega
      have each : ∀ i, i < len → ∃ (cs : List Value) (u : Vt), w.cells? base (a.add (i * 6)) 6 = some cs ∧ cs.length = 6 ∧ ValAt w u (.agg cs.toArray) := by
        intro i hi
        have h := hel i hi
        rw [cellsVl, List.getElem?_eq_getElem (by omega), Option.bind_eq_some_iff] at h
        obtain ⟨cs, h1, h2⟩ := h
        obtain ⟨h3, u, h4⟩ := ih m (by omega) h2 (fun q hq => hw5 q (List.mem_cons_of_mem _ (List.mem_append_left _ (weights_all (List.mem_map_of_mem (List.getElem_mem _)) hq))))
        exact ⟨cs, u, h1, h3, h4⟩
      have key : ∀ q, q ≤ len → ∃ (L : List Vt) (X : Nat → Array Value), L.length = q ∧ ∀ (i : Nat) (u : Vt), L[i]? = some u → w.cells? base (a.add (i * 6)) 6 = some (X i).toList ∧ (X i).size = 6 ∧ ValAt w u (.agg (X i)) := by
        intro q
        induction q with
        | zero => exact fun _ => ⟨[], fun _ => #[], rfl, fun i o h => by simp at h⟩
        | succ q ihq =>
          intro hq
          obtain ⟨L, X, hL, hall⟩ := ihq (by omega)
          obtain ⟨cs, u, h1, h2, h3⟩ := each q (by omega)
          refine ⟨L ++ [u], fun i => if i = q then cs.toArray else X i, by simp [hL], fun i o' h => ?_⟩
          by_cases hi : i < q
          · rw [List.getElem?_append_left (by omega)] at h
            dsimp only
            rw [if_neg (by omega)]
            exact hall i o' h
          · have hi2 := (List.getElem?_eq_some_iff.1 h).1
            rw [List.length_append, List.length_cons, List.length_nil] at hi2
            obtain rfl : i = q := by omega
            rw [List.getElem?_append_right (by omega), hL] at h
            simp at h
            subst h
            dsimp only
            rw [if_pos rfl]
            exact ⟨by simpa using h1, by simpa using h2, h3⟩
      obtain ⟨L, X, hL, hall⟩ := key len (Nat.le_refl _)
      refine ⟨.mk k b r t ks L, ?_⟩
      rw [← hL]
      refine .mk k b r t ks L ko kc (some a) cap X hw ⟨hz2, hz3, hz4, by rw [hL]; exact hlc2⟩ hks (fun i hi => ?_) (fun i u hu => (hall i u hu).2.2)
      obtain ⟨u, hu⟩ : ∃ u, L[i]? = some u := ⟨_, List.getElem?_eq_getElem hi⟩
      obtain ⟨g1, g2, -⟩ := hall i u hu
      refine ⟨g2, ?_⟩
      have hc := World.cells?_some g1
      obtain ⟨bk, off, spot⟩ := a
      have hspot : spot = none := by
        obtain ⟨o0, ho0⟩ : ∃ o0, L[0]? = some o0 := ⟨_, List.getElem?_eq_getElem (by omega)⟩
        have hq := (World.cells?_some (hall 0 o0 ho0).1).2.2 0 (by decide)
        rw [List.getElem?_eq_getElem (by rw [Array.length_toList, (hall 0 o0 ho0).2.1]; decide)] at hq
        have := World.cell?_spot hq
        simpa [Addr.add] using this
      subst hspot
      have e : ∀ j, ((⟨bk, off, none⟩ : Addr).add (i * 6)).add j = ⟨bk, off + i * 6 + j, none⟩ := by
        intro j
        by_cases h : i * 6 = 0 <;> by_cases h' : j = 0 <;> simp [Addr.add, h, h']
      have hcell : ∀ j, j < 6 → w.cell? ⟨bk, off + i * 6 + j, none⟩ = (X i)[j]? := fun j hj => by
        have h2 := hc.2.2 j hj
        rw [e] at h2
        rw [h2, Array.getElem?_eq_getElem (by omega)]
        simp
      refine ⟨bk, off, rfl, ?_, hcell⟩
      have h0 := hcell 0 (by decide)
      rw [Array.getElem?_eq_getElem (by omega)] at h0
      exact cell_ltT h0
theorem okWide_strctT {P : Program} {r : Reach} {b0 : Nat} {t : TypeId} {v : Value} {fs : Array Field} (ht : P.underlying t = some (.struct fs)) (h : Value.okWide P w r b0 t v) : ∃ cs, v = .agg cs ∧ cs.size = P.cellsOf t := by
  simp only [Value.okWide, ht] at h
  obtain ⟨cs, h1, h2, _⟩ := h
  exact ⟨cs, h1, h2⟩
theorem open_value {r : Reach} {b0 : Nat} {v : Value} {d : DataW H} {ps : List MemPlace} (hval : Value.okWide Tryd.prog w r b0 25 v) (hd : DataW.Trod enc Tryd.prog w base spare held 25 v d ps) (hwt : ∀ m ∈ d.weights Tryd.prog 25, m ≤ reachBytes) : ∃ t, ValAt w t v := by
  obtain ⟨cs, rfl, hs⟩ := okWide_strctT Tryd.underlying25 hval
  obtain ⟨fuel, hf⟩ := hd
  obtain ⟨-, t, ht⟩ := open_vt fuel hf hwt
  exact ⟨t, by simpa [Value.cells] using ht⟩
end
end Go.Proofs.YthfbmelfflpenaaDoor

/- quarryref00.SameTexts and SameValue: whether two lists of texts, two values, are the same. -/
namespace Go.Proofs.YthfbmelfflpenaaDoor
open Go.RowKit Go.Shelf

theorem text_beq (a b : ByteArray) : (a.toList != b.toList) = !decide (a = b) := by
  by_cases h : a = b
  · subst h; simp
  · rw [decide_eq_false h]
    have : (a.toList == b.toList) = false := by
      rw [beq_eq_false_iff_ne]
      intro e
      apply h
      apply ByteArray.ext
      have h2 : a.data.toList = b.data.toList := by rw [← Lib.toList_data, ← Lib.toList_data, e]
      exact Array.toList_inj.1 h2
    simp [bne, this]

set_option maxRecDepth 10000 in
set_option maxHeartbeats 1000000 in
theorem sameK_calls (L L' : List ByteArray) (hl : L.length ≤ capT) (hl' : L'.length ≤ capT) (ao bo : Option Addr) (cap cap' : Nat) (w : World) (hA : KeysAt w ao L) (hB : KeysAt w bo L') :
    Calls Tryd.prog 34 #[.slice ao L.length cap, .slice bo L'.length cap'] w fun e w' => ∃ B : Bool, e = .returned (.bool B) ∧ (B = true ↔ L = L') ∧ Below w.heap.size w w' := by
  unfold capT at hl hl'
  have hA' := hid hA
  have hB' := hid hB
  obtain ⟨n, hn⟩ : ∃ n, Hid (L.length = n) := ⟨_, rfl⟩
  obtain ⟨m, hm⟩ : ∃ m, Hid (L'.length = m) := ⟨_, rfl⟩
  rw [hn.out] at hl ⊢
  rw [hm.out] at hl' ⊢
  have hli : (n : Int) ≤ 9223372036854775807 := by omega
  have hmi : (m : Int) ≤ 9223372036854775807 := by omega
  clear hl hl'
  clear hA hB
  by_cases hnm : n = m
  · subst hnm
    have e0 : ((n : Int) != (n : Int)) = false := by simp
    go_enter Tryd.func34, Tryd.ntmps34
    go_wp2
    go_loopw [5] (fun ii wr => ∃ i : Nat, i ≤ n ∧ ii = .int .i64 (i : Int) ∧ Hid (∀ j, j < i → L[j]? = L'[j]?) ∧ Below w.heap.size w wr) (fun ii _ => n - (intOf ii).toNat)
    case atStart => exact ⟨0, Nat.zero_le _, rfl, hid (fun j hj => by omega), Below.refl _ _⟩
    case round =>
      obtain ⟨i, hi, rfl, hsm, hb⟩ := hrel
      by_cases hlt : i < n
      · have hii : (i : Int) < (n : Int) := by omega
        obtain ⟨p, hp⟩ : ∃ p, Hid (L[i]? = some p) := ⟨_, List.getElem?_eq_getElem (by rw [hn.out]; exact hlt)⟩
        obtain ⟨q, hq⟩ : ∃ q, Hid (L'[i]? = some q) := ⟨_, List.getElem?_eq_getElem (by rw [hm.out]; exact hlt)⟩
        obtain ⟨-, g, o, rfl, hg, cg⟩ := hA'.out i p hp.out
        obtain ⟨-, h, o', rfl, hh, ch⟩ := hB'.out i q hq.out
        have s1 := (hb.cell (p := ⟨g, o + i, none⟩) hg).trans cg
        have s2 := (hb.cell (p := ⟨h, o' + i, none⟩) hh).trans ch
        have ad1 : (⟨g, o, none⟩ : Addr).add i = ⟨g, o + i, none⟩ := by by_cases h : i = 0 <;> simp [Addr.add, h]
        have ad2 : (⟨h, o', none⟩ : Addr).add i = ⟨h, o' + i, none⟩ := by by_cases h : i = 0 <;> simp [Addr.add, h]
        have ep := text_beq p q
        clear cg ch
        by_cases hpq : p = q
        · subst hpq
          have ep2 : (p.toList != p.toList) = false := by simp
          clear ep
          go_wp2
          go_quiet (fail)
          go_wp2
          go_roundw
          case rel => exact ⟨i + 1, by omega, by simp, hid (fun j hj => by
            by_cases e : j = i
            · subst e; rw [hp.out, hq.out]
            · exact hsm.out j (by omega)), below_drewN hb _⟩
          case measure => simp [intOf]; omega
        · have ep2 : (p.toList != q.toList) = true := by rw [text_beq, decide_eq_false hpq]; rfl
          have ep3 : (p.toList == q.toList) = false := by rw [bne] at ep2; simpa using ep2
          clear ep
          go_wp2
          go_quiet (fail)
          go_wp2
          go_ret
          refine ⟨false, rfl, ⟨fun h => (by cases h), fun h => ?_⟩, below_drewN hb _⟩
          subst h
          rw [hp.out] at hq
          have := hq.out
          injection this with this
          exact absurd this hpq
      · obtain rfl : i = n := by omega
        go_wp2
        go_ret
        refine ⟨true, rfl, ⟨fun _ => ?_, fun _ => rfl⟩, hb⟩
        apply List.ext_getElem?
        intro j
        by_cases hj : j < i
        · exact hsm.out j hj
        · rw [List.getElem?_eq_none (by rw [hn.out]; omega), List.getElem?_eq_none (by rw [hm.out]; omega)]
  · have e0 : ((n : Int) != (m : Int)) = true := by simp; omega
    go_enter Tryd.func34, Tryd.ntmps34
    go_wp2
    go_ret
    refine ⟨false, rfl, ⟨fun h => (by cases h), fun h => ?_⟩, Below.refl _ _⟩
    subst h
    exact absurd (hn.out.symm.trans hm.out) hnm

theorem kid_size {k : Int} {b : Bool} {r t : ByteArray} {ks : List ByteArray} {vs : List Vt} {i : Nat} {u : Vt} (h : vs[i]? = some u) : SizeOf.sizeOf u < SizeOf.sizeOf (Vt.mk k b r t ks vs) := by
  have h1 := List.sizeOf_lt_of_mem (List.mem_of_getElem? h)
  simp only [Vt.mk.sizeOf_spec]
  omega
/-- The six cells of a kid. -/
theorem kid_cells {w : World} {vo : Option Addr} {n : Nat} {X : Nat → Array Value} (h : RowAt w vo n X) {i : Nat} (hi : i < n) : ∃ b off, vo = some ⟨b, off, none⟩ ∧ b < w.heap.size ∧ ∀ j, j < 6 → w.cell? ⟨b, off + i * 6 + j, none⟩ = (X i)[j]? := (h i hi).2
/-- A value's own cells. -/
theorem ValAt.cells {w : World} {u : Vt} {x : Array Value} (h : ValAt w u (.agg x)) : ∃ ko kc vo vc, x = #[.int .i64 u.kind, .bool u.b, .string u.raw, .string u.text, .slice ko u.keys.length kc, .slice vo u.kids.length vc] := by
  cases h with
  | mk k b r t ks vs ko kc vo vc X hw hz hk hr hv => exact ⟨ko, kc, vo, vc, rfl⟩
end Go.Proofs.YthfbmelfflpenaaDoor

/- quarryref00.SameValue: whether two values are the same. -/
namespace Go.Proofs.YthfbmelfflpenaaDoor
open Go.RowKit Go.Shelf

theorem sizeVl : (Tryd.prog.info? 25).map (·.size) = some 6 := by kernel_rfl
theorem row_range {w : World} {vo : Option Addr} {n : Nat} {X : Nat → Array Value} (h : RowAt w vo n X) {i : Nat} (hi : i < n) : ∃ b off, vo = some ⟨b, off, none⟩ ∧ b < w.heap.size ∧ w.rangeAt b (off + i * 6) (X i).toList ∧ (X i).toList.length = 6 := by
  obtain ⟨h0, b, off, h1, h2, h3⟩ := h i hi
  refine ⟨b, off, h1, h2, fun j v hv => ?_, by rw [Array.length_toList]; exact h0⟩
  have hj : j < 6 := by
    have := (List.getElem?_eq_some_iff.1 hv).1
    rw [Array.length_toList, h0] at this
    exact this
  rw [h3 j hj]
  simpa using hv

theorem no_iff {P : Prop} (h : ¬ P) : (false = true ↔ P) := ⟨fun e => (by cases e), fun p => absurd p h⟩
set_option maxRecDepth 10000 in
set_option maxHeartbeats 8000000 in
theorem sameV_ex : ∀ (n : Nat) (t u : Vt), SizeOf.sizeOf t ≤ n → ∀ (va vb : Value) (w : World), ValAt w t va → ValAt w u vb →
    Calls Tryd.prog 23 #[va, vb] w fun e w' => ∃ B : Bool, e = .returned (.bool B) ∧ (B = true ↔ t = u) ∧ Below w.heap.size w w' := by
  intro n
  induction n with
  | zero =>
    intro t u hs
    cases t
    simp at hs
  | succ n ih =>
    intro t u hs va vb w ha hb
    cases ha with
    | mk k b r t ks vs ko kc vo vc X hw hz hk hr hv =>
    cases hb with
    | mk k' b' r' t' ks' vs' ko' kc' vo' vc' X' hw' hz' hk' hr' hv' =>
    have ih' := hid ih
    have hs' := hid hs
    have hk1 := hid hk
    have hk2 := hid hk'
    have hr1 := hid hr
    have hr2 := hid hr'
    have hv1 := hid hv
    have hv2 := hid hv'
    have hz1 := hid hz
    have hz2 := hid hz'
    obtain ⟨N, hN⟩ : ∃ N, Hid (ks.length = N) := ⟨_, rfl⟩
    obtain ⟨N', hN'⟩ : ∃ N, Hid (ks'.length = N) := ⟨_, rfl⟩
    obtain ⟨M, hM⟩ : ∃ M, Hid (vs.length = M) := ⟨_, rfl⟩
    obtain ⟨M', hM'⟩ : ∃ M, Hid (vs'.length = M) := ⟨_, rfl⟩
    have hsK : Hid (∀ u : World, KeysAt u ko ks → KeysAt u ko' ks' → Calls Tryd.prog 34 #[.slice ko N kc, .slice ko' N' kc'] u fun e w' => ∃ B : Bool, e = .returned (.bool B) ∧ (B = true ↔ ks = ks') ∧ Below u.heap.size u w') := fun u g1 g2 => by
      rw [← hN.out, ← hN'.out]
      exact sameK_calls ks ks' hz1.out.2.2.1 hz2.out.2.2.1 ko ko' kc kc' u g1 g2
    rw [hN.out, hN'.out, hM.out, hM'.out]
    have hMi : (M : Int) ≤ 9223372036854775807 := by have := hz1.out.2.2.2; rw [hM.out] at this; unfold capT at this; omega
    have hMi' : (M' : Int) ≤ 9223372036854775807 := by have := hz2.out.2.2.2; rw [hM'.out] at this; unfold capT at this; omega
    clear ih hs hk hk' hr hr' hv hv' hz hz' hw hw'
    obtain ⟨W1, hW1⟩ : ∃ W, w.alloc (.cells #[.int .i64 k, .bool b, .string r, .string t, .slice ko N kc, .slice vo M vc] 25) = W := ⟨_, rfl⟩
    obtain ⟨W2, hW2⟩ : ∃ W, W1.alloc (.cells #[.int .i64 k', .bool b', .string r', .string t', .slice ko' N' kc', .slice vo' M' vc'] 25) = W := ⟨_, rfl⟩
    have A1 : Hid (At W2 w.heap.size #[.int .i64 k, .bool b, .string r, .string t, .slice ko N kc, .slice vo M vc] 25) := by
      rw [← hW2, ← hW1]
      exact (At.new w _ _).alloc _
    have A2 : Hid (At W2 (w.heap.size + 1) #[.int .i64 k', .bool b', .string r', .string t', .slice ko' N' kc', .slice vo' M' vc'] 25) := by
      have h := At.new W1 #[.int .i64 k', .bool b', .string r', .string t', .slice ko' N' kc', .slice vo' M' vc'] 25
      rw [hW2, ← hW1, World.size_alloc] at h
      exact h
    have hsz1 : W1.heap.size = w.heap.size + 1 := by rw [← hW1, World.size_alloc]
    have B2 : Hid (Below w.heap.size w W2) := by
      rw [← hW2, ← hW1]
      exact ((Below.refl _ w).alloc (Nat.le_refl _) _).alloc (by rw [World.size_alloc]; omega) _
    obtain ⟨a1, ha1⟩ : ∃ a, w.heap.size = a := ⟨_, rfl⟩
    obtain ⟨a2, ha2⟩ : ∃ a, a1 + 1 = a := ⟨_, rfl⟩
    rw [ha1] at A1 hsz1
    rw [ha1, ha2] at A2
    rw [ha2] at hsz1
    have c0 := A1.out.cell 0
    have c1 := A1.out.cell 1
    have c2 := A1.out.cell 2
    have c3 := A1.out.cell 3
    have c4 := A1.out.cell 4
    have c5 := A1.out.cell 5
    have d0 := A2.out.cell 0
    have d1 := A2.out.cell 1
    have d2 := A2.out.cell 2
    have d3 := A2.out.cell 3
    have d4 := A2.out.cell 4
    have d5 := A2.out.cell 5
    simp only [List.getElem?_toArray, List.getElem?_cons_zero, List.getElem?_cons_succ] at c0 c1 c2 c3 c4 c5 d0 d1 d2 d3 d4 d5
    clear ha2
    by_cases e1 : k = k'
    · by_cases e2 : b = b'
      · by_cases e3 : r = r'
        · by_cases e4 : t = t'
          · by_cases e5 : M = M'
            · subst e1 e2 e3 e4 e5
              have f1 : (k != k) = false := by simp
              have f3 : (r.toList != r.toList) = false := by simp
              have f4 : (t.toList != t.toList) = false := by simp
              have f5 : ((M : Int) != (M : Int)) = false := by simp
              have f2 : (b != b) = false := by simp
              go_enter Tryd.func23, Tryd.ntmps23
              go_wp2_with fail
              refine Calls.mono (hsK.out W2 (hk1.out.kept B2.out) (hk2.out.kept B2.out)) ?_
              rintro e w3 ⟨B1, rfl, hB1, hb3⟩
              have A1b := hid (A1.out.keptAll hb3)
              have A2b := hid (A2.out.keptAll hb3)
              have B3 := hid (B2.out.trans (hb3.mono B2.out.size))
              have hB1' := hid hB1
              clear hW1 hW2 hsz1 c0 c1 c2 c3 c4 c5 d0 d1 d2 d3 d4 d5 hb3 hB1 A1 A2 hsK
              cases B1 with
              | false =>
                go_wp2
                go_ret
                refine ⟨false, rfl, no_iff (fun h => ?_), B3.out⟩
                have := hB1'.out.2 (Vt.mk.inj h).2.2.2.2.1
                cases this
              | true =>
                have hks := hid (hB1'.out.1 rfl)
                clear f1 f2 f3 f4 f5
                go_wp2
                go_loopw [5] (fun ii wr => ∃ i : Nat, i ≤ M ∧ ii = .int .i64 (i : Int) ∧ Hid (∀ j, j < i → vs[j]? = vs'[j]?) ∧ Hid (At wr a1 #[.int .i64 k, .bool b, .string r, .string t, .slice ko N kc, .slice vo M vc] 25) ∧ Hid (At wr a2 #[.int .i64 k, .bool b, .string r, .string t, .slice ko' N' kc', .slice vo' M vc'] 25) ∧ Hid (Below w.heap.size w wr)) (fun ii _ => M - (intOf ii).toNat)
                case atStart => exact ⟨0, Nat.zero_le _, rfl, hid (fun j hj => by omega), A1b, A2b, B3⟩
                case round =>
                  obtain ⟨i, hi, rfl, hsm, hA1, hA2, hb⟩ := hrel
                  have c5 := hA1.out.cell 5
                  have d5 := hA2.out.cell 5
                  simp only [List.getElem?_toArray, List.getElem?_cons_zero, List.getElem?_cons_succ] at c5 d5
                  by_cases hlt : i < M
                  · have hli : (i : Int) < (M : Int) := by omega
                    obtain ⟨u1, hu1⟩ : ∃ u, Hid (vs[i]? = some u) := ⟨_, List.getElem?_eq_getElem (by rw [hM.out]; exact hlt)⟩
                    obtain ⟨u2, hu2⟩ : ∃ u, Hid (vs'[i]? = some u) := ⟨_, List.getElem?_eq_getElem (by rw [hM'.out]; exact hlt)⟩
                    obtain ⟨g, o, rfl, hg, hrg, hl1⟩ := row_range (hr1.out.kept hb.out) (i := i) (by rw [hM.out]; exact hlt)
                    obtain ⟨g', o', rfl, hg', hrg', hl2⟩ := row_range (hr2.out.kept hb.out) (i := i) (by rw [hM'.out]; exact hlt)
                    obtain ⟨L1, hL1⟩ : ∃ L, Hid ((X i).toList = L) := ⟨_, rfl⟩
                    obtain ⟨L2, hL2⟩ : ∃ L, Hid ((X' i).toList = L) := ⟨_, rfl⟩
                    rw [hL1.out] at hrg hl1
                    rw [hL2.out] at hrg' hl2
                    have z1 : (Tryd.prog.info? 25).map (·.size) = some L1.length := by rw [hl1]; exact sizeVl
                    have z2 : (Tryd.prog.info? 25).map (·.size) = some L2.length := by rw [hl2]; exact sizeVl
                    have v1 : Hid (ValAt wr u1 (.agg L1.toArray)) := by
                      have := (hv1.out i u1 hu1.out).kept hb.out
                      rw [← hL1.out, Array.toArray_toList]
                      exact this
                    have v2 : Hid (ValAt wr u2 (.agg L2.toArray)) := by
                      have := (hv2.out i u2 hu2.out).kept hb.out
                      rw [← hL2.out, Array.toArray_toList]
                      exact this
                    obtain ⟨S, hS⟩ : ∃ S : Bool, Hid (S = true ↔ u1 = u2) := by
                      by_cases h : u1 = u2
                      · exact ⟨true, hid ⟨fun _ => h, fun _ => rfl⟩⟩
                      · exact ⟨false, hid (no_iff h)⟩
                    have hcall : Hid (∀ wq : World, Below wr.heap.size wr wq → Calls Tryd.prog 23 #[.agg L1.toArray, .agg L2.toArray] wq fun e w' => e = .returned (.bool S) ∧ Below wq.heap.size wq w') := fun wq hq => by
                      have hsz := kid_size (k := k) (b := b) (r := r) (t := t) (ks := ks) hu1.out
                      refine (ih'.out u1 u2 (by have := hs'.out; omega) _ _ wq (v1.out.kept hq) (v2.out.kept hq)).mono ?_
                      rintro e w' ⟨B, rfl, hB, hbb⟩
                      refine ⟨?_, hbb⟩
                      have : B = S := by
                        cases B <;> cases S
                        · rfl
                        · exact absurd (hB.2 (hS.out.1 rfl)) (by simp)
                        · exact absurd (hS.out.2 (hB.1 rfl)) (by simp)
                        · rfl
                      rw [this]
                    have hrgk := hid hrg
                    have hrgk' := hid hrg'
                    clear hrg hrg' hl1 hl2
                    go_wp2
                    refine wp_region_quiet (C := (fun w' => w'.cell? ⟨a1, 5, none⟩ = some (.slice (some ⟨g, o, none⟩) M vc) ∧ w'.cell? ⟨a2, 5, none⟩ = some (.slice (some ⟨g', o', none⟩) M vc') ∧ Below wr.heap.size wr w')) (by kernel_rfl) (by kernel_rfl) (⟨c5, d5, (Below.refl _ _).drew⟩) ?_
                    dsimp only
                    repeat (first
                      | (refine wpQuiet_skip (by rfl) ?_; simp only [Act.put, List.setIfInBounds_toArray, List.set_cons_zero, List.set_cons_succ])
                      | (refine wpQuiet_load 25 _ (g) (o + i * 6) L1 _ (fun wq hq => range_kept hrgk.out hq.2.2) Tryd.underlying25 z1 rfl rfl rfl (by rfl) ?_; simp only [Act.put, List.setIfInBounds_toArray, List.set_cons_zero, List.set_cons_succ])
                      | (refine wpQuiet_load 25 _ (g') (o' + i * 6) L2 _ (fun wq hq => range_kept hrgk'.out hq.2.2) Tryd.underlying25 z2 rfl rfl rfl (by rfl) ?_; simp only [Act.put, List.setIfInBounds_toArray, List.set_cons_zero, List.set_cons_succ])
                      | (refine' wpQuiet_take (by rfl) ?_ ?_
                         rotate_left
                         · (intro wq hq; (try dsimp only at hq); go_simp
                            first
                              | done
                              | with_reducible rfl
                              | (go_at_call 23; have hzz := hcall.out wq hq.2.2; with_reducible refine hzz.mono ?_; clear hzz; rintro e wz ⟨rfl, hb⟩; exact ⟨rfl, (hb.cell (p := ⟨a1, 5, none⟩) (block_lt_of_cell hq.1)).trans hq.1, (hb.cell (p := ⟨a2, 5, none⟩) (block_lt_of_cell hq.2.1)).trans hq.2.1, Below.trans hq.2.2 (Below.mono hb hq.2.2.size)⟩)
                           )
                         simp only [Act.put, List.setIfInBounds_toArray, List.set_cons_zero, List.set_cons_succ]))
                    refine wpQuiet_nil ?_
                    intro w5 hw5
                    have J1 := hid (hA1.out.keptAll hw5.2.2)
                    have J2 := hid (hA2.out.keptAll hw5.2.2)
                    have Jb := hid (hb.out.trans (hw5.2.2.mono hb.out.size))
                    clear hw5 c5 d5 hcall hrgk hrgk'
                    cases S with
                    | true =>
                      have hue := hS.out.1 rfl
                      go_wp2
                      go_roundw
                      case rel => exact ⟨i + 1, by omega, by simp, hid (fun j hj => by
                        by_cases e : j = i
                        · subst e; rw [hu1.out, hu2.out, hue]
                        · exact hsm.out j (by omega)), J1, J2, Jb⟩
                      case measure => simp [intOf]; omega
                    | false =>
                      go_wp2
                      go_ret
                      refine ⟨false, rfl, no_iff (fun h => ?_), Jb.out⟩
                      have h2 := (Vt.mk.inj h).2.2.2.2.2
                      subst h2
                      have h3 := hu1.out
                      rw [hu2.out] at h3
                      injection h3 with h3
                      have := hS.out.2 h3.symm
                      cases this
                  · obtain rfl : i = M := by omega
                    go_wp2
                    go_ret
                    refine ⟨true, rfl, ⟨fun _ => ?_, fun _ => rfl⟩, hb.out⟩
                    have hvs : vs = vs' := by
                      apply List.ext_getElem?
                      intro j
                      by_cases hj : j < i
                      · exact hsm.out j hj
                      · rw [List.getElem?_eq_none (by rw [hM.out]; omega), List.getElem?_eq_none (by rw [hM'.out]; omega)]
                    rw [hvs, hks.out]
            · have f : ((M : Int) != (M' : Int)) = true := by simp; omega
              subst e1 e2 e3 e4
              have f1 : (k != k) = false := by simp
              have f3 : (r.toList != r.toList) = false := by simp
              have f4 : (t.toList != t.toList) = false := by simp
              have f2 : (b != b) = false := by simp
              go_enter Tryd.func23, Tryd.ntmps23
              go_wp2
              go_ret
              refine ⟨false, rfl, no_iff (fun h => e5 ?_), B2.out⟩
              rw [← hM.out, ← hM'.out, (Vt.mk.inj h).2.2.2.2.2]
          · have f : (t.toList != t'.toList) = true := by rw [text_beq, decide_eq_false e4]; rfl
            have f' : (t.toList == t'.toList) = false := by rw [bne] at f; simpa using f
            subst e1 e2 e3
            have f1 : (k != k) = false := by simp
            have f3 : (r.toList != r.toList) = false := by simp
            have f2 : (b != b) = false := by simp
            go_enter Tryd.func23, Tryd.ntmps23
            go_wp2
            go_ret
            exact ⟨false, rfl, no_iff (fun h => e4 (Vt.mk.inj h).2.2.2.1), B2.out⟩
        · have f : (r.toList != r'.toList) = true := by rw [text_beq, decide_eq_false e3]; rfl
          have f' : (r.toList == r'.toList) = false := by rw [bne] at f; simpa using f
          subst e1 e2
          have f1 : (k != k) = false := by simp
          have f2 : (b != b) = false := by simp
          go_enter Tryd.func23, Tryd.ntmps23
          go_wp2
          go_ret
          exact ⟨false, rfl, no_iff (fun h => e3 (Vt.mk.inj h).2.2.1), B2.out⟩
      · have f : (b != b') = true := by cases b <;> cases b' <;> simp_all
        have f' : (b == b') = false := by cases b <;> cases b' <;> simp_all
        subst e1
        have f1 : (k != k) = false := by simp
        go_enter Tryd.func23, Tryd.ntmps23
        go_wp2
        go_ret
        exact ⟨false, rfl, no_iff (fun h => e2 (Vt.mk.inj h).2.1), B2.out⟩
    · have f : (k != k') = true := by simp; exact e1
      have f' : (k == k') = false := by simp; exact e1
      go_enter Tryd.func23, Tryd.ntmps23
      go_wp2
      go_ret
      refine ⟨false, rfl, no_iff (fun h => e1 (Vt.mk.inj h).1), B2.out⟩
/-- Whether two values are the same. -/
theorem sameV_calls (t u : Vt) (va vb : Value) (B : Bool) (hB : Hid (B = true ↔ t = u)) (w : World) (ha : ValAt w t va) (hb : ValAt w u vb) :
    Calls Tryd.prog 23 #[va, vb] w fun e w' => e = .returned (.bool B) ∧ Below w.heap.size w w' := by
  refine (sameV_ex _ t u (Nat.le_refl _) va vb w ha hb).mono ?_
  rintro e w' ⟨C, rfl, hC, hbb⟩
  refine ⟨?_, hbb⟩
  have : C = B := by
    cases C <;> cases B
    · rfl
    · exact absurd (hC.2 (hB.out.1 rfl)) (by simp)
    · exact absurd (hB.out.2 (hC.1 rfl)) (by simp)
    · rfl
  rw [this]
end Go.Proofs.YthfbmelfflpenaaDoor
