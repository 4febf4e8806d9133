/-
  TrA, TrB, TrC, one behind the other.
-/
import Derived.Test.YtdkcgfcmmdkmpaaKitA
import Derived.Test.YtdkcgfcmmdkmpaaRows
import Derived.ChangeSlices
import Derived.SizedLaws
import Derived.Lib.Strings
import Derived.BigQuiet
/- Values as trees, and how they lie in memory; a value that comes in. -/
namespace Go.Proofs.Ytdkcgfcmmdkmpaa
open Go.ChangeShapes Go.WideShapes Go.ChangeAt Go.RowKit
set_option maxRecDepth 100000

/-- A value: its kind, its truth, its number's text, its text, its names, its kids. -/
inductive Vt where
  | mk (kind : Int) (b : Bool) (raw text : ByteArray) (keys : List ByteArray) (kids : List Vt)
def Vt.kind : Vt → Int | .mk k _ _ _ _ _ => k
def Vt.b : Vt → Bool | .mk _ b _ _ _ _ => b
def Vt.raw : Vt → ByteArray | .mk _ _ r _ _ _ => r
def Vt.text : Vt → ByteArray | .mk _ _ _ t _ _ => t
def Vt.keys : Vt → List ByteArray | .mk _ _ _ _ ks _ => ks
def Vt.kids : Vt → List Vt | .mk _ _ _ _ _ vs => vs
/-- No text and no list is longer than that (the form's own reach). -/
def capT : Nat := 140737488351232
/-- A list of texts in memory. -/
def KeysAt (w : World) (ao : Option Addr) (ks : List ByteArray) : Prop := ∀ (i : Nat) (s : ByteArray), ks[i]? = some s → s.size ≤ capT ∧ ∃ b off, ao = some ⟨b, off, none⟩ ∧ b < w.heap.size ∧ w.cell? ⟨b, off + i, none⟩ = some (.string s)
/-- A list of values in memory, six cells each. -/
def RowAt (w : World) (ao : Option Addr) (n : Nat) (X : Nat → Array Value) : Prop := ∀ i, i < n → (X i).size = 6 ∧ ∃ b off, ao = some ⟨b, off, none⟩ ∧ b < w.heap.size ∧ ∀ j, j < 6 → w.cell? ⟨b, off + i * 6 + j, none⟩ = (X i)[j]?
/-- A value in memory. -/
inductive ValAt (w : World) : Vt → Value → Prop
  | mk (k : Int) (b : Bool) (r t : ByteArray) (ks : List ByteArray) (vs : List Vt) (ko : Option Addr) (kc : Nat) (vo : Option Addr) (vc : Nat) (X : Nat → Array Value)
      (hw : (Lit.int .i64 k).wf = true) (hz : r.size ≤ capT ∧ t.size ≤ capT ∧ ks.length ≤ capT ∧ vs.length ≤ capT) (hk : KeysAt w ko ks) (hr : RowAt w vo vs.length X) (hv : ∀ (i : Nat) (u : Vt), vs[i]? = some u → ValAt w u (.agg (X i))) :
      ValAt w (.mk k b r t ks vs) (.agg #[.int .i64 k, .bool b, .string r, .string t, .slice ko ks.length kc, .slice vo vs.length vc])
theorem KeysAt.kept {w w' : World} {ao : Option Addr} {ks : List ByteArray} (h : KeysAt w ao ks) (hb : Below w.heap.size w w') : KeysAt w' ao ks := fun i s hi => by
  obtain ⟨h0, b, off, h1, h2, h3⟩ := h i s hi
  exact ⟨h0, b, off, h1, Nat.lt_of_lt_of_le h2 hb.size, (hb.cell (p := ⟨b, off + i, none⟩) h2).trans h3⟩
theorem RowAt.kept {w w' : World} {ao : Option Addr} {n : Nat} {X : Nat → Array Value} (h : RowAt w ao n X) (hb : Below w.heap.size w w') : RowAt w' ao n X := fun i hi => by
  obtain ⟨h0, b, off, h1, h2, h3⟩ := h i hi
  exact ⟨h0, b, off, h1, Nat.lt_of_lt_of_le h2 hb.size, fun j hj => (hb.cell (p := ⟨b, off + i * 6 + j, none⟩) h2).trans (h3 j hj)⟩
theorem ValAt.kept {w w' : World} {t : Vt} {v : Value} (h : ValAt w t v) (hb : Below w.heap.size w w') : ValAt w' t v := by
  induction h with
  | mk k b r t ks vs ko kc vo vc X hw hz hk hr hv ih => exact .mk k b r t ks vs ko kc vo vc X hw hz (hk.kept hb) (hr.kept hb) ih
section
variable {H : Type} {enc : TypeId × Value → H} {w : World} {base : Nat} {spare : Nat → Bool} {held : Bool}
theorem cellsKs : Try.prog.cellsOf 25 = 1 := by kernel_rfl
theorem cellsSt : Try.prog.cellsOf 9 = 1 := by kernel_rfl
theorem cell_ltT {w : World} {a : Addr} {v : Value} (h : w.cell? a = some v) : a.block < w.heap.size := by
  unfold World.cell? at h
  cases ho : w.heap[a.block]? with
  | none => simp [ho] at h
  | some o => exact (Array.getElem?_eq_some_iff.1 ho).1
theorem weights_all {H : Type} {P : Program} {e : TypeId} : ∀ {ds : List (DataW H)} {d : DataW H} {m : Nat}, d ∈ ds → m ∈ d.weights P e → m ∈ DataW.weightsAll P e ds
  | d0 :: ds, d, m, hd, hm => by
    simp only [DataW.weightsAll, List.mem_append]
    rcases List.mem_cons.1 hd with rfl | hd
    · exact .inl hm
    · exact .inr (weights_all hd hm)
  | [], _, _, hd, _ => by simp at hd
/-- A list of texts that comes in. -/
theorem open_keys {fuel : Nat} {v : Value} {x : DataW H × List MemPlace} (hf : DataW.trod enc Try.prog w base spare held fuel 25 [v] = some x) (hwt : ∀ m ∈ x.1.weights Try.prog 25, m ≤ reachBytes) :
    ∃ (ao : Option Addr) (cap : Nat) (ks : List ByteArray), v = .slice ao ks.length cap ∧ ks.length ≤ capT ∧ KeysAt w ao ks := by
  rcases DataW.trod_slice Try.underlying25 hf with ⟨hcs, _⟩ | ⟨a, len, cap, elems, rest, n, _, hcs, hx, hb, hl, hm, hlen, hel, -, -⟩
  · simp at hcs
    subst hcs
    exact ⟨none, 0, [], rfl, Nat.zero_le _, fun i o h => by simp at h⟩
  · simp at hcs
    subst hcs
    rw [congrArg Prod.fst hx] at hwt
    simp only [DataW.weights, Try.underlying25] at hwt
    have hlc : len ≤ capT := by
      have h := hwt _ (List.mem_cons_self ..)
      rw [show Try.prog.bytesOf 9 = 16 by kernel_rfl] at h
      simp only [List.length_map] at h
      unfold reachBytes at h
      unfold capT
      omega
    have each : ∀ i, i < len → ∃ s : ByteArray, w.cells? base (a.add i) 1 = some [.string s] ∧ s.size ≤ capT := by
      intro i hi
      have h := hel i hi
      rw [cellsSt, Nat.mul_one, List.getElem?_eq_getElem (by omega), Option.bind_eq_some_iff] at h
      obtain ⟨cs, h1, h2⟩ := h
      obtain ⟨s, rfl, hy, -⟩ := DataW.trod_string Try.underlying9 h2
      refine ⟨s, h1, ?_⟩
      have hmem : (elems[i]'(by omega)).1 ∈ elems.map (·.1) := List.mem_map_of_mem (List.getElem_mem _)
      have h3 := hwt s.size (List.mem_cons_of_mem _ (List.mem_append_left _ (weights_all hmem (by
        rw [hy]
        simp only [DataW.weights, List.mem_singleton, Array.length_toList]
        rfl))))
      exact h3
    have key : ∀ k, k ≤ len → ∃ L : List ByteArray, L.length = k ∧ ∀ (i : Nat) (s : ByteArray), L[i]? = some s → w.cells? base (a.add i) 1 = some [.string s] ∧ s.size ≤ capT := by
      intro k
      induction k with
      | zero => exact fun _ => ⟨[], rfl, fun i o h => by simp at h⟩
      | succ k ih =>
        intro hk
        obtain ⟨L, hL, hall⟩ := ih (by omega)
        obtain ⟨s, hs⟩ := each k (by omega)
        refine ⟨L ++ [s], by simp [hL], fun i o' h => ?_⟩
        by_cases hi : i < k
        · rw [List.getElem?_append_left (by omega)] at h
          exact hall i o' h
        · have hi2 := (List.getElem?_eq_some_iff.1 h).1
          rw [List.length_append, List.length_cons, List.length_nil] at hi2
          obtain rfl : i = k := by omega
          rw [List.getElem?_append_right (by omega), hL] at h
          simp at h
          subst h
          exact hs
    obtain ⟨L, hL, hall⟩ := key len (Nat.le_refl _)
    refine ⟨some a, cap, L, by rw [hL], by rw [hL]; exact hlc, fun i s hi => ?_⟩
    have c0 := (World.cells?_some (hall i s hi).1).2.2 0 (by decide)
    obtain ⟨b, off, spot⟩ := a
    have hspot : spot = none := by
      have hi2 := (List.getElem?_eq_some_iff.1 hi).1
      obtain ⟨o0, ho0⟩ : ∃ o0, L[0]? = some o0 := ⟨_, List.getElem?_eq_getElem (by omega)⟩
      have := World.cell?_spot ((World.cells?_some (hall 0 o0 ho0).1).2.2 0 (by decide))
      simpa [Addr.add] using this
    subst hspot
    have e : ((⟨b, off, none⟩ : Addr).add i).add 0 = ⟨b, off + i, none⟩ := by by_cases h : i = 0 <;> simp [Addr.add, h]
    rw [e] at c0
    exact ⟨(hall i s hi).2, b, off, rfl, cell_ltT c0, c0⟩
theorem okWide_strctT {P : Program} {r : Reach} {b0 : Nat} {t : TypeId} {v : Value} {fs : Array Field} (ht : P.underlying t = some (.struct fs)) (h : Value.okWide P w r b0 t v) : ∃ cs, v = .agg cs ∧ cs.size = P.cellsOf t := by
  simp only [Value.okWide, ht] at h
  obtain ⟨cs, h1, h2, _⟩ := h
  exact ⟨cs, h1, h2⟩
end
end Go.Proofs.Ytdkcgfcmmdkmpaa

/- quarryref00.SameTexts and SameValue: whether two lists of texts, two values, are the same. -/
namespace Go.Proofs.Ytdkcgfcmmdkmpaa
open Go.RowKit Go.Shelf

theorem text_beq (a b : ByteArray) : (a.toList != b.toList) = !decide (a = b) := by
  by_cases h : a = b
  · subst h; simp
  · rw [decide_eq_false h]
    have : (a.toList == b.toList) = false := by
      rw [beq_eq_false_iff_ne]
      intro e
      apply h
      apply ByteArray.ext
      have h2 : a.data.toList = b.data.toList := by rw [← Lib.toList_data, ← Lib.toList_data, e]
      exact Array.toList_inj.1 h2
    simp [bne, this]

set_option maxRecDepth 10000 in
set_option maxHeartbeats 1000000 in
theorem sameK_calls (L L' : List ByteArray) (hl : L.length ≤ capT) (hl' : L'.length ≤ capT) (ao bo : Option Addr) (cap cap' : Nat) (w : World) (hA : KeysAt w ao L) (hB : KeysAt w bo L') :
    Calls Try.prog 9 #[.slice ao L.length cap, .slice bo L'.length cap'] w fun e w' => ∃ B : Bool, e = .returned (.bool B) ∧ (B = true ↔ L = L') ∧ Below w.heap.size w w' := by
  unfold capT at hl hl'
  have hA' := hid hA
  have hB' := hid hB
  obtain ⟨n, hn⟩ : ∃ n, Hid (L.length = n) := ⟨_, rfl⟩
  obtain ⟨m, hm⟩ : ∃ m, Hid (L'.length = m) := ⟨_, rfl⟩
  rw [hn.out] at hl ⊢
  rw [hm.out] at hl' ⊢
  have hli : (n : Int) ≤ 9223372036854775807 := by omega
  have hmi : (m : Int) ≤ 9223372036854775807 := by omega
  clear hl hl'
  clear hA hB
  by_cases hnm : n = m
  · subst hnm
    have e0 : ((n : Int) != (n : Int)) = false := by simp
    go_enter Try.func9, Try.ntmps9
    go_wp2
    go_loopw [5] (fun ii wr => ∃ i : Nat, i ≤ n ∧ ii = .int .i64 (i : Int) ∧ Hid (∀ j, j < i → L[j]? = L'[j]?) ∧ Below w.heap.size w wr) (fun ii _ => n - (intOf ii).toNat)
    case atStart => exact ⟨0, Nat.zero_le _, rfl, hid (fun j hj => by omega), Below.refl _ _⟩
    case round =>
      obtain ⟨i, hi, rfl, hsm, hb⟩ := hrel
      by_cases hlt : i < n
      · have hii : (i : Int) < (n : Int) := by omega
        obtain ⟨p, hp⟩ : ∃ p, Hid (L[i]? = some p) := ⟨_, List.getElem?_eq_getElem (by rw [hn.out]; exact hlt)⟩
        obtain ⟨q, hq⟩ : ∃ q, Hid (L'[i]? = some q) := ⟨_, List.getElem?_eq_getElem (by rw [hm.out]; exact hlt)⟩
        obtain ⟨-, g, o, rfl, hg, cg⟩ := hA'.out i p hp.out
        obtain ⟨-, h, o', rfl, hh, ch⟩ := hB'.out i q hq.out
        have s1 := (hb.cell (p := ⟨g, o + i, none⟩) hg).trans cg
        have s2 := (hb.cell (p := ⟨h, o' + i, none⟩) hh).trans ch
        have ad1 : (⟨g, o, none⟩ : Addr).add i = ⟨g, o + i, none⟩ := by by_cases h : i = 0 <;> simp [Addr.add, h]
        have ad2 : (⟨h, o', none⟩ : Addr).add i = ⟨h, o' + i, none⟩ := by by_cases h : i = 0 <;> simp [Addr.add, h]
        have ep := text_beq p q
        clear cg ch
        by_cases hpq : p = q
        · subst hpq
          have ep2 : (p.toList != p.toList) = false := by simp
          clear ep
          go_wp2
          go_quiet (fail)
          go_wp2
          go_roundw
          case rel => exact ⟨i + 1, by omega, by simp, hid (fun j hj => by
            by_cases e : j = i
            · subst e; rw [hp.out, hq.out]
            · exact hsm.out j (by omega)), below_drewN hb _⟩
          case measure => simp [intOf]; omega
        · have ep2 : (p.toList != q.toList) = true := by rw [text_beq, decide_eq_false hpq]; rfl
          have ep3 : (p.toList == q.toList) = false := by rw [bne] at ep2; simpa using ep2
          clear ep
          go_wp2
          go_quiet (fail)
          go_wp2
          go_ret
          refine ⟨false, rfl, ⟨fun h => (by cases h), fun h => ?_⟩, below_drewN hb _⟩
          subst h
          rw [hp.out] at hq
          have := hq.out
          injection this with this
          exact absurd this hpq
      · obtain rfl : i = n := by omega
        go_wp2
        go_ret
        refine ⟨true, rfl, ⟨fun _ => ?_, fun _ => rfl⟩, hb⟩
        apply List.ext_getElem?
        intro j
        by_cases hj : j < i
        · exact hsm.out j hj
        · rw [List.getElem?_eq_none (by rw [hn.out]; omega), List.getElem?_eq_none (by rw [hm.out]; omega)]
  · have e0 : ((n : Int) != (m : Int)) = true := by simp; omega
    go_enter Try.func9, Try.ntmps9
    go_wp2
    go_ret
    refine ⟨false, rfl, ⟨fun h => (by cases h), fun h => ?_⟩, Below.refl _ _⟩
    subst h
    exact absurd (hn.out.symm.trans hm.out) hnm

theorem kid_size {k : Int} {b : Bool} {r t : ByteArray} {ks : List ByteArray} {vs : List Vt} {i : Nat} {u : Vt} (h : vs[i]? = some u) : SizeOf.sizeOf u < SizeOf.sizeOf (Vt.mk k b r t ks vs) := by
  have h1 := List.sizeOf_lt_of_mem (List.mem_of_getElem? h)
  simp only [Vt.mk.sizeOf_spec]
  omega
/-- The six cells of a kid. -/
theorem kid_cells {w : World} {vo : Option Addr} {n : Nat} {X : Nat → Array Value} (h : RowAt w vo n X) {i : Nat} (hi : i < n) : ∃ b off, vo = some ⟨b, off, none⟩ ∧ b < w.heap.size ∧ ∀ j, j < 6 → w.cell? ⟨b, off + i * 6 + j, none⟩ = (X i)[j]? := (h i hi).2
/-- A value's own cells. -/
theorem ValAt.cells {w : World} {u : Vt} {x : Array Value} (h : ValAt w u (.agg x)) : ∃ ko kc vo vc, x = #[.int .i64 u.kind, .bool u.b, .string u.raw, .string u.text, .slice ko u.keys.length kc, .slice vo u.kids.length vc] := by
  cases h with
  | mk k b r t ks vs ko kc vo vc X hw hz hk hr hv => exact ⟨ko, kc, vo, vc, rfl⟩
end Go.Proofs.Ytdkcgfcmmdkmpaa

/- quarryref00.SameValue: whether two values are the same. -/
namespace Go.Proofs.Ytdkcgfcmmdkmpaa
open Go.RowKit Go.Shelf

theorem row_range {w : World} {vo : Option Addr} {n : Nat} {X : Nat → Array Value} (h : RowAt w vo n X) {i : Nat} (hi : i < n) : ∃ b off, vo = some ⟨b, off, none⟩ ∧ b < w.heap.size ∧ w.rangeAt b (off + i * 6) (X i).toList ∧ (X i).toList.length = 6 := by
  obtain ⟨h0, b, off, h1, h2, h3⟩ := h i hi
  refine ⟨b, off, h1, h2, fun j v hv => ?_, by rw [Array.length_toList]; exact h0⟩
  have hj : j < 6 := by
    have := (List.getElem?_eq_some_iff.1 hv).1
    rw [Array.length_toList, h0] at this
    exact this
  rw [h3 j hj]
  simpa using hv

theorem no_iff {P : Prop} (h : ¬ P) : (false = true ↔ P) := ⟨fun e => (by cases e), fun p => absurd p h⟩
end Go.Proofs.Ytdkcgfcmmdkmpaa
