/-
  Texts of mine that others lean on, one behind the other.
-/
import Derived.Test.YtjlcliicdclooaaDoorPack1
import Derived.Test.YtjlcliicdclooaaDoorRows
import Derived.ChangeSlices
import Derived.SizedLaws
import Derived.Lib.Strings
import Derived.BigQuiet
/-
  TrA, TrB, TrC, one behind the other.
-/
/- Values as trees, and how they lie in memory; a value that comes in. -/
namespace Go.Proofs.YtjlcliicdclooaaDoor
open Go.ChangeShapes Go.WideShapes Go.ChangeAt Go.RowKit
set_option maxRecDepth 100000
/-- A value: its kind, its truth, its number's text, its text, its names, its kids. -/
inductive Vt where
  | mk (kind : Int) (b : Bool) (raw text : ByteArray) (keys : List ByteArray) (kids : List Vt)
def Vt.kind : Vt → Int | .mk k _ _ _ _ _ => k
def Vt.b : Vt → Bool | .mk _ b _ _ _ _ => b
def Vt.raw : Vt → ByteArray | .mk _ _ r _ _ _ => r
def Vt.text : Vt → ByteArray | .mk _ _ _ t _ _ => t
def Vt.keys : Vt → List ByteArray | .mk _ _ _ _ ks _ => ks
def Vt.kids : Vt → List Vt | .mk _ _ _ _ _ vs => vs
/-- No text and no list is longer than that (the form's own reach). -/
def capT : Nat := 140737488351232
/-- A list of texts in memory. -/
def KeysAt (w : World) (ao : Option Addr) (ks : List ByteArray) : Prop := ∀ (i : Nat) (s : ByteArray), ks[i]? = some s → s.size ≤ capT ∧ ∃ b off, ao = some ⟨b, off, none⟩ ∧ b < w.heap.size ∧ w.cell? ⟨b, off + i, none⟩ = some (.string s)
/-- A list of values in memory, six cells each. -/
def RowAt (w : World) (ao : Option Addr) (n : Nat) (X : Nat → Array Value) : Prop := ∀ i, i < n → (X i).size = 6 ∧ ∃ b off, ao = some ⟨b, off, none⟩ ∧ b < w.heap.size ∧ ∀ j, j < 6 → w.cell? ⟨b, off + i * 6 + j, none⟩ = (X i)[j]?
/-- A value in memory. -/
inductive ValAt (w : World) : Vt → Value → Prop
  | mk (k : Int) (b : Bool) (r t : ByteArray) (ks : List ByteArray) (vs : List Vt) (ko : Option Addr) (kc : Nat) (vo : Option Addr) (vc : Nat) (X : Nat → Array Value)
      (hw : (Lit.int .i64 k).wf = true) (hz : r.size ≤ capT ∧ t.size ≤ capT ∧ ks.length ≤ capT ∧ vs.length ≤ capT) (hk : KeysAt w ko ks) (hr : RowAt w vo vs.length X) (hv : ∀ (i : Nat) (u : Vt), vs[i]? = some u → ValAt w u (.agg (X i))) :
      ValAt w (.mk k b r t ks vs) (.agg #[.int .i64 k, .bool b, .string r, .string t, .slice ko ks.length kc, .slice vo vs.length vc])
theorem KeysAt.kept {w w' : World} {ao : Option Addr} {ks : List ByteArray} (h : KeysAt w ao ks) (hb : Below w.heap.size w w') : KeysAt w' ao ks := fun i s hi => by
  obtain ⟨h0, b, off, h1, h2, h3⟩ := h i s hi
  exact ⟨h0, b, off, h1, Nat.lt_of_lt_of_le h2 hb.size, (hb.cell (p := ⟨b, off + i, none⟩) h2).trans h3⟩
theorem RowAt.kept {w w' : World} {ao : Option Addr} {n : Nat} {X : Nat → Array Value} (h : RowAt w ao n X) (hb : Below w.heap.size w w') : RowAt w' ao n X := fun i hi => by
  obtain ⟨h0, b, off, h1, h2, h3⟩ := h i hi
  exact ⟨h0, b, off, h1, Nat.lt_of_lt_of_le h2 hb.size, fun j hj => (hb.cell (p := ⟨b, off + i * 6 + j, none⟩) h2).trans (h3 j hj)⟩
theorem ValAt.kept {w w' : World} {t : Vt} {v : Value} (h : ValAt w t v) (hb : Below w.heap.size w w') : ValAt w' t v := by
  induction h with
  | mk k b r t ks vs ko kc vo vc X hw hz hk hr hv ih => exact .mk k b r t ks vs ko kc vo vc X hw hz (hk.kept hb) (hr.kept hb) ih
section
variable {H : Type} {enc : TypeId × Value → H} {w : World} {base : Nat} {spare : Nat → Bool} {held : Bool}
theorem cellsVl : Tryd.prog.cellsOf 35 = 6 := by kernel_rfl
theorem cellsVs : Tryd.prog.cellsOf 33 = 1 := by kernel_rfl
theorem cellsKs : Tryd.prog.cellsOf 22 = 1 := by kernel_rfl
theorem cellsSt : Tryd.prog.cellsOf 9 = 1 := by kernel_rfl
theorem cell_ltT {w : World} {a : Addr} {v : Value} (h : w.cell? a = some v) : a.block < w.heap.size := by
  unfold World.cell? at h
  cases ho : w.heap[a.block]? with
  | none => simp [ho] at h
  | some o => exact (Array.getElem?_eq_some_iff.1 ho).1
theorem okWide_strctT {P : Program} {r : Reach} {b0 : Nat} {t : TypeId} {v : Value} {fs : Array Field} (ht : P.underlying t = some (.struct fs)) (h : Value.okWide P w r b0 t v) : ∃ cs, v = .agg cs ∧ cs.size = P.cellsOf t := by
  simp only [Value.okWide, ht] at h
  obtain ⟨cs, h1, h2, _⟩ := h
  exact ⟨cs, h1, h2⟩
end
end Go.Proofs.YtjlcliicdclooaaDoor
/- quarryref00.SameTexts and SameValue: whether two lists of texts, two values, are the same. -/
namespace Go.Proofs.YtjlcliicdclooaaDoor
open Go.RowKit Go.Shelf
theorem text_beq (a b : ByteArray) : (a.toList != b.toList) = !decide (a = b) := by
  by_cases h : a = b
  · subst h; simp
  · rw [decide_eq_false h]
    have : (a.toList == b.toList) = false := by
      rw [beq_eq_false_iff_ne]
      intro e
      apply h
      apply ByteArray.ext
      have h2 : a.data.toList = b.data.toList := by rw [← Lib.toList_data, ← Lib.toList_data, e]
      exact Array.toList_inj.1 h2
    simp [bne, this]
set_option maxRecDepth 10000 in
set_option maxHeartbeats 1000000 in
theorem sameK_calls (L L' : List ByteArray) (hl : L.length ≤ capT) (hl' : L'.length ≤ capT) (ao bo : Option Addr) (cap cap' : Nat) (w : World) (hA : KeysAt w ao L) (hB : KeysAt w bo L') :
    Calls Tryd.prog 10 #[.slice ao L.length cap, .slice bo L'.length cap'] w fun e w' => ∃ B : Bool, e = .returned (.bool B) ∧ (B = true ↔ L = L') ∧ Below w.heap.size w w' := by
  unfold capT at hl hl'
  have hA' := hid hA
  have hB' := hid hB
  obtain ⟨n, hn⟩ : ∃ n, Hid (L.length = n) := ⟨_, rfl⟩
  obtain ⟨m, hm⟩ : ∃ m, Hid (L'.length = m) := ⟨_, rfl⟩
  rw [hn.out] at hl ⊢
  rw [hm.out] at hl' ⊢
  have hli : (n : Int) ≤ 9223372036854775807 := by omega
  have hmi : (m : Int) ≤ 9223372036854775807 := by omega
  clear hl hl'
  clear hA hB
  by_cases hnm : n = m
  · subst hnm
    have e0 : ((n : Int) != (n : Int)) = false := by simp
    go_enter Tryd.func10, Tryd.ntmps10
    go_wp2
    go_loopw [5] (fun ii wr => ∃ i : Nat, i ≤ n ∧ ii = .int .i64 (i : Int) ∧ Hid (∀ j, j < i → L[j]? = L'[j]?) ∧ Below w.heap.size w wr) (fun ii _ => n - (intOf ii).toNat)
    case atStart => exact ⟨0, Nat.zero_le _, rfl, hid (fun j hj => by omega), Below.refl _ _⟩
    case round =>
      obtain ⟨i, hi, rfl, hsm, hb⟩ := hrel
      by_cases hlt : i < n
      · have hii : (i : Int) < (n : Int) := by omega
        obtain ⟨p, hp⟩ : ∃ p, Hid (L[i]? = some p) := ⟨_, List.getElem?_eq_getElem (by rw [hn.out]; exact hlt)⟩
        obtain ⟨q, hq⟩ : ∃ q, Hid (L'[i]? = some q) := ⟨_, List.getElem?_eq_getElem (by rw [hm.out]; exact hlt)⟩
        obtain ⟨-, g, o, rfl, hg, cg⟩ := hA'.out i p hp.out
        obtain ⟨-, h, o', rfl, hh, ch⟩ := hB'.out i q hq.out
        have s1 := (hb.cell (p := ⟨g, o + i, none⟩) hg).trans cg
        have s2 := (hb.cell (p := ⟨h, o' + i, none⟩) hh).trans ch
        have ad1 : (⟨g, o, none⟩ : Addr).add i = ⟨g, o + i, none⟩ := by by_cases h : i = 0 <;> simp [Addr.add, h]
        have ad2 : (⟨h, o', none⟩ : Addr).add i = ⟨h, o' + i, none⟩ := by by_cases h : i = 0 <;> simp [Addr.add, h]
        have ep := text_beq p q
        clear cg ch
        by_cases hpq : p = q
        · subst hpq
          have ep2 : (p.toList != p.toList) = false := by simp
          clear ep
          go_wp2
          go_quiet (fail)
          go_wp2
          go_roundw
          case rel => exact ⟨i + 1, by omega, by simp, hid (fun j hj => by
            by_cases e : j = i
            · subst e; rw [hp.out, hq.out]
            · exact hsm.out j (by omega)), below_drewN hb _⟩
          case measure => simp [intOf]; omega
        · have ep2 : (p.toList != q.toList) = true := by rw [text_beq, decide_eq_false hpq]; rfl
          have ep3 : (p.toList == q.toList) = false := by rw [bne] at ep2; simpa using ep2
          clear ep
          go_wp2
          go_quiet (fail)
          go_wp2
          go_ret
          refine ⟨false, rfl, ⟨fun h => (by cases h), fun h => ?_⟩, below_drewN hb _⟩
          subst h
          rw [hp.out] at hq
          have := hq.out
          injection this with this
          exact absurd this hpq
      · obtain rfl : i = n := by omega
        go_wp2
        go_ret
        refine ⟨true, rfl, ⟨fun _ => ?_, fun _ => rfl⟩, hb⟩
        apply List.ext_getElem?
        intro j
        by_cases hj : j < i
        · exact hsm.out j hj
        · rw [List.getElem?_eq_none (by rw [hn.out]; omega), List.getElem?_eq_none (by rw [hm.out]; omega)]
  · have e0 : ((n : Int) != (m : Int)) = true := by simp; omega
    go_enter Tryd.func10, Tryd.ntmps10
    go_wp2
    go_ret
    refine ⟨false, rfl, ⟨fun h => (by cases h), fun h => ?_⟩, Below.refl _ _⟩
    subst h
    exact absurd (hn.out.symm.trans hm.out) hnm
theorem kid_size {k : Int} {b : Bool} {r t : ByteArray} {ks : List ByteArray} {vs : List Vt} {i : Nat} {u : Vt} (h : vs[i]? = some u) : SizeOf.sizeOf u < SizeOf.sizeOf (Vt.mk k b r t ks vs) := by
  have h1 := List.sizeOf_lt_of_mem (List.mem_of_getElem? h)
  simp only [Vt.mk.sizeOf_spec]
  omega
/-- A value's own cells. -/
theorem ValAt.cells {w : World} {u : Vt} {x : Array Value} (h : ValAt w u (.agg x)) : ∃ ko kc vo vc, x = #[.int .i64 u.kind, .bool u.b, .string u.raw, .string u.text, .slice ko u.keys.length kc, .slice vo u.kids.length vc] := by
  cases h with
  | mk k b r t ks vs ko kc vo vc X hw hz hk hr hv => exact ⟨ko, kc, vo, vc, rfl⟩
end Go.Proofs.YtjlcliicdclooaaDoor
/- quarryref00.SameValue: whether two values are the same. -/
namespace Go.Proofs.YtjlcliicdclooaaDoor
open Go.RowKit Go.Shelf
theorem sizeVl : (Tryd.prog.info? 35).map (·.size) = some 6 := by kernel_rfl
theorem row_range {w : World} {vo : Option Addr} {n : Nat} {X : Nat → Array Value} (h : RowAt w vo n X) {i : Nat} (hi : i < n) : ∃ b off, vo = some ⟨b, off, none⟩ ∧ b < w.heap.size ∧ w.rangeAt b (off + i * 6) (X i).toList ∧ (X i).toList.length = 6 := by
  obtain ⟨h0, b, off, h1, h2, h3⟩ := h i hi
  refine ⟨b, off, h1, h2, fun j v hv => ?_, by rw [Array.length_toList]; exact h0⟩
  have hj : j < 6 := by
    have := (List.getElem?_eq_some_iff.1 hv).1
    rw [Array.length_toList, h0] at this
    exact this
  rw [h3 j hj]
  simpa using hv
theorem no_iff {P : Prop} (h : ¬ P) : (false = true ↔ P) := ⟨fun e => (by cases e), fun p => absurd p h⟩
set_option maxRecDepth 10000 in
set_option maxHeartbeats 8000000 in
theorem sameV_ex : ∀ (n : Nat) (t u : Vt), SizeOf.sizeOf t ≤ n → ∀ (va vb : Value) (w : World), ValAt w t va → ValAt w u vb →
    Calls Tryd.prog 16 #[va, vb] w fun e w' => ∃ B : Bool, e = .returned (.bool B) ∧ (B = true ↔ t = u) ∧ Below w.heap.size w w' := by
  intro n
  induction n with
  | zero =>
    intro t u hs
    cases t
    simp at hs
  | succ n ih =>
    intro t u hs va vb w ha hb
    cases ha with
    | mk k b r t ks vs ko kc vo vc X hw hz hk hr hv =>
    cases hb with
    | mk k' b' r' t' ks' vs' ko' kc' vo' vc' X' hw' hz' hk' hr' hv' =>
    have ih' := hid ih
    have hs' := hid hs
    have hk1 := hid hk
    have hk2 := hid hk'
    have hr1 := hid hr
    have hr2 := hid hr'
    have hv1 := hid hv
    have hv2 := hid hv'
    have hz1 := hid hz
    have hz2 := hid hz'
    obtain ⟨N, hN⟩ : ∃ N, Hid (ks.length = N) := ⟨_, rfl⟩
    obtain ⟨N', hN'⟩ : ∃ N, Hid (ks'.length = N) := ⟨_, rfl⟩
    obtain ⟨M, hM⟩ : ∃ M, Hid (vs.length = M) := ⟨_, rfl⟩
    obtain ⟨M', hM'⟩ : ∃ M, Hid (vs'.length = M) := ⟨_, rfl⟩
    have hsK : Hid (∀ u : World, KeysAt u ko ks → KeysAt u ko' ks' → Calls Tryd.prog 10 #[.slice ko N kc, .slice ko' N' kc'] u fun e w' => ∃ B : Bool, e = .returned (.bool B) ∧ (B = true ↔ ks = ks') ∧ Below u.heap.size u w') := fun u g1 g2 => by
      rw [← hN.out, ← hN'.out]
      exact sameK_calls ks ks' hz1.out.2.2.1 hz2.out.2.2.1 ko ko' kc kc' u g1 g2
    rw [hN.out, hN'.out, hM.out, hM'.out]
    have hMi : (M : Int) ≤ 9223372036854775807 := by have := hz1.out.2.2.2; rw [hM.out] at this; unfold capT at this; omega
    have hMi' : (M' : Int) ≤ 9223372036854775807 := by have := hz2.out.2.2.2; rw [hM'.out] at this; unfold capT at this; omega
    clear ih hs hk hk' hr hr' hv hv' hz hz' hw hw'
    obtain ⟨W1, hW1⟩ : ∃ W, w.alloc (.cells #[.int .i64 k, .bool b, .string r, .string t, .slice ko N kc, .slice vo M vc] 35) = W := ⟨_, rfl⟩
    obtain ⟨W2, hW2⟩ : ∃ W, W1.alloc (.cells #[.int .i64 k', .bool b', .string r', .string t', .slice ko' N' kc', .slice vo' M' vc'] 35) = W := ⟨_, rfl⟩
    have A1 : Hid (At W2 w.heap.size #[.int .i64 k, .bool b, .string r, .string t, .slice ko N kc, .slice vo M vc] 35) := by
      rw [← hW2, ← hW1]
      exact (At.new w _ _).alloc _
    have A2 : Hid (At W2 (w.heap.size + 1) #[.int .i64 k', .bool b', .string r', .string t', .slice ko' N' kc', .slice vo' M' vc'] 35) := by
      have h := At.new W1 #[.int .i64 k', .bool b', .string r', .string t', .slice ko' N' kc', .slice vo' M' vc'] 35
      rw [hW2, ← hW1, World.size_alloc] at h
      exact h
    have hsz1 : W1.heap.size = w.heap.size + 1 := by rw [← hW1, World.size_alloc]
    have B2 : Hid (Below w.heap.size w W2) := by
      rw [← hW2, ← hW1]
      exact ((Below.refl _ w).alloc (Nat.le_refl _) _).alloc (by rw [World.size_alloc]; omega) _
    obtain ⟨a1, ha1⟩ : ∃ a, w.heap.size = a := ⟨_, rfl⟩
    obtain ⟨a2, ha2⟩ : ∃ a, a1 + 1 = a := ⟨_, rfl⟩
    rw [ha1] at A1 hsz1
    rw [ha1, ha2] at A2
    rw [ha2] at hsz1
    have c0 := A1.out.cell 0
    have c1 := A1.out.cell 1
    have c2 := A1.out.cell 2
    have c3 := A1.out.cell 3
    have c4 := A1.out.cell 4
    have c5 := A1.out.cell 5
    have d0 := A2.out.cell 0
    have d1 := A2.out.cell 1
    have d2 := A2.out.cell 2
    have d3 := A2.out.cell 3
    have d4 := A2.out.cell 4
    have d5 := A2.out.cell 5
    simp only [List.getElem?_toArray, List.getElem?_cons_zero, List.getElem?_cons_succ] at c0 c1 c2 c3 c4 c5 d0 d1 d2 d3 d4 d5
    clear ha2
    by_cases e1 : k = k'
    · by_cases e2 : b = b'
      · by_cases e3 : r = r'
        · by_cases e4 : t = t'
          · by_cases e5 : M = M'
            · subst e1 e2 e3 e4 e5
              have f1 : (k != k) = false := by simp
              have f3 : (r.toList != r.toList) = false := by simp
              have f4 : (t.toList != t.toList) = false := by simp
              have f5 : ((M : Int) != (M : Int)) = false := by simp
              have f2 : (b != b) = false := by simp
              go_enter Tryd.func16, Tryd.ntmps16
              go_wp2_with fail
              refine Calls.mono (hsK.out W2 (hk1.out.kept B2.out) (hk2.out.kept B2.out)) ?_
              rintro e w3 ⟨B1, rfl, hB1, hb3⟩
              have A1b := hid (A1.out.keptAll hb3)
              have A2b := hid (A2.out.keptAll hb3)
              have B3 := hid (B2.out.trans (hb3.mono B2.out.size))
              have hB1' := hid hB1
              clear hW1 hW2 hsz1 c0 c1 c2 c3 c4 c5 d0 d1 d2 d3 d4 d5 hb3 hB1 A1 A2 hsK
              cases B1 with
              | false =>
                go_wp2
                go_ret
                refine ⟨false, rfl, no_iff (fun h => ?_), B3.out⟩
                have := hB1'.out.2 (Vt.mk.inj h).2.2.2.2.1
                cases this
              | true =>
                have hks := hid (hB1'.out.1 rfl)
                clear f1 f2 f3 f4 f5
                go_wp2
                go_loopw [5] (fun ii wr => ∃ i : Nat, i ≤ M ∧ ii = .int .i64 (i : Int) ∧ Hid (∀ j, j < i → vs[j]? = vs'[j]?) ∧ Hid (At wr a1 #[.int .i64 k, .bool b, .string r, .string t, .slice ko N kc, .slice vo M vc] 35) ∧ Hid (At wr a2 #[.int .i64 k, .bool b, .string r, .string t, .slice ko' N' kc', .slice vo' M vc'] 35) ∧ Hid (Below w.heap.size w wr)) (fun ii _ => M - (intOf ii).toNat)
                case atStart => exact ⟨0, Nat.zero_le _, rfl, hid (fun j hj => by omega), A1b, A2b, B3⟩
                case round =>
                  obtain ⟨i, hi, rfl, hsm, hA1, hA2, hb⟩ := hrel
                  have c5 := hA1.out.cell 5
                  have d5 := hA2.out.cell 5
                  simp only [List.getElem?_toArray, List.getElem?_cons_zero, List.getElem?_cons_succ] at c5 d5
                  by_cases hlt : i < M
                  · have hli : (i : Int) < (M : Int) := by omega
                    obtain ⟨u1, hu1⟩ : ∃ u, Hid (vs[i]? = some u) := ⟨_, List.getElem?_eq_getElem (by rw [hM.out]; exact hlt)⟩
                    obtain ⟨u2, hu2⟩ : ∃ u, Hid (vs'[i]? = some u) := ⟨_, List.getElem?_eq_getElem (by rw [hM'.out]; exact hlt)⟩
                    obtain ⟨g, o, rfl, hg, hrg, hl1⟩ := row_range (hr1.out.kept hb.out) (i := i) (by rw [hM.out]; exact hlt)
                    obtain ⟨g', o', rfl, hg', hrg', hl2⟩ := row_range (hr2.out.kept hb.out) (i := i) (by rw [hM'.out]; exact hlt)
                    obtain ⟨L1, hL1⟩ : ∃ L, Hid ((X i).toList = L) := ⟨_, rfl⟩
                    obtain ⟨L2, hL2⟩ : ∃ L, Hid ((X' i).toList = L) := ⟨_, rfl⟩
                    rw [hL1.out] at hrg hl1
                    rw [hL2.out] at hrg' hl2
                    have z1 : (Tryd.prog.info? 35).map (·.size) = some L1.length := by rw [hl1]; exact sizeVl
                    have z2 : (Tryd.prog.info? 35).map (·.size) = some L2.length := by rw [hl2]; exact sizeVl
                    have v1 : Hid (ValAt wr u1 (.agg L1.toArray)) := by
                      have := (hv1.out i u1 hu1.out).kept hb.out
                      rw [← hL1.out, Array.toArray_toList]
                      exact this
                    have v2 : Hid (ValAt wr u2 (.agg L2.toArray)) := by
                      have := (hv2.out i u2 hu2.out).kept hb.out
                      rw [← hL2.out, Array.toArray_toList]
                      exact this
                    obtain ⟨S, hS⟩ : ∃ S : Bool, Hid (S = true ↔ u1 = u2) := by
                      by_cases h : u1 = u2
                      · exact ⟨true, hid ⟨fun _ => h, fun _ => rfl⟩⟩
                      · exact ⟨false, hid (no_iff h)⟩
                    have hcall : Hid (∀ wq : World, Below wr.heap.size wr wq → Calls Tryd.prog 16 #[.agg L1.toArray, .agg L2.toArray] wq fun e w' => e = .returned (.bool S) ∧ Below wq.heap.size wq w') := fun wq hq => by
                      have hsz := kid_size (k := k) (b := b) (r := r) (t := t) (ks := ks) hu1.out
                      refine (ih'.out u1 u2 (by have := hs'.out; omega) _ _ wq (v1.out.kept hq) (v2.out.kept hq)).mono ?_
                      rintro e w' ⟨B, rfl, hB, hbb⟩
                      refine ⟨?_, hbb⟩
                      have : B = S := by
                        cases B <;> cases S
                        · rfl
                        · exact absurd (hB.2 (hS.out.1 rfl)) (by simp)
                        · exact absurd (hS.out.2 (hB.1 rfl)) (by simp)
                        · rfl
                      rw [this]
                    have hrgk := hid hrg
                    have hrgk' := hid hrg'
                    clear hrg hrg' hl1 hl2
                    go_wp2
                    refine wp_region_quiet (C := (fun w' => w'.cell? ⟨a1, 5, none⟩ = some (.slice (some ⟨g, o, none⟩) M vc) ∧ w'.cell? ⟨a2, 5, none⟩ = some (.slice (some ⟨g', o', none⟩) M vc') ∧ Below wr.heap.size wr w')) (by kernel_rfl) (by kernel_rfl) (⟨c5, d5, (Below.refl _ _).drew⟩) ?_
                    dsimp only
                    repeat (first
                      | (refine wpQuiet_skip (by rfl) ?_; simp only [Act.put, List.setIfInBounds_toArray, List.set_cons_zero, List.set_cons_succ])
                      | (refine wpQuiet_load 35 _ (g) (o + i * 6) L1 _ (fun wq hq => range_kept hrgk.out hq.2.2) Tryd.underlying35 z1 rfl rfl rfl (by rfl) ?_; simp only [Act.put, List.setIfInBounds_toArray, List.set_cons_zero, List.set_cons_succ])
                      | (refine wpQuiet_load 35 _ (g') (o' + i * 6) L2 _ (fun wq hq => range_kept hrgk'.out hq.2.2) Tryd.underlying35 z2 rfl rfl rfl (by rfl) ?_; simp only [Act.put, List.setIfInBounds_toArray, List.set_cons_zero, List.set_cons_succ])
                      | (refine' wpQuiet_take (by rfl) ?_ ?_
                         rotate_left
                         · (intro wq hq; (try dsimp only at hq); go_simp
                            first
                              | done
                              | with_reducible rfl
                              | (go_at_call 16; have hzz := hcall.out wq hq.2.2; with_reducible refine hzz.mono ?_; clear hzz; rintro e wz ⟨rfl, hb⟩; exact ⟨rfl, (hb.cell (p := ⟨a1, 5, none⟩) (block_lt_of_cell hq.1)).trans hq.1, (hb.cell (p := ⟨a2, 5, none⟩) (block_lt_of_cell hq.2.1)).trans hq.2.1, Below.trans hq.2.2 (Below.mono hb hq.2.2.size)⟩)
                           )
                         simp only [Act.put, List.setIfInBounds_toArray, List.set_cons_zero, List.set_cons_succ]))
                    refine wpQuiet_nil ?_
                    intro w5 hw5
                    have J1 := hid (hA1.out.keptAll hw5.2.2)
                    have J2 := hid (hA2.out.keptAll hw5.2.2)
                    have Jb := hid (hb.out.trans (hw5.2.2.mono hb.out.size))
                    clear hw5 c5 d5 hcall hrgk hrgk'
                    cases S with
                    | true =>
                      have hue := hS.out.1 rfl
                      go_wp2
                      go_roundw
                      case rel => exact ⟨i + 1, by omega, by simp, hid (fun j hj => by
                        by_cases e : j = i
                        · subst e; rw [hu1.out, hu2.out, hue]
                        · exact hsm.out j (by omega)), J1, J2, Jb⟩
                      case measure => simp [intOf]; omega
                    | false =>
                      go_wp2
                      go_ret
                      refine ⟨false, rfl, no_iff (fun h => ?_), Jb.out⟩
                      have h2 := (Vt.mk.inj h).2.2.2.2.2
                      subst h2
                      have h3 := hu1.out
                      rw [hu2.out] at h3
                      injection h3 with h3
                      have := hS.out.2 h3.symm
                      cases this
                  · obtain rfl : i = M := by omega
                    go_wp2
                    go_ret
                    refine ⟨true, rfl, ⟨fun _ => ?_, fun _ => rfl⟩, hb.out⟩
                    have hvs : vs = vs' := by
                      apply List.ext_getElem?
                      intro j
                      by_cases hj : j < i
                      · exact hsm.out j hj
                      · rw [List.getElem?_eq_none (by rw [hM.out]; omega), List.getElem?_eq_none (by rw [hM'.out]; omega)]
                    rw [hvs, hks.out]
            · have f : ((M : Int) != (M' : Int)) = true := by simp; omega
              subst e1 e2 e3 e4
              have f1 : (k != k) = false := by simp
              have f3 : (r.toList != r.toList) = false := by simp
              have f4 : (t.toList != t.toList) = false := by simp
              have f2 : (b != b) = false := by simp
              go_enter Tryd.func16, Tryd.ntmps16
              go_wp2
              go_ret
              refine ⟨false, rfl, no_iff (fun h => e5 ?_), B2.out⟩
              rw [← hM.out, ← hM'.out, (Vt.mk.inj h).2.2.2.2.2]
          · have f : (t.toList != t'.toList) = true := by rw [text_beq, decide_eq_false e4]; rfl
            have f' : (t.toList == t'.toList) = false := by rw [bne] at f; simpa using f
            subst e1 e2 e3
            have f1 : (k != k) = false := by simp
            have f3 : (r.toList != r.toList) = false := by simp
            have f2 : (b != b) = false := by simp
            go_enter Tryd.func16, Tryd.ntmps16
            go_wp2
            go_ret
            exact ⟨false, rfl, no_iff (fun h => e4 (Vt.mk.inj h).2.2.2.1), B2.out⟩
        · have f : (r.toList != r'.toList) = true := by rw [text_beq, decide_eq_false e3]; rfl
          have f' : (r.toList == r'.toList) = false := by rw [bne] at f; simpa using f
          subst e1 e2
          have f1 : (k != k) = false := by simp
          have f2 : (b != b) = false := by simp
          go_enter Tryd.func16, Tryd.ntmps16
          go_wp2
          go_ret
          exact ⟨false, rfl, no_iff (fun h => e3 (Vt.mk.inj h).2.2.1), B2.out⟩
      · have f : (b != b') = true := by cases b <;> cases b' <;> simp_all
        have f' : (b == b') = false := by cases b <;> cases b' <;> simp_all
        subst e1
        have f1 : (k != k) = false := by simp
        go_enter Tryd.func16, Tryd.ntmps16
        go_wp2
        go_ret
        exact ⟨false, rfl, no_iff (fun h => e2 (Vt.mk.inj h).2.1), B2.out⟩
    · have f : (k != k') = true := by simp; exact e1
      have f' : (k == k') = false := by simp; exact e1
      go_enter Tryd.func16, Tryd.ntmps16
      go_wp2
      go_ret
      refine ⟨false, rfl, no_iff (fun h => e1 (Vt.mk.inj h).1), B2.out⟩
/-- Whether two values are the same. -/
theorem sameV_calls (t u : Vt) (va vb : Value) (B : Bool) (hB : Hid (B = true ↔ t = u)) (w : World) (ha : ValAt w t va) (hb : ValAt w u vb) :
    Calls Tryd.prog 16 #[va, vb] w fun e w' => e = .returned (.bool B) ∧ Below w.heap.size w w' := by
  refine (sameV_ex _ t u (Nat.le_refl _) va vb w ha hb).mono ?_
  rintro e w' ⟨C, rfl, hC, hbb⟩
  refine ⟨?_, hbb⟩
  have : C = B := by
    cases C <;> cases B
    · rfl
    · exact absurd (hC.2 (hB.out.1 rfl)) (by simp)
    · exact absurd (hB.out.2 (hC.1 rfl)) (by simp)
    · rfl
  rw [this]
end Go.Proofs.YtjlcliicdclooaaDoor

/-
 tree.Depth and tree.Count.
-/
namespace Go.Proofs.YtjlcliicdclooaaDoor
open Go.RowKit Go.Shelf
theorem ValAt.six {w : World} {u : Vt} {L : List Value} (h : ValAt w u (.agg L.toArray)) : ∃ k b r t ko N kc vo M vc, L = [.int .i64 k, .bool b, .string r, .string t, .slice ko N kc, .slice vo M vc] := by
 obtain ⟨ko, kc, vo, vc, h⟩ := h.cells
 exact ⟨_, _, _, _, _, _, _, _, _, _, by simpa using congrArg Array.toList h⟩
end Go.Proofs.YtjlcliicdclooaaDoor

/-
 quarryref17.First: the place of the first member of a name.
-/
namespace Go.Proofs.YtjlcliicdclooaaDoor
open Go.RowKit Go.Shelf
/-- The first place of a name among names; -1: there is none. -/
def IsFst (ks : List ByteArray) (nm : ByteArray) (f : Int) : Prop := (f = -1 ∧ ∀ j : Nat, ks[j]? ≠ some nm) ∨ ∃ i : Nat, f = (i : Int) ∧ ks[i]? = some nm ∧ ∀ j, j < i → ks[j]? ≠ some nm
set_option maxRecDepth 10000 in
set_option maxHeartbeats 4000000 in
theorem first17_calls (t : Vt) (nm : ByteArray) (va : Value) (w : World) (ha : ValAt w t va) :
  Calls Tryd.prog 58 #[va, .string nm] w fun e w' => ∃ f : Int, e = .returned (.int .i64 f) ∧ IsFst t.keys nm f ∧ Below w.heap.size w w' := by
 cases ha with
 | mk k b r t ks vs ko kc vo vc X hw hz hk hr hv =>
 show Calls _ _ _ _ fun e w' => ∃ f : Int, e = .returned (.int .i64 f) ∧ IsFst ks nm f ∧ Below w.heap.size w w'
 have hk1 := hid hk
 have hz1 := hid hz
 obtain ⟨N, hN⟩ : ∃ N, Hid (ks.length = N) := ⟨_, rfl⟩
 obtain ⟨M, hM⟩ : ∃ M, Hid (vs.length = M) := ⟨_, rfl⟩
 rw [hN.out, hM.out]
 have hNi : (N : Int) ≤ 9223372036854775807 := by have := hz1.out.2.2.1; rw [hN.out] at this; unfold capT at this; omega
 clear hk hr hv hz hw
 have A1 : Hid (At (w.alloc (.cells #[.int .i64 k, .bool b, .string r, .string t, .slice ko N kc, .slice vo M vc] 35)) w.heap.size #[.int .i64 k, .bool b, .string r, .string t, .slice ko N kc, .slice vo M vc] 35) := At.new w _ _
 have B1 : Hid (Below w.heap.size w (w.alloc (.cells #[.int .i64 k, .bool b, .string r, .string t, .slice ko N kc, .slice vo M vc] 35))) := (Below.refl _ w).alloc (Nat.le_refl _) _
 go_enter Tryd.func58, Tryd.ntmps58
 go_wp2
 go_loopw [5] (fun ii wr => ∃ i : Nat, i ≤ N ∧ ii = .int .i64 (i : Int) ∧ Hid (∀ j, j < i → ks[j]? ≠ some nm) ∧ Hid (At wr w.heap.size #[.int .i64 k, .bool b, .string r, .string t, .slice ko N kc, .slice vo M vc] 35) ∧ Hid (Below w.heap.size w wr)) (fun ii _ => N - (intOf ii).toNat)
 case atStart => exact ⟨0, Nat.zero_le _, rfl, hid (fun j hj => by omega), A1, B1⟩
 case round =>
  obtain ⟨i, hi, rfl, hsm, hA, hb⟩ := hrel
  have c4 := hA.out.cell 4
  simp only [List.getElem?_toArray, List.getElem?_cons_zero, List.getElem?_cons_succ] at c4
  by_cases hlt : i < N
  ·have hii : (i : Int) < (N : Int) := by omega
   obtain ⟨p, hp⟩ : ∃ p, Hid (ks[i]? = some p) := ⟨_, List.getElem?_eq_getElem (by rw [hN.out]; exact hlt)⟩
   obtain ⟨-, g, o, rfl, hg, cg⟩ := hk1.out i p hp.out
   have s1 := (hb.out.cell (p := ⟨g, o + i, none⟩) hg).trans cg
   have ad1 : (⟨g, o, none⟩ : Addr).add i = ⟨g, o + i, none⟩ := by by_cases h : i = 0 <;> simp [Addr.add, h]
   clear cg
   by_cases hpq : p = nm
   ·subst hpq
    have ep2 : (p.toList == p.toList) = true := by simp
    go_wp2
    go_ret
    exact ⟨(i : Int), rfl, .inr ⟨i, rfl, hp.out, hsm.out⟩, hb.out⟩
   ·have ep2 : (p.toList != nm.toList) = true := by rw [text_beq, decide_eq_false hpq]; rfl
    have ep3 : (p.toList == nm.toList) = false := by rw [bne] at ep2; simpa using ep2
    go_wp2
    go_roundw
    case rel => exact ⟨i + 1, by omega, by simp, hid (fun j hj => by
     by_cases e : j = i
     ·subst e; rw [hp.out]; intro e; injection e with e; exact hpq e
     ·exact hsm.out j (by omega)), hA, hb⟩
    case measure => simp [intOf]; omega
  ·obtain rfl : i = N := by omega
   go_wp2
   go_ret
   refine ⟨-1, rfl, .inl ⟨rfl, fun j => ?_⟩, hb.out⟩
   by_cases hj : j < i
   ·exact hsm.out j hj
   ·rw [List.getElem?_eq_none (by rw [hN.out]; omega)]
    simp
end Go.Proofs.YtjlcliicdclooaaDoor
