/-
 One step of a pointer, by the reference (by gen_pts.py out of PtX.src).
-/
import Derived.Test.YtjlcliicdclooaaDoorPtS
import Derived.Test.YtjlcliicdclooaaDoorPtW
namespace Go.Proofs.YtjlcliicdclooaaDoor
open Go.RowKit Go.Shelf
/-- What the reference's step answers of a value that is well shaped and lies in w0. -/
def StR (t : Vt) (nm : ByteArray) (w0 w : World) (e : Ending) (w' : World) : Prop := ∃ (x : Value) (u : Vt) (B : Bool), e = .returned (.tuple #[x, .bool B]) ∧ ValAt w0 u x ∧ ((B = true ∧ ∃ j : Nat, stI t nm = some j ∧ t.kids[j]? = some u) ∨ (B = false ∧ u = vt0 ∧ stI t nm = none)) ∧ Below w.heap.size w w'
theorem stI_six {k : Int} {b : Bool} {r t : ByteArray} {ks : List ByteArray} {vs : List Vt} {nm : ByteArray} (h6 : k = 6) : stI (.mk k b r t ks vs) nm = fstO nm ks := by
 unfold stI
 rw [if_neg (show ¬ (Vt.mk k b r t ks vs).kind = 5 by show ¬ k = 5; omega), if_pos (show (Vt.mk k b r t ks vs).kind = 6 from h6)]
 rfl
theorem stI_no {k : Int} {b : Bool} {r t : ByteArray} {ks : List ByteArray} {vs : List Vt} {nm : ByteArray} (h5 : k ≠ 5) (h6 : k ≠ 6) : stI (.mk k b r t ks vs) nm = none := by
 unfold stI
 rw [if_neg (show ¬ (Vt.mk k b r t ks vs).kind = 5 from h5), if_neg (show ¬ (Vt.mk k b r t ks vs).kind = 6 from h6)]
theorem mem_step {t : Vt} {l : Int} (hw : wfV t l = true) (h5 : t.kind ≠ 5) {nm : ByteArray} {u : Vt} {B : Bool} (h : IsMem t nm u B) : (B = true ∧ ∃ j : Nat, stI t nm = some j ∧ t.kids[j]? = some u) ∨ (B = false ∧ u = vt0 ∧ stI t nm = none) := by
 cases t with
 | mk k b r tx ks vs =>
  rcases h with ⟨rfl, h6, hlen, i, hf, hu⟩ | ⟨rfl, rfl, hno⟩
  ·refine .inl ⟨rfl, i, ?_, hu⟩
   rw [stI_six (show k = 6 from h6)]
   rcases hf with ⟨e, -⟩ | ⟨i', e, h1, h2⟩
   ·omega
   ·obtain rfl : i = i' := by omega
    exact fstO_yes h1 h2
  ·refine .inr ⟨rfl, rfl, ?_⟩
   by_cases h6 : k = 6
   ·rw [stI_six h6]
    cases hf : fstO nm ks with
    | none => rfl
    | some q =>
     exfalso
     have hw2 := hw
     unfold wfV at hw2
     rw [Bool.and_eq_true] at hw2
     have hp := hw2.1
     subst h6
     unfold plainV at hp
     simp at hp
     exact hno ⟨rfl, by show ks.length = vs.length; omega, q, (fstO_get hf).1⟩
   ·exact stI_no h5 h6
set_option maxRecDepth 10000 in
set_option maxHeartbeats 8000000 in
theorem stepR_calls (tt : Vt) (l : Int) (hw : wfV tt l = true) (nm : ByteArray) (hnm : nm.size ≤ 9223372036854775807) (va : Value) (w0 w : World) (ha : ValAt w0 tt va) (hbb : Below w0.heap.size w0 w) :
  Calls Tryd.prog 31 #[va, .string nm] w fun e w' => StR tt nm w0 w e w' := by
 obtain ⟨k1, b1, r1, t1, ko1, N1, kc1, vo1, M1, vc1, rfl⟩ := ha.lets
 have hp := hid (fun u : World => plcR_calls nm hnm u)
 have hmem := hid (fun (u : World) (hb : Below w.heap.size w u) => member17_at tt nm _ w0 u ha (hbb.trans (hb.mono hbb.size)))
 have V0 := hid ha
 have hw' := hid hw
 have hbb' := hid hbb
 have hk : Hid (tt.kind = k1) := by cases ha; rfl
 have hM : Hid (tt.kids.length = M1) := by cases ha; rfl
 have hMi : (M1 : Int) ≤ 9223372036854775807 := by cases ha with | mk k b r t ks vs ko kc vo vc X hw hz hk hr hv => have := hz.2.2.2; unfold capT at this; omega
 have hS : Hid (stI tt nm = if k1 = 5 then (if plB nm = true ∧ plN nm nm.size < M1 then some (plN nm nm.size) else none) else if k1 = 6 then fstO nm tt.keys else none) := hid (by unfold stI; rw [hk.out, hM.out])
 have A1 : Hid (At (w.alloc (.cells #[.int .i64 k1, .bool b1, .string r1, .string t1, .slice ko1 N1 kc1, .slice vo1 M1 vc1] 35)) w.heap.size #[.int .i64 k1, .bool b1, .string r1, .string t1, .slice ko1 N1 kc1, .slice vo1 M1 vc1] 35) := At.new w _ _
 have B1 : Hid (Below w.heap.size w (w.alloc (.cells #[.int .i64 k1, .bool b1, .string r1, .string t1, .slice ko1 N1 kc1, .slice vo1 M1 vc1] 35))) := (Below.refl _ w).alloc (Nat.le_refl _) _
 obtain ⟨W1, hW1⟩ : ∃ W, w.alloc (.cells #[.int .i64 k1, .bool b1, .string r1, .string t1, .slice ko1 N1 kc1, .slice vo1 M1 vc1] 35) = W := ⟨_, rfl⟩
 obtain ⟨W2, hW2⟩ : ∃ W, W1.alloc (.cells #[.int .i64 0, .bool false, .string ⟨#[]⟩, .string ⟨#[]⟩, .slice none 0 0, .slice none 0 0] 35) = W := ⟨_, rfl⟩
 rw [hW1] at A1 B1
 have hsz1 : W1.heap.size = w.heap.size + 1 := by rw [← hW1, World.size_alloc]
 have A2 : Hid (At W2 w.heap.size #[.int .i64 k1, .bool b1, .string r1, .string t1, .slice ko1 N1 kc1, .slice vo1 M1 vc1] 35) := by rw [← hW2]; exact A1.out.alloc _
 have Z2 : Hid (At W2 (w.heap.size + 1) #[.int .i64 0, .bool false, .string ⟨#[]⟩, .string ⟨#[]⟩, .slice none 0 0, .slice none 0 0] 35) := by
  have h := At.new W1 #[.int .i64 0, .bool false, .string ⟨#[]⟩, .string ⟨#[]⟩, .slice none 0 0, .slice none 0 0] 35
  rw [hW2, hsz1] at h
  exact h
 have B2 : Hid (Below w.heap.size w W2) := by
  rw [← hW2]
  exact B1.out.alloc (by rw [hsz1]; omega) _
 have c0 : W2.cell? ⟨w.heap.size, 0, none⟩ = some (.int .i64 k1) := A2.out.cell 0
 clear A1 B1 ha hw hbb
 by_cases h5 : k1 = 5
 ·subst h5
  rw [if_pos rfl] at hS
  clear hmem
  cases hB : plB nm with
  | false =>
   have hv := plV_no hB
   rw [hB, hv] at hp
   rw [hB, if_neg (fun h => by cases h.1)] at hS
   clear hB hv
   go_enter Tryd.func31, Tryd.ntmps31
   go_wp2_with fail
   refine Calls.mono (hp.out _) ?_
   rintro e w3 ⟨rfl, b3⟩
   have Z3 := hid (Z2.out.keptAll b3)
   have B3 := hid (B2.out.trans (b3.mono B2.out.size))
   clear b3 c0 hW1 hW2 hsz1 A2 Z2 B2
   have d0 := Z3.out.cell 0
   have d1 := Z3.out.cell 1
   have d2 := Z3.out.cell 2
   have d3 := Z3.out.cell 3
   have d4 := Z3.out.cell 4
   have d5 := Z3.out.cell 5
   have f0 := Z3.out.frozen 0
   have f1 := Z3.out.frozen 1
   have f2 := Z3.out.frozen 2
   have f3 := Z3.out.frozen 3
   have f4 := Z3.out.frozen 4
   have f5 := Z3.out.frozen 5
   simp only [List.getElem?_toArray, List.getElem?_cons_zero, List.getElem?_cons_succ] at d0 d1 d2 d3 d4 d5
   go_wp2
   refine ret_val2 (p := 4) (u := 5) rfl ?_ Z3.out.six rfl ?_ ?_
   ·rfl
   ·rfl
   exact ⟨_, vt0, false, rfl, vt0_at _, .inr ⟨rfl, rfl, hS.out⟩, below_six B3.out (by omega) _ _ _ _ _ _⟩
  | true =>
   have hv := plV_yes hB
   rw [hB, hv] at hp
   rw [hB] at hS
   generalize plN nm nm.size = n at hp hS
   by_cases hnM : n < M1
   ·rw [if_pos ⟨rfl, hnM⟩] at hS
    have hni : (n : Int) < (M1 : Int) := by omega
    obtain ⟨u, hu⟩ : ∃ u, tt.kids[n]? = some u := ⟨_, List.getElem?_eq_getElem (by rw [hM.out]; exact hnM)⟩
    obtain ⟨-, -, g2, o2, k3, b3, r3, t3, ko3, N3, kc3, vo3, M3, vc3, rfl, hrg, V3⟩ := V0.out.kid _ _ _ _ _ _ _ _ _ _ hu
    have V3' := hid V3
    have hrg' := hid (range_kept hrg hbb'.out)
    have hu' := hid hu
    clear hB hv hnM hrg V3 hu
    go_enter Tryd.func31, Tryd.ntmps31
    go_wp2_with fail
    refine Calls.mono (hp.out _) ?_
    rintro e w3 ⟨rfl, b3⟩
    have A3 := hid (A2.out.keptAll b3)
    have Z3 := hid (Z2.out.keptAll b3)
    have B3 := hid (B2.out.trans (b3.mono B2.out.size))
    have hrg3 := hid (range_kept hrg'.out B3.out)
    clear b3 c0 hW1 hW2 hsz1 A2 Z2 B2 hrg'
    have d5 : w3.cell? ⟨w.heap.size, 5, none⟩ = some (.slice (some ⟨g2, o2, none⟩) M1 vc1) := A3.out.cell 5
    have A6 := hid (Z3.out.setCells [.int .i64 k3, .bool b3, .string r3, .string t3, .slice ko3 N3 kc3, .slice vo3 M3 vc3] rfl)
    have B6 := hid (below_setCells B3.out (b := w.heap.size + 1) (by omega) [.int .i64 k3, .bool b3, .string r3, .string t3, .slice ko3 N3 kc3, .slice vo3 M3 vc3] 0)
    generalize hW6 : w3.setCells (w.heap.size + 1) 0 [.int .i64 k3, .bool b3, .string r3, .string t3, .slice ko3 N3 kc3, .slice vo3 M3 vc3] = W6 at A6 B6
    go_wp2_with (first | (refine wpList_load_want 35 _ g2 (o2 + n * 6) [.int .i64 k3, .bool b3, .string r3, .string t3, .slice ko3 N3 kc3, .slice vo3 M3 vc3] _ hrg3.out Tryd.underlying35 sizeVl rfl rfl rfl (by rfl) ?_; simp only [Act.put, List.setIfInBounds_toArray, List.set_cons_zero, List.set_cons_succ]; refine wpList_store_want 35 _ _ (w.heap.size + 1) 0 (List.toArray [.int .i64 k3, .bool b3, .string r3, .string t3, .slice ko3 N3 kc3, .slice vo3 M3 vc3]) (Z3.out.there 6 rfl) sizeVl (by simp [Value.oneCell']) rfl rfl (by rfl) (by rfl) ?_; rw [List.toList_toArray, hW6]; simp only [Act.put]) | fail)
    refine ret_val2 (p := 4) (u := 5) rfl ?_ A6.out rfl ?_ ?_
    ·rfl
    ·rfl
    exact ⟨_, u, true, rfl, V3'.out, .inl ⟨rfl, n, hS.out, hu'.out⟩, B6.out⟩
   ·rw [if_neg (fun h => hnM h.2)] at hS
    have hni : (M1 : Int) ≤ (n : Int) := by omega
    clear hB hv hnM
    go_enter Tryd.func31, Tryd.ntmps31
    go_wp2_with fail
    refine Calls.mono (hp.out _) ?_
    rintro e w3 ⟨rfl, b3⟩
    have A3 := hid (A2.out.keptAll b3)
    have Z3 := hid (Z2.out.keptAll b3)
    have B3 := hid (B2.out.trans (b3.mono B2.out.size))
    clear b3 c0 hW1 hW2 hsz1 A2 Z2 B2
    have e5 : w3.cell? ⟨w.heap.size, 5, none⟩ = some (.slice vo1 M1 vc1) := A3.out.cell 5
    have d0 := Z3.out.cell 0
    have d1 := Z3.out.cell 1
    have d2 := Z3.out.cell 2
    have d3 := Z3.out.cell 3
    have d4 := Z3.out.cell 4
    have d5 := Z3.out.cell 5
    have f0 := Z3.out.frozen 0
    have f1 := Z3.out.frozen 1
    have f2 := Z3.out.frozen 2
    have f3 := Z3.out.frozen 3
    have f4 := Z3.out.frozen 4
    have f5 := Z3.out.frozen 5
    simp only [List.getElem?_toArray, List.getElem?_cons_zero, List.getElem?_cons_succ] at d0 d1 d2 d3 d4 d5
    go_wp2
    refine ret_val2 (p := 4) (u := 5) rfl ?_ Z3.out.six rfl ?_ ?_
    ·rfl
    ·rfl
    exact ⟨_, vt0, false, rfl, vt0_at _, .inr ⟨rfl, rfl, hS.out⟩, below_six B3.out (by omega) _ _ _ _ _ _⟩
 ·have h5b : (k1 == 5) = false := beq_eq_false_iff_ne.2 h5
  clear hp hS
  go_enter Tryd.func31, Tryd.ntmps31
  go_wp2_with (first | refine wpList_load_want 35 _ w.heap.size 0 [.int .i64 k1, .bool b1, .string r1, .string t1, .slice ko1 N1 kc1, .slice vo1 M1 vc1] _ (A2.out.range rfl) Tryd.underlying35 sizeVl rfl rfl rfl (by rfl) ?_ | fail)
  refine Calls.mono (hmem.out _ B2.out) ?_
  rintro e w3 ⟨x, u, Bm, rfl, vx, hmm, bq⟩
  obtain ⟨k3, b3, r3, t3, ko3, N3, kc3, vo3, M3, vc3, rfl⟩ := vx.lets
  have Z3 := hid (Z2.out.keptAll bq)
  have B3 := hid (B2.out.trans (bq.mono B2.out.size))
  have hst := hid (mem_step hw'.out (by rw [hk.out]; exact h5) hmm)
  have vx' := hid vx
  clear bq c0 hW1 hW2 hsz1 A2 Z2 B2 hmm vx hmem
  have A6 := hid (Z3.out.setCells [.int .i64 k3, .bool b3, .string r3, .string t3, .slice ko3 N3 kc3, .slice vo3 M3 vc3] rfl)
  have B6 := hid (below_setCells B3.out (b := w.heap.size + 1) (by omega) [.int .i64 k3, .bool b3, .string r3, .string t3, .slice ko3 N3 kc3, .slice vo3 M3 vc3] 0)
  generalize hW6 : w3.setCells (w.heap.size + 1) 0 [.int .i64 k3, .bool b3, .string r3, .string t3, .slice ko3 N3 kc3, .slice vo3 M3 vc3] = W6 at A6 B6
  go_wp2_with (first | (refine wpList_store_want 35 _ _ (w.heap.size + 1) 0 (List.toArray [.int .i64 k3, .bool b3, .string r3, .string t3, .slice ko3 N3 kc3, .slice vo3 M3 vc3]) (Z3.out.there 6 rfl) sizeVl (by simp [Value.oneCell']) rfl rfl (by rfl) (by rfl) ?_; rw [List.toList_toArray, hW6]; simp only [Act.put]) | fail)
  refine ret_val2 (p := 4) (u := 5) rfl ?_ A6.out rfl ?_ ?_
  ·rfl
  ·rfl
  exact ⟨_, u, Bm, rfl, vx'.out, hst.out, B6.out⟩
end Go.Proofs.YtjlcliicdclooaaDoor
