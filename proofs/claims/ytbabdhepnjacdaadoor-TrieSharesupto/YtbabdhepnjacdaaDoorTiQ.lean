/-
 trie.way.
-/
import Derived.Test.YtbabdhepnjacdaaDoorTiP
import Derived.Test.YtbabdhepnjacdaaDoorTiJ
namespace Go.Proofs.YtbabdhepnjacdaaDoor
open Go.RowKit Go.Shelf
def stC3 (s : Stp) : List Value := [.int .i64 s.kind, .string s.name, .int .i64 s.place]
theorem infoSt3 : (Tryd.prog.info? 53).map (fun i => (i.zero, i.size, i.bytes)) = some (some (.agg #[.int .i64 0, .string ⟨#[]⟩, .int .i64 0]), 3, 32) := by kernel_rfl
theorem make_stp (K : Nat) (hK : K ≤ 4294967296) (u : World) : (Instr.makeSlice 45 (.int .i64 (K : Int)) (.int .i64 (K : Int))).run Tryd.prog u =
  .ok (.slice (some ⟨u.heap.size, 0, none⟩) K K) (u.alloc (.cells (tabC K (fun _ => stC3 ⟨0, ⟨#[]⟩, 0⟩)) 53)) := by
 obtain ⟨i0, hi, hz0, hz1, hz2⟩ := info_partsV infoSt3
 have h := run_make (P := Tryd.prog) u 45 53 i0 _ Tryd.underlying45 hi hz0 .i64 .i64 (K : Int) (K : Int) (by omega) (Int.le_refl _) (by rw [hz2]; omega) (by omega)
 rw [Int.toNat_natCast] at h
 rw [h, hz1]
 have := tab_made #[.int .i64 0, .string ⟨#[]⟩, .int .i64 0] (by decide) K
 simp only [Value.cells]
 rw [show K * 3 = K * (#[Value.int .i64 0, .string ⟨#[]⟩, .int .i64 0] : Array Value).size from rfl, this]
 rfl
theorem PthOf.nm {t : List Nod} (hz : ∀ n ∈ t, ∀ s ∈ n.steps, s.name.size ≤ 1048576) {x : Nat} {p : List Stp} (hp : PthOf t x p) : ∀ s ∈ p, s.name.size ≤ 1048576 := by
 induction hp with
 | root => intro s h; simp at h
 | step hn hx hs h ih =>
  intro s' h'
  rcases List.mem_append.1 h' with h' | h'
  ·exact ih s' h'
  ·obtain rfl := List.mem_singleton.1 h'
   exact hz _ (List.mem_of_getElem? hn) _ (List.mem_of_getElem? hs)
theorem tab_steps {w : World} {b K : Nat} {F : Nat → Stp} {p : List Stp} (h : At w b (tabC K fun i => stC3 (F i)) 53) (hp : p.length = K) (hF : ∀ i, i < K → p[i]? = some (F i)) (hz : ∀ s ∈ p, s.name.size ≤ capT) : StepsAt w (some ⟨b, 0, none⟩) p := fun i s hi => by
 have hl := (List.getElem?_eq_some_iff.1 hi).1
 have h1 := hF i (by omega)
 rw [hi] at h1
 cases h1
 refine ⟨hz _ (List.mem_of_getElem? hi), b, 0, rfl, h.lt, ?_⟩
 have := tab_row (z := 3) h (fun _ _ => rfl) (i := i) (by omega)
 rwa [Nat.zero_add]
set_option maxRecDepth 10000 in
set_option maxHeartbeats 8000000 in
theorem way23_calls (t : List Nod) (N : Nat) (hN : Hid (t.length = N)) (hNi : N ≤ 1048576) (hf : Hid (FrmR t)) (hz : Hid (∀ n ∈ t, ∀ s ∈ n.steps, s.name.size ≤ 1048576)) (G : Nat → Nat × Stp × Nat) (hG : Hid (∀ x, x < N → ArrP t x (G x))) (b x : Nat) (hx : x < N) (p : List Stp) (hp : Hid (PthOf t x p)) (w : World) (hA : Hid (At w b (tabC N fun x => arV (G x)) 86)) :
  Calls Tryd.prog 37 #[.slice (some ⟨b, 0, none⟩) N N, .int .i64 (x : Int)] w fun e w' => (e = .returned (.slice (some ⟨w.heap.size, 0, none⟩) p.length p.length) ∧ StepsAt w' (some ⟨w.heap.size, 0, none⟩) p) ∧ Below w.heap.size w w' := by
 have hNi' : (N : Int) ≤ 1048576 := by omega
 have hxi : (x : Int) < (N : Int) := by omega
 obtain ⟨K, hK⟩ : ∃ K, Hid (p.length = K) := ⟨_, rfl⟩
 have hKb : K ≤ 1048576 := by have := hp.out.len hf.out; have := hK.out; omega
 have hfar : (G x).2.2 = K := by
  obtain ⟨p', h1, h2⟩ := (hG.out x hx).pth
  rw [h2, h1.uniq hf.out hp.out, hK.out]
 have hmk := fun u => make_stp K (by omega) u
 have cf : w.cell? ⟨b, x * 5 + 4, none⟩ = some (.int .i64 (K : Int)) := by
  rw [tab_cell (z := 5) hA.out (fun _ _ => rfl) hx (by decide : 4 < 5)]
  show some _ = _
  rw [hfar]
 have adX : (⟨b, 0, none⟩ : Addr).add (x * 5) = ⟨b, x * 5, none⟩ := by by_cases h : x * 5 = 0 <;> simp [Addr.add, h]
 have adX4 : (⟨b, x * 5, none⟩ : Addr).add 4 = ⟨b, x * 5 + 4, none⟩ := by simp [Addr.add]
 have hbw : Hid (b < w.heap.size) := hid hA.out.lt
 rw [hK.out]
 clear hfar
 go_enter Tryd.func37, Tryd.ntmps37
 go_wp2
 clear cf adX adX4
 go_loopw [1] (fun vv wr => ∃ (y : Nat) (q r : List Stp) (F : Nat → Stp), y < N ∧ vv = .int .i64 (y : Int) ∧ Hid (PthOf t y q) ∧ Hid (p = q ++ r) ∧ Hid (At wr w.heap.size (tabC K fun i => stC3 (F i)) 53) ∧ Hid (∀ i, q.length ≤ i → i < K → p[i]? = some (F i)) ∧ Hid (Below w.heap.size w wr)) (fun vv _ => (intOf vv).toNat)
 case atStart => exact ⟨x, p, [], fun _ => ⟨0, ⟨#[]⟩, 0⟩, hx, rfl, hp, hid (by simp), hid (At.new _ _ _), hid (fun i h1 h2 => by have := hK.out; omega), hid ((Below.refl _ _).alloc (Nat.le_refl _) _)⟩
 case round =>
  clear hmk
  obtain ⟨y, q, r, F, hyN, rfl, hq, hpq, hR, hF, hb⟩ := hrel
  by_cases hy0 : y = 0
  ·subst hy0
   have hq0 : q = [] := hq.out.uniq hf.out .root
   subst hq0
   have hfin := hid (tab_steps hR.out hK.out (fun i hi => hF.out i (Nat.zero_le _) hi) (fun s hs => by have := hp.out.nm hz.out s hs; unfold capT; omega))
   clear hF hR
   go_wp2
   go_ret
   exact ⟨⟨rfl, hfin.out⟩, hb.out⟩
  ·have f0 : decide ((0 : Int) < (y : Int)) = true := decide_eq_true (by omega)
   have f0' : decide (0 < y) = true := decide_eq_true (by omega)
   obtain ⟨n, j, p', h1, h2, h3, h4, h5⟩ : ∃ (n : Nod) (j : Nat) (p' : List Stp), t[(G y).1]? = some n ∧ n.tos[j]? = some (y : Int) ∧ n.steps[j]? = some (G y).2.1 ∧ PthOf t (G y).1 p' ∧ (G y).2.2 = p'.length + 1 := by
    rcases hG.out y hyN with ⟨h, -⟩ | h
    ·exact absurd h hy0
    ·exact h
   have hrow := hid (tab_row (z := 5) (hA.out.keptAll hb.out) (fun _ _ => rfl) hyN)
   obtain ⟨D, hD⟩ : ∃ D, Hid (p'.length = D) := ⟨_, rfl⟩
   have hqq := hq.out.uniq hf.out (.step h1 h2 h3 h4)
   have hfN : (G y).1 < N := by have := (List.getElem?_eq_some_iff.1 h1).1; have := hN.out; omega
   have hfy : (G y).1 < y := by have := (frm_lnk hf.out).2 _ n h1 _ (List.mem_of_getElem? h2); omega
   have hDK : D < K := by
    have e1 := hK.out
    have e2 := hD.out
    rw [hpq.out, hqq, List.length_append, List.length_append, List.length_singleton] at e1
    omega
   have hpD : p[D]? = some (G y).2.1 := by
    rw [hpq.out, hqq, ← hD.out, List.append_assoc, List.getElem?_append_right (Nat.le_refl _)]
    simp
   have hp4 := hid h4
   have hpq' : Hid (p = p' ++ ((G y).2.1 :: r)) := hid (by
    have h := hpq.out
    rw [hqq, List.append_assoc] at h
    exact h)
   have hF' : Hid (∀ i, p'.length ≤ i → i < K → p[i]? = some (if i = D then (G y).2.1 else F i)) := hid (fun i h6 h7 => by
    by_cases e : i = D
    ·rw [if_pos e, e]; exact hpD
    ·rw [if_neg e]
     refine hF.out i ?_ h7
     rw [hqq, List.length_append, List.length_singleton]
     have := hD.out
     omega)
   rw [hD.out] at h5
   have hsn : (G y).2.1.name.size ≤ 1048576 := hz.out n (List.mem_of_getElem? h1) _ (List.mem_of_getElem? h3)
   generalize hg : G y = gy at *
   obtain ⟨f, ⟨sk, sn, sp⟩, d⟩ := gy
   dsimp only at *
   subst h5
   have hcl := hid (fun u => cloneT_calls sn (by omega) u)
   have hrow' := hid (show wr.rangeAt b (y * 5) [.int .i64 (f : Int), .int .i64 sk, .string sn, .int .i64 sp, .int .i64 ((D + 1 : Nat) : Int)] from hrow.out)
   have hset := hid (fun (u : World) (hu : At u w.heap.size (tabC K fun i => stC3 (F i)) 53) => (show At (u.setCells w.heap.size (D * 3) [.int .i64 sk, .string sn, .int .i64 sp]) w.heap.size (tabC K fun i => stC3 (if i = D then ⟨sk, sn, sp⟩ else F i)) 53 from by
    have h := tab_set (z := 3) hu (fun _ _ => rfl) (by decide) hDK (v := stC3 ⟨sk, sn, sp⟩) rfl
    rwa [tabC_congr (D := fun i => stC3 (if i = D then ⟨sk, sn, sp⟩ else F i)) (fun k _ => by split <;> rfl)] at h))
   have hyi : (y : Int) < (N : Int) := by omega
   have hDi : (D : Int) < (K : Int) := by omega
   have hKi : (K : Int) ≤ 1048576 := by omega
   have hw0 : IntKind.i64.wrap (D : Int) = (D : Int) := by rw [IntKind.wrap_i64]; omega
   have adY : (⟨b, 0, none⟩ : Addr).add (y * 5) = ⟨b, y * 5, none⟩ := by by_cases h : y * 5 = 0 <;> simp [Addr.add, h]
   have adD : (⟨w.heap.size, 0, none⟩ : Addr).add (D * 3) = ⟨w.heap.size, D * 3, none⟩ := by by_cases h : D * 3 = 0 <;> simp [Addr.add, h]
   have z1 : (Tryd.prog.info? 86).map (·.size) = some ([.int .i64 (f : Int), .int .i64 sk, .string sn, .int .i64 sp, .int .i64 ((D + 1 : Nat) : Int)] : List Value).length := sizeAr
   obtain ⟨g, hgq⟩ : ∃ g, wr.heap.size = g := ⟨_, rfl⟩
   have hgw : Hid (w.heap.size < g) := hid (by rw [← hgq]; exact hR.out.lt)
   obtain ⟨W1, hW1⟩ : ∃ W, wr.alloc (.cells #[.int .i64 (f : Int), .int .i64 sk, .string sn, .int .i64 sp, .int .i64 ((D : Int) + 1)] 86) = W := ⟨_, rfl⟩
   have b1 : Below wr.heap.size wr W1 := by rw [← hW1]; exact (Below.refl _ wr).alloc (Nat.le_refl _) _
   have A1 : At W1 g #[.int .i64 (f : Int), .int .i64 sk, .string sn, .int .i64 sp, .int .i64 ((D : Int) + 1)] 86 := by rw [← hW1, ← hgq]; exact At.new _ _ _
   have B1 := hid (hb.out.trans (b1.mono hb.out.size))
   have R1 := hid (hR.out.keptAll b1)
   have c2 := A1.cell 2
   simp only [List.getElem?_toArray, List.getElem?_cons_zero, List.getElem?_cons_succ] at c2
   have A1' := hid A1
   clear h1 h2 h3 h4 hqq hpD hrow b1 A1 hR hF hg hsn
   go_wp2_with (first | refine wpList_load_want 86 _ b (y * 5) [.int .i64 (f : Int), .int .i64 sk, .string sn, .int .i64 sp, .int .i64 ((D + 1 : Nat) : Int)] _ hrow'.out Tryd.underlying86 z1 rfl rfl rfl (by rfl) ?_ | fail)
   refine Calls.mono (hcl.out _) ?_
   rintro e w3 ⟨rfl, b3⟩
   have A3 := A1'.out.keptAll b3
   have R3 := hid (R1.out.keptAll b3)
   have B3 := hid (B1.out.trans (b3.mono B1.out.size))
   have fr3 := A3.frozen 2
   have d2 := A3.cell 2
   simp only [List.getElem?_toArray, List.getElem?_cons_zero, List.getElem?_cons_succ] at d2
   obtain ⟨W4, hW4⟩ : ∃ W, w3.setCell ⟨g, 2, none⟩ (.string sn) = W := ⟨_, rfl⟩
   have A4 : At W4 g #[.int .i64 (f : Int), .int .i64 sk, .string sn, .int .i64 sp, .int .i64 ((D : Int) + 1)] 86 := by
    have h := A3.set 2 (.string sn)
    rw [hW4] at h
    exact h
   have R4 : At W4 w.heap.size (tabC K fun i => stC3 (F i)) 53 := by rw [← hW4]; exact R3.out.other (by show w.heap.size ≠ g; have := hgw.out; omega) _
   have B4 := hid (show Below w.heap.size w W4 by rw [← hW4]; exact B3.out.setCell (p := ⟨g, 2, none⟩) (by show w.heap.size ≤ g; have := hgw.out; omega) _)
   have hth := hid (tab_there (z := 3) R4 (fun _ _ => rfl) hDK)
   have e4 := A4.cell 4
   simp only [List.getElem?_toArray, List.getElem?_cons_zero, List.getElem?_cons_succ] at e4
   have hrg4 : Hid (W4.rangeAt g 1 [.int .i64 sk, .string sn, .int .i64 sp]) := hid (fun k v hk => by
    match k, hk with
    | 0, hk => simp at hk; subst hk; exact A4.cell 1
    | 1, hk => simp at hk; subst hk; exact A4.cell 2
    | 2, hk => simp at hk; subst hk; exact A4.cell 3
    | k + 3, hk => simp at hk)
   obtain ⟨W5, hW5⟩ : ∃ W, W4.setCells w.heap.size (D * 3) [.int .i64 sk, .string sn, .int .i64 sp] = W := ⟨_, rfl⟩
   have A5 : At W5 g #[.int .i64 (f : Int), .int .i64 sk, .string sn, .int .i64 sp, .int .i64 ((D : Int) + 1)] 86 := by rw [← hW5]; exact A4.setCells_other (by have := hgw.out; omega) _ _
   have R5 := hid (show At W5 w.heap.size (tabC K fun i => stC3 (if i = D then ⟨sk, sn, sp⟩ else F i)) 53 by rw [← hW5]; exact hset.out W4 R4)
   have B5 := hid (show Below w.heap.size w W5 by rw [← hW5]; exact below_setCells B4.out (Nat.le_refl _) _ _)
   have g0 := A5.cell 0
   simp only [List.getElem?_toArray, List.getElem?_cons_zero] at g0
   have z2 : (Tryd.prog.info? 53).map (·.size) = some ([.int .i64 sk, .string sn, .int .i64 sp] : List Value).length := sizeStp
   clear b3 A3 R3 hcl c2 hW1 A4 R4 A5 hset R1 A1'
   go_wp2_with (first | refine wpList_load_want 53 _ g 1 [.int .i64 sk, .string sn, .int .i64 sp] _ hrg4.out Tryd.underlying53 z2 rfl rfl rfl (by rfl) ?_ | refine wpList_store_want 53 _ _ w.heap.size (D * 3) #[.int .i64 sk, .string sn, .int .i64 sp] hth.out sizeStp (by simp [Value.oneCell']) rfl rfl rfl (by rfl) ?_ | fail)
   have hW5' : W4.setCells w.heap.size (D * 3) (#[.int .i64 sk, .string sn, .int .i64 sp] : Array Value).toList = W5 := hW5
   clear hW5
   go_wp2
   go_roundw
   case rel => exact ⟨f, p', ⟨sk, sn, sp⟩ :: r, _, hfN, rfl, hp4, hpq', R5, hF', B5⟩
   case measure => simp [intOf]; omega
end Go.Proofs.YtbabdhepnjacdaaDoor
