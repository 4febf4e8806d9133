/-
 trie's growth: numbered.
-/
import Derived.Test.YtbabdhepnjacdaaDoorTiZ
namespace Go.Proofs.YtbabdhepnjacdaaDoor
open Go.RowKit Go.Shelf
/-- What the rows hold. -/
def RelT (T : List Nod) (ln : Nat → Nat → Nat) (vl : Nat → Nat → List Value) (nb : Nat → Nat) : Prop := ∀ (a : Nat) (n : Nod), T[a]? = some n → (ln a 0 = n.steps.length ∧ vl a 0 = n.steps.flatMap stC3) ∧ (ln a 1 = n.tos.length ∧ vl a 1 = (n.tos.map fun x => nb x.toNat).map ptrV) ∧ (ln a 2 = n.ends.length ∧ vl a 2 = inC n.ends)
def WfT (T : List Nod) : Prop := ∀ (a : Nat) (n : Nod), T[a]? = some n → n.steps.length = n.tos.length ∧ (∀ s ∈ n.steps, s.name.size ≤ capT) ∧ stpB n.steps ∧ (∀ x ∈ n.tos, (a : Int) < x ∧ x < (T.length : Int)) ∧ (∀ x ∈ n.ends, 0 ≤ x ∧ x < 256) ∧ n.steps.length ≤ 1048576
theorem infoNd : (Tryd.prog.info? 50).map (fun i => (i.zero, i.size, i.bytes)) = some (some (.agg #[.slice none 0 0, .slice none 0 0, .slice none 0 0]), 3, 72) := by kernel_rfl
theorem sizeNd : (Tryd.prog.info? 50).map (·.size) = some 3 := by kernel_rfl
theorem make_nod (K : Nat) (hK : K ≤ 2097152) (u : World) : (Instr.makeSlice 23 (.int .i64 (K : Int)) (.int .i64 (K : Int))).run Tryd.prog u =
  .ok (.slice (some ⟨u.heap.size, 0, none⟩) K K) (u.alloc (.cells (tabC K (fun _ => [.slice none 0 0, .slice none 0 0, .slice none 0 0])) 50)) := by
 obtain ⟨i0, hi, hz0, hz1, hz2⟩ := info_partsV infoNd
 have h := run_make (P := Tryd.prog) u 23 50 i0 _ Tryd.underlying23 hi hz0 .i64 .i64 (K : Int) (K : Int) (by omega) (Int.le_refl _) (by rw [hz2]; omega) (by omega)
 rw [Int.toNat_natCast] at h
 rw [h, hz1]
 have := tab_made #[.slice none 0 0, .slice none 0 0, .slice none 0 0] (by decide) K
 simp only [Value.cells]
 rw [show K * 3 = K * (#[Value.slice none 0 0, .slice none 0 0, .slice none 0 0] : Array Value).size from rfl, this]
theorem own_steps {w : World} {B n c : Nat} {so : Option Addr} {ss : List Stp} (h : w.ownsRow B 53 3 (.slice so n c) ss.length (ss.flatMap stC3)) (hz : ∀ s ∈ ss, s.name.size ≤ capT) : n = ss.length ∧ StepsAt w so ss := StO.row ⟨h, fun _ s hi => hz s (List.mem_of_getElem? hi)⟩
theorem heap_setCells {b g : Nat} (hg : g ≠ b) : ∀ (vs : List Value) (o : Nat) (w : World), (w.setCells b o vs).heap[g]? = w.heap[g]? := by
 intro vs
 induction vs with
 | nil => exact fun _ _ => rfl
 | cons v vs ih => exact fun o w => (ih (o + 1) _).trans (Below.heap_setCell w ⟨b, o, none⟩ v g hg)
theorem te_nd {k : Nat} (hk : k < 3) : (50 : TypeId) ≠ teF k := by
 match k, hk with
 | 0, _ => decide
 | 1, _ => decide
 | 2, _ => decide
theorem GrX.other {B gb K tb : Nat} {w w' : World} {ln : Nat → Nat → Nat} {vl : Nat → Nat → List Value} {nb : Nat → Nat} {v : Value} {vv : Nat → Nat → Value} {num : Nat → Int} {cs : Array Value} (h : GrX B w gb K ln vl nb v vv num) (hA : At w tb cs 50) (ho : ∀ g, g ≠ tb → w'.heap[g]? = w.heap[g]?) : GrX B w' gb K ln vl nb v vv num where
 box := (ho gb (at_ne h.box hA (by decide))).trans h.box
 boxB := h.boxB
 row := own_on h.row (fun g hg _ _ => ho g (fun e => by subst e; exact own_ne h.row hA (by decide) hg))
 node := fun i hi => (ho (nb i) (at_ne (h.node i hi) hA (by decide))).trans (h.node i hi)
 nodeB := h.nodeB
 inj := h.inj
 own := fun i k hi hk => own_on (h.own i k hi hk) (fun g hg _ _ => ho g (fun e => by subst e; exact own_ne (h.own i k hi hk) hA (te_nd hk) hg))
 apt := h.apt
 aptG := h.aptG
set_option maxRecDepth 10000 in
set_option maxHeartbeats 8000000 in
theorem numbered23_calls (B gb : Nat) (T : List Nod) (Nn : Nat) (hK : Hid (T.length = Nn)) (hKb : Nn ≤ 1048576) (hW : Hid (WfT T)) (nb : Nat → Nat) (ln : Nat → Nat → Nat) (vl : Nat → Nat → List Value) (hR : Hid (RelT T ln vl nb)) (w : World) (h : Hid (GrS B w gb Nn ln vl nb)) (hBw : B ≤ w.heap.size) :
  Calls Tryd.prog 32 #[.pointer (some ⟨gb, 0, none⟩)] w fun e w' => (∃ tb, e = .returned (.slice (some ⟨tb, 0, none⟩) Nn Nn) ∧ NodesAt w' (some ⟨tb, 0, none⟩) T) ∧ Below B w w' := by
 obtain ⟨v, vv, num, hX⟩ := h.out
 have hKi : (Nn : Int) ≤ 1048576 := by omega
 obtain ⟨vo, vc, rfl⟩ := own_shape hX.row
 have d0 := hX.box.cell 0
 simp only [List.getElem?_toArray, List.getElem?_cons_zero] at d0
 have hX' := hid hX
 have hmk := fun u => make_nod Nn (by omega) u
 have hptr := hid (fun (u : World) (num : Nat → Int) (hu : GrX B u gb Nn ln vl nb (.slice vo Nn vc) vv num) (i : Nat) (hi : i < Nn) => (show ∃ g, vo = some ⟨g, 0, none⟩ ∧ g < u.heap.size ∧ u.cell? ⟨g, i, none⟩ = some (.pointer (some ⟨nb i, 0, none⟩)) from by
  have hr := hu.row
  have e : (List.range Nn).map (fun i => ptrV (nb i)) = ((List.range Nn).map nb).map ptrV := by rw [List.map_map]; rfl
  rw [e] at hr
  have hl : ((List.range Nn).map nb).length = Nn := by simp
  exact pt_cell (tos := (List.range Nn).map nb) (by rw [hl]; exact hr) (j := i) (by simp [hi])))
 clear hX
 go_enter Tryd.func32, Tryd.ntmps32
 go_wp2
 clear d0
 go_loopw [13] (fun ii wr => ∃ (i : Nat) (num : Nat → Int), i ≤ Nn ∧ ii = .int .i64 (i : Int) ∧ Hid (GrX B wr gb Nn ln vl nb (.slice vo Nn vc) vv num) ∧ Hid (∀ q, q < i → num q = (q : Int)) ∧ Hid (Below B w wr)) (fun ii _ => Nn - (intOf ii).toNat)
 case atStart => exact ⟨0, num, Nat.zero_le _, rfl, hX', hid (fun q h => by omega), hid (Below.refl _ _)⟩
 case round =>
  obtain ⟨i, num, hi, rfl, hG, hnum, hb⟩ := hrel
  by_cases hlt : i < Nn
  ·have hli : (i : Int) < (Nn : Int) := by omega
   have hi' := hid (show i + 1 ≤ Nn by omega)
   obtain ⟨g, hvo, hg, hc⟩ := hptr.out wr num hG.out i hlt
   have ad1 : (⟨g, 0, none⟩ : Addr).add i = ⟨g, i, none⟩ := by by_cases h : i = 0 <;> simp [Addr.add, h]
   have n3 := (hG.out.node i hlt).cell 3
   simp only [List.getElem?_toArray, List.getElem?_cons_zero, List.getElem?_cons_succ] at n3
   have f3 := (hG.out.node i hlt).frozen 3
   have G2 := hid (hG.out.num hlt (i : Int))
   have N2 : Hid (∀ q, q < i + 1 → (if q = i then (i : Int) else num q) = (q : Int)) := hid (fun q hq => by
    by_cases e : q = i
    ·subst e; exact if_pos rfl
    ·rw [if_neg e]; exact hnum.out q (by omega))
   have B2 := hid (hb.out.setCell (p := ⟨nb i, 3, none⟩) (hG.out.nodeB i hlt) (.int .i64 (i : Int)))
   clear hg hG hnum hb
   go_wp2
   go_roundw
   case rel => exact ⟨i + 1, _, hi'.out, by simp, G2, N2, B2⟩
   case measure => simp [intOf]; have := hi'.out; omega
  ·obtain rfl : Nn = i := by omega
   have d0 := hG.out.box.cell 0
   simp only [List.getElem?_toArray, List.getElem?_cons_zero] at d0
   obtain ⟨tb, htb⟩ : ∃ tb, wr.heap.size = tb := ⟨_, rfl⟩
   obtain ⟨W1, hW1⟩ : ∃ W, wr.alloc (.cells (tabC Nn (fun _ => [.slice none 0 0, .slice none 0 0, .slice none 0 0])) 50) = W := ⟨_, rfl⟩
   have b1 : Below wr.heap.size wr W1 := by rw [← hW1]; exact (Below.refl _ wr).alloc (Nat.le_refl _) _
   have A1 := hid (show At W1 tb (tabC Nn (fun _ => [.slice none 0 0, .slice none 0 0, .slice none 0 0])) 50 by rw [← hW1, ← htb]; exact At.new _ _ _)
   have G1 := hid (hG.out.kept b1)
   have hBr : B ≤ wr.heap.size := Nat.le_trans hBw hb.out.size
   have B1 := hid (hb.out.trans (b1.mono hBr))
   have hBtb := hid (show B ≤ tb by rw [← htb]; exact hBr)
   have hnbt := hid (fun (q : Nat) (hq : q < Nn) => (show nb q < tb by rw [← htb]; exact (hG.out.node q hq).lt))
   have e0 := G1.out.box.cell 0
   simp only [List.getElem?_toArray, List.getElem?_cons_zero] at e0
   have hN := hid hnum.out
   clear b1 hG hnum hb hBr
   go_wp2
   clear hmk d0 e0 hW1
   go_loopw [34] (fun ii wr => ∃ (i : Nat) (C : Nat → List Value), i ≤ Nn ∧ ii = .int .i64 (i : Int) ∧ Hid (∀ x, (C x).length = 3) ∧ Hid (At wr tb (tabC Nn C) 50) ∧ Hid (GrX B wr gb Nn ln vl nb (.slice vo Nn vc) vv num) ∧
    Hid (∀ (q : Nat) (n : Nod), q < i → T[q]? = some n → ∃ ta, C q = [vv q 0, .slice (some ⟨ta, 0, none⟩) n.tos.length n.tos.length, vv q 2] ∧ tb < ta ∧ IntsZ wr (some ⟨ta, 0, none⟩) n.tos) ∧ Hid (Below B w wr)) (fun ii _ => Nn - (intOf ii).toNat)
   case atStart => exact ⟨0, fun _ => [.slice none 0 0, .slice none 0 0, .slice none 0 0], Nat.zero_le _, rfl, hid (fun _ => rfl), A1, G1, hid (fun q n h => by omega), B1⟩
   case round =>
    clear A1 G1 B1
    obtain ⟨i, C, hi, rfl, hC, hA, hG, hE, hb⟩ := hrel
    by_cases hlt : i < Nn
    ·have hli : (i : Int) < (Nn : Int) := by omega
     have hi' := hid (show i + 1 ≤ Nn by omega)
     obtain ⟨n, hn⟩ : ∃ n, Hid (T[i]? = some n) := ⟨_, List.getElem?_eq_getElem (by rw [hK.out]; exact hlt)⟩
     obtain ⟨g, hvo, hg, hc⟩ := hptr.out wr num hG.out i hlt
     have ad1 : (⟨g, 0, none⟩ : Addr).add i = ⟨g, i, none⟩ := by by_cases h : i = 0 <;> simp [Addr.add, h]
     obtain ⟨r0, r1, r2⟩ := hR.out i n hn.out
     have w0 := hG.out.own i 0 hlt (by decide)
     have w1 := hG.out.own i 1 hlt (by decide)
     have w2 := hG.out.own i 2 hlt (by decide)
     obtain ⟨s0, c0, v0⟩ := own_shape w0
     obtain ⟨s1, c1, v1⟩ := own_shape w1
     obtain ⟨s2, c2, v2⟩ := own_shape w2
     obtain ⟨M, hM⟩ : ∃ M, Hid (n.tos.length = M) := ⟨_, rfl⟩
     have hwf := hW.out i n hn.out
     have hMb : M ≤ 1048576 := by have := hwf.2.2.2.2.2; have := hwf.1; have := hM.out; omega
     rw [r1.1, hM.out] at v1
     have w1' : wr.ownsRow B 59 1 (.slice s1 M c1) (n.tos.map fun x => nb x.toNat).length ((n.tos.map fun x => nb x.toNat).map ptrV) := by
      rw [r1.1, r1.2, v1] at w1
      rw [List.length_map]
      exact w1
     have hcell := hid (fun (u : World) (hu : Below wr.heap.size wr u) => (show u.cell? ⟨nb i, 0, none⟩ = some (.slice s0 (ln i 0) c0) ∧ u.cell? ⟨nb i, 1, none⟩ = some (.slice s1 M c1) ∧ u.cell? ⟨nb i, 2, none⟩ = some (.slice s2 (ln i 2) c2) from by
      have hnd := (hG.out.node i hlt).keptAll hu
      have x0 := hnd.cell 0
      have x1 := hnd.cell 1
      have x2 := hnd.cell 2
      simp only [List.getElem?_toArray, List.getElem?_cons_zero, List.getElem?_cons_succ] at x0 x1 x2
      rw [v0] at x0
      rw [v1] at x1
      rw [v2] at x2
      exact ⟨x0, x1, x2⟩))
     have hnums := hid (fun (u : World) (hu : Below wr.heap.size wr u) => numbers23_calls (n.tos.map fun x => nb x.toNat) n.tos M hMb (hid (by rw [List.length_map]; exact hM.out)) hM (hid (fun x hx => by have := hwf.2.2.2.1 x hx; have := hK.out; unfold i64B; omega)) s1 c1 u (hid (fun j b hj => by
       obtain ⟨g, h1, h2, h3⟩ := pt_cell w1' hj
       exact ⟨g, h1, Nat.lt_of_lt_of_le h2 hu.size, (hu.cell (p := ⟨g, j, none⟩) h2).trans h3⟩)) (hid (fun j b x hj hx => by
       rw [List.getElem?_map, hx] at hj
       cases hj
       have hx2 := hwf.2.2.2.1 x (List.mem_of_getElem? hx)
       have hxK : x.toNat < Nn := by have := hK.out; omega
       have hnd := (hG.out.node x.toNat hxK).keptAll hu
       have x3 := hnd.cell 3
       simp only [List.getElem?_toArray, List.getElem?_cons_zero, List.getElem?_cons_succ] at x3
       refine ⟨hnd.lt, ?_⟩
       rw [x3, hN.out _ hxK]
       congr 2
       omega)))
     have hth := hid (tab_there (z := 3) hA.out (fun q _ => hC.out q) hlt)
     have hS0 := hid (show wr.drew.cell? ⟨nb i, 0, none⟩ = some (.slice s0 (ln i 0) c0) ∧ wr.drew.cell? ⟨nb i, 1, none⟩ = some (.slice s1 M c1) ∧ wr.drew.cell? ⟨nb i, 2, none⟩ = some (.slice s2 (ln i 2) c2) from hcell.out _ (Below.refl _ _).drew)
     have hv0 := hid v0
     have hv2 := hid v2
     have adT : (⟨tb, 0, none⟩ : Addr).add (i * 3) = ⟨tb, i * 3, none⟩ := by by_cases h : i * 3 = 0 <;> simp [Addr.add, h]
     have htb2 := hid hA.out.lt
     have hBwr : Hid (B ≤ wr.heap.size) := hid (Nat.le_trans hBw hb.out.size)
     clear hg w0 w1 w2 v0 v1 v2 r0 r1 r2 hwf w1'
     go_wp2
     clear hvo ad1 hc
     rename_i Kr hKr
     refine wp_region_held_drew (S := fun u => u.cell? ⟨nb i, 0, none⟩ = some (.slice s0 (ln i 0) c0) ∧ u.cell? ⟨nb i, 1, none⟩ = some (.slice s1 M c1) ∧ u.cell? ⟨nb i, 2, none⟩ = some (.slice s2 (ln i 2) c2)) (by kernel_rfl) hS0.out (fun hH => ?_)
     (refine' wpAnyH_take (i := 0) rfl (by kernel_rfl) (by kernel_rfl) (by kernel_rfl) (fun _ _ _ h => h) (Or.inl ⟨by rfl, ?_⟩) (by assumption) ?_; rotate_left; (· (intro wq hq; (try dsimp only at hq); go_simp; first | done | with_reducible rfl)); simp only [Act.put, List.getElem_toArray, List.getElem_cons_zero, List.setIfInBounds_toArray, List.set_cons_zero, List.set_cons_succ])
     (refine' wpAnyH_take (i := 1) rfl (by kernel_rfl) (by kernel_rfl) (by kernel_rfl) (fun _ _ _ h => h) (Or.inl ⟨by rfl, ?_⟩) (by assumption) ?_; rotate_left; (· (intro wq hq; (try dsimp only at hq); go_simp; first | done | with_reducible rfl)); simp only [Act.put, List.getElem_toArray, List.getElem_cons_zero, List.getElem_cons_succ, List.setIfInBounds_toArray, List.set_cons_zero, List.set_cons_succ])
     (refine' wpAnyH_take (i := 2) rfl (by kernel_rfl) (by kernel_rfl) (by kernel_rfl) (fun _ _ _ h => h) (Or.inl ⟨by rfl, ?_⟩) (by assumption) ?_; rotate_left; (· (intro wq hq; (try dsimp only at hq); go_simp; first | done | with_reducible rfl)); simp only [Act.put, List.getElem_toArray, List.getElem_cons_zero, List.getElem_cons_succ, List.setIfInBounds_toArray, List.set_cons_zero, List.set_cons_succ])
     (refine' wpAnyH_take (i := 3) rfl (by kernel_rfl) (by kernel_rfl) (by kernel_rfl) (fun _ _ _ h => h) (Or.inl ⟨by rfl, ?_⟩) (by assumption) ?_; rotate_left; (· (intro wq hq; (try dsimp only at hq); go_simp; first | done | with_reducible rfl)); simp only [Act.put, List.getElem_toArray, List.getElem_cons_zero, List.getElem_cons_succ, List.setIfInBounds_toArray, List.set_cons_zero, List.set_cons_succ])
     (refine' wpAnyH_take (i := 4) rfl (by kernel_rfl) (by kernel_rfl) (by kernel_rfl) (fun _ _ _ h => h) (Or.inl ⟨by rfl, ?_⟩) (by assumption) ?_; rotate_left; (· (intro wq hq; (try dsimp only at hq); go_simp; first | done | with_reducible rfl)); simp only [Act.put, List.getElem_toArray, List.getElem_cons_zero, List.getElem_cons_succ, List.setIfInBounds_toArray, List.set_cons_zero, List.set_cons_succ])
     (refine' wpAnyH_take (i := 5) rfl (by kernel_rfl) (by kernel_rfl) (by kernel_rfl) (fun _ _ _ h => h) (Or.inl ⟨by rfl, ?_⟩) (by assumption) ?_; rotate_left; (· (intro wq hq; (try dsimp only at hq); go_simp; first | done | with_reducible rfl)); simp only [Act.put, List.getElem_toArray, List.getElem_cons_zero, List.getElem_cons_succ, List.setIfInBounds_toArray, List.set_cons_zero, List.set_cons_succ])
     (refine' wpAnyH_take (i := 6) rfl (by kernel_rfl) (by kernel_rfl) (by kernel_rfl) (fun _ _ _ h => h) (Or.inl ⟨by rfl, ?_⟩) (by assumption) ?_; rotate_left; (· (intro wq hq; (try dsimp only at hq); go_simp; first | done | with_reducible rfl)); simp only [Act.put, List.getElem_toArray, List.getElem_cons_zero, List.getElem_cons_succ, List.setIfInBounds_toArray, List.set_cons_zero, List.set_cons_succ])
     (refine' wpAnyH_take (i := 7) rfl (by kernel_rfl) (by kernel_rfl) (by kernel_rfl) (fun _ _ _ h => h) (Or.inl ⟨by rfl, ?_⟩) (by assumption) ?_; rotate_left; (· (intro wq hq; (try dsimp only at hq); go_simp; first | done | with_reducible rfl)); simp only [Act.put, List.getElem_toArray, List.getElem_cons_zero, List.getElem_cons_succ, List.setIfInBounds_toArray, List.set_cons_zero, List.set_cons_succ])
     (refine' wpAnyH_take (i := 8) rfl (by kernel_rfl) (by kernel_rfl) (by kernel_rfl) (fun _ _ _ h => h) (Or.inl ⟨by rfl, ?_⟩) (by assumption) ?_; rotate_left; (· (intro wq hq; (try dsimp only at hq); go_simp; first | done | with_reducible rfl)); simp only [Act.put, List.getElem_toArray, List.getElem_cons_zero, List.getElem_cons_succ, List.setIfInBounds_toArray, List.set_cons_zero, List.set_cons_succ])
     (refine' wpAnyH_take (i := 9) rfl (by kernel_rfl) (by kernel_rfl) (by kernel_rfl) (fun _ _ _ h => h) (Or.inl ⟨by rfl, ?_⟩) (by assumption) ?_; rotate_left; (· (intro wq hq; (try dsimp only at hq); go_simp; first | done | with_reducible rfl)); simp only [Act.put, List.getElem_toArray, List.getElem_cons_zero, List.getElem_cons_succ, List.setIfInBounds_toArray, List.set_cons_zero, List.set_cons_succ])
     (refine' wpAnyH_take (i := 11) rfl (by kernel_rfl) (by kernel_rfl) (by kernel_rfl) (fun _ _ _ h => h) (Or.inl ⟨by rfl, ?_⟩) (by assumption) ?_; rotate_left; (· (intro wq hq; (try dsimp only at hq); go_simp; first | done | with_reducible rfl)); simp only [Act.put, List.getElem_toArray, List.getElem_cons_zero, List.getElem_cons_succ, List.setIfInBounds_toArray, List.set_cons_zero, List.set_cons_succ])
     (refine' wpAnyH_take (i := 12) rfl (by kernel_rfl) (by kernel_rfl) (by kernel_rfl) (fun _ _ _ h => h) (Or.inl ⟨by rfl, ?_⟩) (by assumption) ?_; rotate_left; (· (intro wq hq; (try dsimp only at hq); go_simp; first | done | with_reducible rfl)); simp only [Act.put, List.getElem_toArray, List.getElem_cons_zero, List.getElem_cons_succ, List.setIfInBounds_toArray, List.set_cons_zero, List.set_cons_succ])
     (refine' wpAnyH_take (i := 13) rfl (by kernel_rfl) (by kernel_rfl) (by kernel_rfl) (fun _ _ _ h => h) (Or.inl ⟨by rfl, ?_⟩) (by assumption) ?_; rotate_left; (· (intro wq hq; (try dsimp only at hq); go_simp; first | done | with_reducible rfl)); simp only [Act.put, List.getElem_toArray, List.getElem_cons_zero, List.getElem_cons_succ, List.setIfInBounds_toArray, List.set_cons_zero, List.set_cons_succ])
     (refine' wpAnyH_take (i := 14) rfl (by kernel_rfl) (by kernel_rfl) (by kernel_rfl) (fun _ _ _ h => h) (Or.inl ⟨by rfl, ?_⟩) (by assumption) ?_; rotate_left; (· (intro wq hq; (try dsimp only at hq); go_simp; first | done | with_reducible rfl)); simp only [Act.put, List.getElem_toArray, List.getElem_cons_zero, List.getElem_cons_succ, List.setIfInBounds_toArray, List.set_cons_zero, List.set_cons_succ])
     refine wpAnyH_ready (rs := [10]) (by kernel_rfl) (by simp) ?_
     refine AllReadyH.cons rfl (fun K hK => ?_) ?_
     ·rw [if_pos (by rfl)]
      go_simp
      refine Calls.mono (hnums.out _ (Below.refl _ _).drew) ?_
      rintro e w5 ⟨⟨rfl, hz5, hs5⟩, b5'⟩
      have b5 : Below wr.heap.size wr w5 := ((Below.refl _ wr).drew).trans b5'
      have hsw : wr.drew.heap.size = wr.heap.size := rfl
      rw [hsw] at hz5 hs5 ⊢
      obtain ⟨ta, hta⟩ : ∃ ta, wr.heap.size = ta := ⟨_, rfl⟩
      have A5 := hid (hA.out.keptAll b5)
      have G5 := hid (hG.out.kept b5)
      have E5 := hid (fun (q : Nat) (n : Nod) (hq : q < i) (hn : T[q]? = some n) => (show ∃ ta, C q = [vv q 0, .slice (some ⟨ta, 0, none⟩) n.tos.length n.tos.length, vv q 2] ∧ tb < ta ∧ IntsZ w5 (some ⟨ta, 0, none⟩) n.tos from by
       obtain ⟨ta, h1, h2, h3⟩ := hE.out q n hq hn
       exact ⟨ta, h1, h2, h3.kept b5⟩))
      have B5 := hid (hb.out.trans (b5.mono hBwr.out))
      have hth5 := hid (tab_there (z := 3) A5.out (fun q _ => hC.out q) hlt)
      have hz5' := hid hz5
      have htt := hid (show tb < ta by rw [← hta]; exact htb2.out)
      rw [hta]
      rw [hta] at hz5'
      refine hK.out _ _ (hcell.out _ b5) (fun hH5 => ?_)
      clear hz5 hs5 b5' hnums
      (refine' wpAnyH_take (i := 15) rfl (by kernel_rfl) (by kernel_rfl) (by kernel_rfl) (fun _ _ _ h => h) (Or.inl ⟨by rfl, ?_⟩) (by assumption) ?_; rotate_left; (· (intro wq hq; (try dsimp only at hq); go_simp; first | done | with_reducible rfl)); simp only [Act.put, List.getElem_toArray, List.getElem_cons_zero, List.getElem_cons_succ, List.setIfInBounds_toArray, List.set_cons_zero, List.set_cons_succ])
      (refine' wpAnyH_take (i := 16) rfl (by kernel_rfl) (by kernel_rfl) (by kernel_rfl) (fun _ _ _ h => h) (Or.inl ⟨by rfl, ?_⟩) (by assumption) ?_; rotate_left; (· (intro wq hq; (try dsimp only at hq); go_simp; first | done | with_reducible rfl)); simp only [Act.put, List.getElem_toArray, List.getElem_cons_zero, List.getElem_cons_succ, List.setIfInBounds_toArray, List.set_cons_zero, List.set_cons_succ])
      refine wpAnyH_ready (rs := [17]) (by kernel_rfl) (by simp) ?_
      refine AllReadyH.cons rfl (fun K hK => ?_) ?_
      ·rw [if_pos (by rfl)]
       refine wp_store_mid 50 _ _ rfl tb (i * 3) #[.slice s0 (ln i 0) c0, .slice (some ⟨ta, 0, none⟩) M M, .slice s2 (ln i 2) c2] (by rfl) (by rfl) hth5.out sizeNd (by simp [Value.oneCell']) ?_
       obtain ⟨W7, hW7⟩ : ∃ W, w5.setCells tb (i * 3) [.slice s0 (ln i 0) c0, .slice (some ⟨ta, 0, none⟩) M M, .slice s2 (ln i 2) c2] = W := ⟨_, rfl⟩
       have hoth : ∀ g, g ≠ tb → W7.heap[g]? = w5.heap[g]? := fun g hg => by
        rw [← hW7]
        exact heap_setCells hg _ _ w5
       have hsz7 : w5.heap.size ≤ W7.heap.size := by
        have h1 := (below_setCells (n := 0) (Below.refl 0 w5) (Nat.zero_le tb) [.slice s0 (ln i 0) c0, .slice (some ⟨ta, 0, none⟩) M M, .slice s2 (ln i 2) c2] (i * 3)).size
        rw [hW7] at h1
        exact h1
       have G7 := hid (G5.out.other A5.out hoth)
       have A7 := hid (show At W7 tb (tabC Nn fun q => if q = i then [.slice s0 (ln i 0) c0, .slice (some ⟨ta, 0, none⟩) M M, .slice s2 (ln i 2) c2] else C q) 50 from by
        rw [← hW7]
        exact tab_set (z := 3) A5.out (fun q _ => hC.out q) (by decide) hlt rfl)
       have hC7 : Hid (∀ q, (if q = i then [.slice s0 (ln i 0) c0, .slice (some ⟨ta, 0, none⟩) M M, .slice s2 (ln i 2) c2] else C q).length = 3) := hid (fun q => by split; rfl; exact hC.out q)
       have B7 := hid (show Below B w W7 by rw [← hW7]; exact below_setCells B5.out hBtb.out _ _)
       have E7 : Hid (∀ (q : Nat) (n : Nod), q < i + 1 → T[q]? = some n → ∃ ta', (if q = i then [.slice s0 (ln i 0) c0, .slice (some ⟨ta, 0, none⟩) M M, .slice s2 (ln i 2) c2] else C q) = [vv q 0, .slice (some ⟨ta', 0, none⟩) n.tos.length n.tos.length, vv q 2] ∧ tb < ta' ∧ IntsZ W7 (some ⟨ta', 0, none⟩) n.tos) := hid (fun q n' hq hn' => by
        by_cases e : q = i
        ·subst e
         have := hn.out.symm.trans hn'
         cases this
         exact ⟨ta, by rw [if_pos rfl, hv0.out, hv2.out, hM.out], htt.out, hz5'.out.on hsz7 (hoth ta (by have := htt.out; omega))⟩
        ·obtain ⟨ta', x1, x2, x3⟩ := E5.out q n' (by omega) hn'
         exact ⟨ta', by rw [if_neg e]; exact x1, x2, x3.on hsz7 (hoth ta' (by omega))⟩)
       have S7 : W7.cell? ⟨nb i, 0, none⟩ = some (.slice s0 (ln i 0) c0) ∧ W7.cell? ⟨nb i, 1, none⟩ = some (.slice s1 M c1) ∧ W7.cell? ⟨nb i, 2, none⟩ = some (.slice s2 (ln i 2) c2) := by
        have hq := hcell.out _ b5
        have he := hoth (nb i) (by have := hnbt.out i hlt; omega)
        exact ⟨(World.cell?_of_block (w := w5) he).trans hq.1, (World.cell?_of_block (w := w5) he).trans hq.2.1, (World.cell?_of_block (w := w5) he).trans hq.2.2⟩
       have hW7' : w5.setCells tb (i * 3) (#[.slice s0 (ln i 0) c0, .slice (some ⟨ta, 0, none⟩) M M, .slice s2 (ln i 2) c2] : Array Value).toList = W7 := hW7
       rw [hW7']
       refine hK.out _ _ S7 (fun hH7 => ?_)
       clear hK hoth hsz7 S7 hW7 hW7' hH7 hH5 hH
       refine wpAnyH_done (by kernel_rfl) ?_ _
       refine hKr _ _ ?_
       clear hKr
       go_wp2
       go_roundw
       case rel => exact ⟨i + 1, _, hi'.out, by simp, hC7, A7, G7, E7, B7⟩
       case measure => simp [intOf]; have := hi'.out; omega
      ·exact AllReadyH.nil
     ·exact AllReadyH.nil
    ·obtain rfl : Nn = i := by omega
     have hfin : Hid (NodesAt wr (some ⟨tb, 0, none⟩) T) := hid (fun q n hn => by
      have hq := (List.getElem?_eq_some_iff.1 hn).1
      have hqK : q < Nn := by have := hK.out; omega
      obtain ⟨ta, h1, h2, h3⟩ := hE.out q n hqK hn
      have hrow := tab_row (z := 3) hA.out (fun q _ => hC.out q) hqK
      obtain ⟨r0, r1, r2⟩ := hR.out q n hn
      have w0 := hG.out.own q 0 hqK (by decide)
      have w2 := hG.out.own q 2 hqK (by decide)
      obtain ⟨s0, c0, v0⟩ := own_shape w0
      obtain ⟨s2, c2, v2⟩ := own_shape w2
      rw [r0.1, r0.2] at w0
      rw [r2.1, r2.2] at w2
      rw [r0.1] at v0
      rw [r2.1] at v2
      have hwf := hW.out q n hn
      rw [h1] at hrow
      rw [v0] at hrow w0
      rw [v2] at hrow w2
      have hst := own_steps w0 hwf.2.1
      have hen := InG.row (B := B) w2 (fun x hx => by have := hwf.2.2.2.2.1 x hx; unfold i64B; omega)
      exact ⟨tb, 0, _, rfl, hA.out.lt, by rw [Nat.zero_add]; exact hrow, s0, c0, _, _, s2, c2, rfl, hst.2, hwf.2.2.1, h3, hen.2⟩)
     clear hE hA hG
     go_wp2
     go_ret
     exact ⟨⟨tb, rfl, hfin.out⟩, hb.out⟩
end Go.Proofs.YtbabdhepnjacdaaDoor
