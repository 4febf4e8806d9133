/-
 quarryref00.HasInt; quarryref23.pathOf.
-/
import Derived.Test.YtbabdhepnjacdaaDoorTiS
namespace Go.Proofs.YtbabdhepnjacdaaDoor
open Go.RowKit Go.Shelf
set_option maxRecDepth 10000 in
set_option maxHeartbeats 4000000 in
theorem hasI_calls (L : List Int) (ao : Option Addr) (M cap : Nat) (hM : Hid (L.length = M)) (hMb : M ≤ 4611686018427387904) (x : Int) (w : World) (hk : Hid (IntsZ w ao L)) :
  Calls Tryd.prog 29 #[.slice ao M cap, .int .i64 x] w fun e w' => e = .returned (.bool (decide (x ∈ L))) ∧ Below w.heap.size w w' := by
 have hMi : (M : Int) ≤ 4611686018427387904 := by omega
 go_enter Tryd.func29, Tryd.ntmps29
 go_wp2
 go_loopw [5] (fun ii wr => ∃ i : Nat, i ≤ M ∧ ii = .int .i64 (i : Int) ∧ Hid (x ∉ L.take i) ∧ Hid (Below w.heap.size w wr)) (fun ii _ => M - (intOf ii).toNat)
 case atStart => exact ⟨0, Nat.zero_le _, rfl, hid (by simp), hid (Below.refl _ _)⟩
 case round =>
  obtain ⟨i, hi, rfl, hno, hb⟩ := hrel
  by_cases hlt : i < M
  ·have hli : (i : Int) < (M : Int) := by omega
   have hlt' := hid (show i + 1 ≤ M by omega)
   obtain ⟨y, hy⟩ : ∃ y, Hid (L[i]? = some y) := ⟨_, List.getElem?_eq_getElem (by rw [hM.out]; exact hlt)⟩
   obtain ⟨g, o, rfl, hc⟩ := ints_at hk.out hy.out
   have cy := hc _ hb.out
   have ad1 : (⟨g, o, none⟩ : Addr).add i = ⟨g, o + i, none⟩ := by by_cases h : i = 0 <;> simp [Addr.add, h]
   clear hc
   by_cases h : y = x
   ·subst h
    have e0 : (y == y) = true := by simp
    have hfin : Hid (decide (y ∈ L) = true) := hid (decide_eq_true (List.mem_of_getElem? hy.out))
    go_wp2
    go_ret
    exact ⟨by rw [hfin.out] <;> rfl, hb.out⟩
   ·have e0 : (y == x) = false := beq_eq_false_iff_ne.2 h
    have hno2 : Hid (x ∉ L.take (i + 1)) := hid (by
     rw [take_snoc hy.out]
     intro hh
     rcases List.mem_append.1 hh with h1 | h1
     ·exact hno.out h1
     ·exact h (List.mem_singleton.1 h1).symm)
    clear hno h
    go_wp2
    go_roundw
    case rel => exact ⟨i + 1, hlt'.out, by simp, hno2, hb⟩
    case measure => simp [intOf]; have := hlt'.out; omega
  ·obtain rfl : i = M := by omega
   have hfin : Hid (decide (x ∈ L) = false) := hid (decide_eq_false (by have := hno.out; rwa [List.take_of_length_le (by rw [hM.out]; exact Nat.le_refl _)] at this))
   go_wp2
   go_ret
   exact ⟨by rw [hfin.out] <;> rfl, hb.out⟩
theorem stC3_get : ∀ (ss : List Stp) (i : Nat) (s : Stp) (j : Nat), ss[i]? = some s → j < 3 → (ss.flatMap stC3)[i * 3 + j]? = (stC3 s)[j]?
 | [], i, s, j, h, _ => by simp at h
 | a :: ss, 0, s, j, h, hj => by
  simp at h
  subst h
  rw [List.flatMap_cons, show 0 * 3 + j = j by omega, List.getElem?_append_left (by simpa [stC3] using hj)]
 | a :: ss, i + 1, s, j, h, hj => by
  have ih := stC3_get ss i s j (by simpa using h) hj
  rw [List.flatMap_cons, List.getElem?_append_right (by simp [stC3]; omega), ← ih]
  congr 1
  simp [stC3]
  omega
/-- A list of steps of its own. -/
def StO (B : Nat) (w : World) (v : Value) (ss : List Stp) : Prop := w.ownsRow B 53 3 v ss.length (ss.flatMap stC3) ∧ ∀ (i : Nat) (s : Stp), ss[i]? = some s → s.name.size ≤ capT
section
variable {B : Nat} {W W' : World} {v : Value} {ss : List Stp}
theorem StO.nil (B : Nat) (W : World) : StO B W (.slice none 0 0) [] := ⟨by simpa using World.ownsRow_nil W B 53 3, fun i s h => by simp at h⟩
theorem StO.keptB (h : StO B W v ss) (hb : Below W.heap.size W W') : StO B W' v ss := ⟨own_on h.1 (fun g _ _ hl => hb.block g hl), h.2⟩
theorem StO.mono {B' : Nat} (h : StO B W v ss) (hB : B' ≤ B) : StO B' W v ss := ⟨h.1.mono hB, h.2⟩
theorem StO.row {vo : Option Addr} {n vc : Nat} (h : StO B W (.slice vo n vc) ss) : n = ss.length ∧ StepsAt W vo ss := by
 obtain ⟨h1, h2⟩ := h
 obtain ⟨so, cap, e⟩ := own_shape h1
 cases e
 refine ⟨rfl, fun i s hi => ⟨h2 i s hi, ?_⟩⟩
 have hl := (List.getElem?_eq_some_iff.1 hi).1
 rcases h1.2 with ⟨e, h0⟩ | ⟨g, cap, cur, e, hb, hg, -⟩
 ·omega
 ·cases e
  refine ⟨g, 0, rfl, (h1.lt g rfl).2, ?_⟩
  intro j y hj
  have hj3 : j < 3 := by have := (List.getElem?_eq_some_iff.1 hj).1; simpa using this
  have := h1.cellAt (i * 3 + j) (by omega)
  show W.cell? ⟨g, 0 + i * 3 + j, none⟩ = some y
  rw [show 0 + i * 3 + j = i * 3 + j by omega, this, stC3_get ss i s j hi hj3]
  exact hj
theorem StO.app {u : Stp} {ty : TypeId} (h : StO B W v ss) (hu : u.name.size ≤ capT) (ad : Addr) (c : Nat) (hC : ∀ (j : Nat) (y : Value), (stC3 u)[j]? = some y → W.cell? (ad.add j) = some y) (hn : ss.length < 1099511627776) (hB : B ≤ W.heap.size) :
  ∃ v' W', (Builtin.append_ #[45, 45] ty #[v, .slice (some ad) 1 c]).run Tryd.prog W = .ok v' W' ∧ StO B W' v' (ss ++ [u]) ∧ W.grownBy W' v.ownBlock := by
 obtain ⟨h1, h2⟩ := h
 obtain ⟨i0, hi, hz0, hz1, hz2⟩ := info_partsV infoSt3
 obtain ⟨v', W', hr, r1, r2⟩ := appendV (P := Tryd.prog) (ty := ty) Tryd.underlying45 hi hz0 hz1 hz2 rfl (by decide) h1 ad 1 c (stC3 u) (by simp [stC3]) hC (by simp [stC3]; exact ⟨rfl, rfl, rfl⟩) (by unfold maxLen; omega) (by omega) hB
 refine ⟨v', W', hr, ⟨?_, ?_⟩, ?_⟩
 ·rw [List.length_append, List.length_singleton, List.flatMap_append, List.flatMap_cons, List.flatMap_nil, List.append_nil]
  exact r1
 ·intro i s hs
  by_cases e : i = ss.length
  ·subst e
   rw [List.getElem?_append_right (Nat.le_refl _)] at hs
   simp at hs
   subst hs
   exact hu
  ·have hl := (List.getElem?_eq_some_iff.1 hs).1
   rw [List.length_append, List.length_singleton] at hl
   rw [List.getElem?_append_left (by omega)] at hs
   exact h2 i s hs
 ·rcases r2 with ⟨g, cap, rfl, rfl, hg⟩ | ⟨-, hg⟩
  ·exact hg
  ·exact grown_weaken hg
end
theorem wp_append_stO {o : Oper} {a : Act} {w w' : World} {K : Act → World → Prop} {Q : Exit → Act → World → Prop} {x y : Operand} {v v' u : Value} (ho : o.op = .call { callee := .builtin .append, args := #[x, y], argTypes := #[45, 45] }) (hx : a.eval x = v) (hy : a.eval y = u)
  (hr : ∀ ty, (Builtin.append_ #[45, 45] ty #[v, u]).run Tryd.prog w = .ok v' w') (h : K (a.put o.dst v') w') : o.wp Tryd.prog a w K Q := by
 unfold Oper.wp execOp
 simp only [ho, resolve, invoke, builtin, Sem.run_bind, Sem.run_pure, Result.andThen_ok, List.map_toArray, List.map_cons, List.map_nil, hx, hy, hr]
 exact h
theorem stO_src {w : World} {b : Nat} {t : TypeId} {s : Stp} (h : At w b #[.int .i64 s.kind, .string s.name, .int .i64 s.place] t) : ∀ (j : Nat) (y : Value), (stC3 s)[j]? = some y → w.cell? ((⟨b, 0, none⟩ : Addr).add j) = some y := fun j y hj => by
 have e : (⟨b, 0, none⟩ : Addr).add j = ⟨b, j, none⟩ := by by_cases h : j = 0 <;> simp [Addr.add, h]
 rw [e, h.cell j]
 simpa [stC3] using hj
set_option maxRecDepth 10000 in
set_option maxHeartbeats 8000000 in
theorem pathOf23_calls (t : List Nod) (ao : Option Addr) (N cap : Nat) (hN : Hid (t.length = N)) (hm : Hid (Mid t)) (hf : Hid (FrmR t)) (hz : Hid (∀ n ∈ t, ∀ s ∈ n.steps, s.name.size ≤ 1048576)) : ∀ (i : Nat), i < N → ∀ (p : List Stp), Hid (PthOf t i p) → ∀ (w : World), Hid (NodesAt w ao t) →
  Calls Tryd.prog 43 #[.slice ao N cap, .int .i64 (i : Int)] w fun e w' => (∃ v, e = .returned v ∧ StO w.heap.size w' v p) ∧ Below w.heap.size w w' := by
 have hNi : N ≤ 1048576 := by have := hm.out.1; have := hN.out; omega
 have hNi' : (N : Int) ≤ 1048576 := by omega
 intro i
 induction i using Nat.strongRecOn with
 | _ i ih =>
 intro hiN p hp w hk
 have ih' := hid ih
 have hii : (i : Int) < (N : Int) := by omega
 clear ih
 go_enter Tryd.func43, Tryd.ntmps43
 go_wp2
 go_loopw [5] (fun aa wr => ∃ a : Nat, a ≤ i ∧ aa = .int .i64 (a : Int) ∧ Hid (∀ (b j : Nat) (n : Nod), b < a → t[b]? = some n → n.tos[j]? = some (i : Int) → False) ∧ Hid (Below w.heap.size w wr)) (fun aa _ => i - (intOf aa).toNat)
 case atStart => exact ⟨0, Nat.zero_le _, rfl, hid (fun b j n h => by omega), hid (Below.refl _ _)⟩
 case round =>
  obtain ⟨a, hai, rfl, hno, hb⟩ := hrel
  by_cases hlt : a < i
  ·have hli : (a : Int) < (i : Int) := by omega
   have hlt' := hid (show a + 1 ≤ i by omega)
   have haN : (a : Int) < (N : Int) := by omega
   obtain ⟨n, hn⟩ : ∃ n, Hid (t[a]? = some n) := ⟨_, List.getElem?_eq_getElem (by rw [hN.out]; omega)⟩
   obtain ⟨g, o, sa, sc, ta, tc, ea, ec, rfl, hS, -, hT, -, hcl⟩ := node_at hk.out hn.out
   have hfn := frm_node hf.out hn.out
   obtain ⟨M, hM⟩ : ∃ M, Hid (n.tos.length = M) := ⟨_, rfl⟩
   have hMs : Hid (n.steps.length = M) := hid (hfn.1.trans hM.out)
   have hMb : M ≤ 1048576 := by have := hm.out.2.2.2 n (List.mem_of_getElem? hn.out); have := hMs.out; omega
   have hMi : (M : Int) ≤ 1048576 := by omega
   rw [hM.out, hMs.out] at hcl
   have hS' := hid hS
   have hT' := hid hT
   have hcl' := hid hcl
   clear hS hT hcl hfn
   go_wp2
   go_loopw [6] (fun jj wr => ∃ j : Nat, j ≤ M ∧ jj = .int .i64 (j : Int) ∧ Hid (∀ j' : Nat, j' < j → n.tos[j']? = some (i : Int) → False) ∧ Hid (Below w.heap.size w wr)) (fun jj _ => M - (intOf jj).toNat)
   case atStart => exact ⟨0, Nat.zero_le _, rfl, hid (fun j' h => by omega), hb⟩
   case round =>
    clear hb
    obtain ⟨j, hj, rfl, hnj, hb⟩ := hrel
    have d1 := (hcl'.out _ hb.out).2.1
    by_cases hjl : j < M
    ·have hji : (j : Int) < (M : Int) := by omega
     have hj' := hid (show j + 1 ≤ M by omega)
     obtain ⟨x, hx⟩ : ∃ x, Hid (n.tos[j]? = some x) := ⟨_, List.getElem?_eq_getElem (by rw [hM.out]; exact hjl)⟩
     obtain ⟨g3, o3, rfl, hcx⟩ := ints_at hT'.out hx.out
     have cx := hcx _ hb.out
     have ad3 : (⟨g3, o3, none⟩ : Addr).add j = ⟨g3, o3 + j, none⟩ := by by_cases h : j = 0 <;> simp [Addr.add, h]
     clear hcx
     by_cases hxi : x = (i : Int)
     ·subst hxi
      have e0 : ((i : Int) == (i : Int)) = true := by simp
      obtain ⟨s, hs⟩ : ∃ s, Hid (n.steps[j]? = some s) := ⟨_, List.getElem?_eq_getElem (by rw [hMs.out]; exact hjl)⟩
      obtain ⟨p', hp', hpp⟩ : ∃ p', Hid (PthOf t a p') ∧ Hid (p = p' ++ [s]) := by
       have h := hp.out
       generalize hi0 : i = i0 at h
       cases h with
       | root => omega
       | step h1 h2 h3 h4 =>
        subst hi0
        obtain ⟨rfl, rfl⟩ := to_uniq (frm_lnk hf.out).1 hn.out hx.out h1 h2
        have := hn.out.symm.trans h1
        cases this
        have := hs.out.symm.trans h3
        cases this
        exact ⟨_, hid h4, hid rfl⟩
      have hplen : p'.length ≤ 1048576 := by have := hp'.out.len hf.out; omega
      obtain ⟨g2, o2, rfl, hg2, hrg2⟩ := steps_at (hS'.out.kept hb.out) hs.out
      have hsn := hz.out n (List.mem_of_getElem? hn.out) s (List.mem_of_getElem? hs.out)
      have hSu0 := hid (fun (u : World) (hu : Below w.heap.size w u) => (show u.rangeAt g2 (o2 + j * 3) [.int .i64 s.kind, .string s.name, .int .i64 s.place] from by
       obtain ⟨b5, o5, e5, -, r5⟩ := steps_at (hS'.out.kept hu) hs.out
       cases e5
       exact r5))
      have hcall := hid (fun (u : World) (hu : Below w.heap.size w u) => ih'.out a hlt (by omega) p' hp' u (hid (hk.out.kept hu)))
      obtain ⟨sk, sn, sp⟩ := s
      dsimp only at hrg2 hsn hSu0
      have hSu := hid (fun (u : World) (hu : Below w.heap.size w u) => (show u.cell? ⟨g, o + a * 3, none⟩ = some (.slice (some ⟨g2, o2, none⟩) M sc) ∧ u.rangeAt g2 (o2 + j * 3) [.int .i64 sk, .string sn, .int .i64 sp] from ⟨(hcl'.out _ hu).1, hSu0.out u hu⟩))
      have hrg3 := hid hrg2
      have d0 := (hcl'.out _ hb.out).1
      have d0' := hid d0
      have Bd := hid (show Below w.heap.size w wr.drew from hb.out.drew)
      clear hrg2 hg2 d0
      go_wp2
      rename_i Kr hKr
      refine wp_region_held_drew (S := fun u => (u.cell? ⟨g, o + a * 3, none⟩ = some (.slice (some ⟨g2, o2, none⟩) M sc) ∧ u.rangeAt g2 (o2 + j * 3) [.int .i64 sk, .string sn, .int .i64 sp]) ∧ Below w.heap.size w u) (by kernel_rfl) ⟨⟨d0'.out, hrg3.out⟩, Bd.out⟩ (fun hH => ?_)
      have adA : (⟨g, o, none⟩ : Addr).add (a * 3) = ⟨g, o + a * 3, none⟩ := by by_cases h : a * 3 = 0 <;> simp [Addr.add, h]
      (refine' wpAnyH_take (i := 0) rfl (by kernel_rfl) (by kernel_rfl) (by kernel_rfl) (fun _ _ _ h => h) (Or.inl ⟨by rfl, ?_⟩) (by assumption) ?_; rotate_left; (· (intro wq hq; (try dsimp only at hq); go_simp; first | done | with_reducible rfl)); simp only [Act.put, List.getElem_toArray, List.getElem_cons_zero, List.setIfInBounds_toArray, List.set_cons_zero, List.set_cons_succ])
      (refine' wpAnyH_take (i := 1) rfl (by kernel_rfl) (by kernel_rfl) (by kernel_rfl) (fun _ _ _ h => h) (Or.inl ⟨by rfl, ?_⟩) (by assumption) ?_; rotate_left; (· (intro wq hq; (try dsimp only at hq); go_simp; first | done | with_reducible rfl)); simp only [Act.put, List.getElem_toArray, List.getElem_cons_zero, List.getElem_cons_succ, List.setIfInBounds_toArray, List.set_cons_zero, List.set_cons_succ])
      (refine' wpAnyH_take (i := 3) rfl (by kernel_rfl) (by kernel_rfl) (by kernel_rfl) (fun _ _ _ h => h) (Or.inl ⟨by rfl, ?_⟩) (by assumption) ?_; rotate_left; (· (intro wq hq; (try dsimp only at hq); go_simp; first | done | with_reducible rfl)); simp only [Act.put, List.getElem_toArray, List.getElem_cons_zero, List.getElem_cons_succ, List.setIfInBounds_toArray, List.set_cons_zero, List.set_cons_succ])
      (refine' wpAnyH_take (i := 4) rfl (by kernel_rfl) (by kernel_rfl) (by kernel_rfl) (fun _ _ _ h => h) (Or.inl ⟨by rfl, ?_⟩) (by assumption) ?_; rotate_left; (· (intro wq hq; (try dsimp only at hq); go_simp; first | done | with_reducible rfl)); simp only [Act.put, List.getElem_toArray, List.getElem_cons_zero, List.getElem_cons_succ, List.setIfInBounds_toArray, List.set_cons_zero, List.set_cons_succ])
      (refine' wpAnyH_take (i := 5) rfl (by kernel_rfl) (by kernel_rfl) (by kernel_rfl) (fun _ _ _ h => h) (Or.inl ⟨by rfl, ?_⟩) (by assumption) ?_; rotate_left; (· (intro wq hq; (try dsimp only at hq); go_simp; first | done | with_reducible rfl)); simp only [Act.put, List.getElem_toArray, List.getElem_cons_zero, List.getElem_cons_succ, List.setIfInBounds_toArray, List.set_cons_zero, List.set_cons_succ])
      (refine' wpAnyH_take (i := 6) rfl (by kernel_rfl) (by kernel_rfl) (by kernel_rfl) (fun _ _ _ h => h) (Or.inl ⟨by rfl, ?_⟩) (by assumption) ?_; rotate_left; (· (intro wq hq; (try dsimp only at hq); go_simp; first | done | with_reducible rfl)); simp only [Act.put, List.getElem_toArray, List.getElem_cons_zero, List.getElem_cons_succ, List.setIfInBounds_toArray, List.set_cons_zero, List.set_cons_succ])
      (refine' wpAnyH_take (i := 7) rfl (by kernel_rfl) (by kernel_rfl) (by kernel_rfl) (fun _ _ _ h => h) (Or.inl ⟨by rfl, ?_⟩) (by assumption) ?_; rotate_left; (· (intro wq hq; (try dsimp only at hq); go_simp; first | done | with_reducible rfl)); simp only [Act.put, List.getElem_toArray, List.getElem_cons_zero, List.getElem_cons_succ, List.setIfInBounds_toArray, List.set_cons_zero, List.set_cons_succ])
      (refine' wpAnyH_take (i := 8) rfl (by kernel_rfl) (by kernel_rfl) (by kernel_rfl) (fun _ _ _ h => h) (Or.inl ⟨by rfl, ?_⟩) (by assumption) ?_; rotate_left; (· (intro wq hq; (try dsimp only at hq); go_simp; first | done | with_reducible rfl)); simp only [Act.put, List.getElem_toArray, List.getElem_cons_zero, List.getElem_cons_succ, List.setIfInBounds_toArray, List.set_cons_zero, List.set_cons_succ])
      (refine' wpAnyH_take (i := 9) rfl (by kernel_rfl) (by kernel_rfl) (by kernel_rfl) (fun _ _ _ h => h) (Or.inl ⟨by rfl, ?_⟩) (by assumption) ?_; rotate_left; (· (intro wq hq; (try dsimp only at hq); go_simp; first | done | with_reducible rfl)); simp only [Act.put, List.getElem_toArray, List.getElem_cons_zero, List.getElem_cons_succ, List.setIfInBounds_toArray, List.set_cons_zero, List.set_cons_succ])
      (refine wpAnyH_take (i := 10) (v := .agg [.int .i64 sk, .string sn, .int .i64 sp].toArray) rfl (by kernel_rfl) (by kernel_rfl) (by kernel_rfl) (fun _ _ _ h => h) (yieldsIf_load_mid (by rfl) 53 _ rfl (g2) (o2 + j * 3) rfl [.int .i64 sk, .string sn, .int .i64 sp] _ (fun wq hq => hq.1.2) Tryd.underlying53 rfl sizeStp) (by assumption) ?_; simp only [Act.put, List.getElem_toArray, List.getElem_cons_zero, List.getElem_cons_succ, List.setIfInBounds_toArray, List.set_cons_zero, List.set_cons_succ])
      clear cx d1
      refine wpAnyH_ready (rs := [2, 11]) (by kernel_rfl) (by simp) ?_
      refine AllReadyH.cons rfl (fun K hK => ?_) ?_
      ·rw [if_pos (by rfl)]
       go_simp
       refine Calls.mono (hcall.out _ Bd.out) ?_
       rintro e w5 ⟨⟨v, rfl, hv⟩, b5⟩
       have B5 := hid (Bd.out.trans (b5.mono Bd.out.size))
       refine hK.out _ _ ⟨hSu.out _ B5.out, B5.out⟩ (fun hH5 => ?_)
       clear hK K
       refine wpAnyH_ready (rs := [11]) (by kernel_rfl) (by simp) ?_
       refine AllReadyH.cons rfl (fun K hK => ?_) ?_
       ·rw [if_pos (by rfl)]
        go_simp
        obtain ⟨w6, hw6⟩ : ∃ W, w5.alloc (.cells #[.int .i64 sk, .string sn, .int .i64 sp] 53) = W := ⟨_, rfl⟩
        have b6 : Below w5.heap.size w5 w6 := by rw [← hw6]; exact (Below.refl _ w5).alloc (Nat.le_refl _) _
        obtain ⟨bb, hbb⟩ : ∃ bb, w5.heap.size = bb := ⟨_, rfl⟩
        have A6 : At w6 bb #[.int .i64 sk, .string sn, .int .i64 sp] 53 := by rw [← hw6, ← hbb]; exact At.new _ _ _
        have B6 := hid (B5.out.trans (b6.mono B5.out.size))
        have hv6 := (hv.keptB b6).mono Bd.out.size
        rw [hw6, hbb]
        refine hK.out _ _ ⟨hSu.out _ B6.out, B6.out⟩ (fun hH6 => ?_)
        clear hK K hw6 hbb b6 hv b5
        refine wpAnyH_ready (rs := [12]) (by kernel_rfl) (by simp) ?_
        refine AllReadyH.cons rfl (fun K hK => ?_) ?_
        ·rw [if_pos (by rfl)]
         obtain ⟨v', w7, hr, hO, hg7⟩ := hv6.app (u := ⟨sk, sn, sp⟩) (ty := 0) (by show sn.size ≤ capT; unfold capT; omega) ⟨bb, 0, none⟩ 1 (stO_src A6) (by omega) B6.out.size
         have B7 := hid (B6.out.grown hg7 B6.out.size (fun k hk => (hv6.1.lt k hk).1))
         refine wp_append_stO rfl rfl rfl (fun ty => by rw [append_tyZ _ ty 0]; exact hr) ?_
         refine hK.out _ _ ⟨hSu.out _ B7.out, B7.out⟩ (fun hH7 => ?_)
         have hO7 := hid hO
         clear hK K hr hg7 hO A6 hv6
         (refine' wpAnyH_take (i := 13) rfl (by kernel_rfl) (by kernel_rfl) (by kernel_rfl) (fun _ _ _ h => h) (Or.inl ⟨by rfl, ?_⟩) (by assumption) ?_; rotate_left; (· (intro wq hq; (try dsimp only at hq); go_simp; first | done | with_reducible rfl)); simp only [Act.put, List.getElem_toArray, List.getElem_cons_zero, List.getElem_cons_succ, List.setIfInBounds_toArray, List.set_cons_zero, List.set_cons_succ])
         refine wpAnyH_done (by kernel_rfl) ?_ _
         refine hKr _ _ ?_
         go_wp2
         go_ret
         exact ⟨⟨_, rfl, by rw [hpp.out]; exact hO7.out⟩, B7.out⟩
        ·exact AllReadyH.nil
       ·exact AllReadyH.nil
      refine AllReadyH.cons rfl (fun K hK => ?_) ?_
      ·rw [if_pos (by rfl)]
       go_simp
       obtain ⟨w5, hw5⟩ : ∃ W, (wr.alloc (.cells #[.int .i64 sk, .string sn, .int .i64 sp] 53)).drew = W := ⟨_, rfl⟩
       have b5 : Below wr.heap.size wr w5 := by rw [← hw5]; exact ((Below.refl _ wr).alloc (Nat.le_refl _) _).drew
       obtain ⟨bb, hbb⟩ : ∃ bb, wr.heap.size = bb := ⟨_, rfl⟩
       have A5 : At w5 bb #[.int .i64 sk, .string sn, .int .i64 sp] 53 := by rw [← hw5, ← hbb]; exact (At.new _ _ _).drew
       have B5 := hid (hb.out.trans (b5.mono hb.out.size))
       rw [hw5, hbb]
       refine hK.out _ _ ⟨hSu.out _ B5.out, B5.out⟩ (fun hH5 => ?_)
       clear hK K hw5 b5 hbb
       refine wpAnyH_ready (rs := [2]) (by kernel_rfl) (by simp) ?_
       refine AllReadyH.cons rfl (fun K hK => ?_) ?_
       ·rw [if_pos (by rfl)]
        go_simp
        refine Calls.mono (hcall.out _ B5.out) ?_
        rintro e w6 ⟨⟨v, rfl, hv⟩, b6⟩
        have B6 := hid (B5.out.trans (b6.mono B5.out.size))
        have A6 := A5.keptAll b6
        have hv6 := hv.mono B5.out.size
        refine hK.out _ _ ⟨hSu.out _ B6.out, B6.out⟩ (fun hH6 => ?_)
        clear hK K A5 b6 hv
        refine wpAnyH_ready (rs := [12]) (by kernel_rfl) (by simp) ?_
        refine AllReadyH.cons rfl (fun K hK => ?_) ?_
        ·rw [if_pos (by rfl)]
         obtain ⟨v', w7, hr, hO, hg7⟩ := hv6.app (u := ⟨sk, sn, sp⟩) (ty := 0) (by show sn.size ≤ capT; unfold capT; omega) ⟨bb, 0, none⟩ 1 (stO_src A6) (by omega) B6.out.size
         have B7 := hid (B6.out.grown hg7 B6.out.size (fun k hk => (hv6.1.lt k hk).1))
         refine wp_append_stO rfl rfl rfl (fun ty => by rw [append_tyZ _ ty 0]; exact hr) ?_
         refine hK.out _ _ ⟨hSu.out _ B7.out, B7.out⟩ (fun hH7 => ?_)
         have hO7 := hid hO
         clear hK K hr hg7 hO A6 hv6
         (refine' wpAnyH_take (i := 13) rfl (by kernel_rfl) (by kernel_rfl) (by kernel_rfl) (fun _ _ _ h => h) (Or.inl ⟨by rfl, ?_⟩) (by assumption) ?_; rotate_left; (· (intro wq hq; (try dsimp only at hq); go_simp; first | done | with_reducible rfl)); simp only [Act.put, List.getElem_toArray, List.getElem_cons_zero, List.getElem_cons_succ, List.setIfInBounds_toArray, List.set_cons_zero, List.set_cons_succ])
         refine wpAnyH_done (by kernel_rfl) ?_ _
         refine hKr _ _ ?_
         go_wp2
         go_ret
         exact ⟨⟨_, rfl, by rw [hpp.out]; exact hO7.out⟩, B7.out⟩
        ·exact AllReadyH.nil
       ·exact AllReadyH.nil
      exact AllReadyH.nil
     ·have e0 : (x == (i : Int)) = false := beq_eq_false_iff_ne.2 hxi
      have hnj2 : Hid (∀ j' : Nat, j' < j + 1 → n.tos[j']? = some (i : Int) → False) := hid (fun j' h h' => by
       by_cases e : j' = j
       ·subst e
        have := hx.out.symm.trans h'
        cases this
        exact hxi rfl
       ·exact hnj.out j' (by omega) h')
      clear hnj hx hxi
      go_wp2
      go_roundw
      case rel => exact ⟨j + 1, hj'.out, by simp, hnj2, hb⟩
      case measure => simp [intOf]; have := hj'.out; omega
    ·obtain rfl : j = M := by omega
     have hno2 : Hid (∀ (b j : Nat) (n : Nod), b < a + 1 → t[b]? = some n → n.tos[j]? = some (i : Int) → False) := hid (fun b j' n' h1 h2 h3 => by
      by_cases e : b = a
      ·subst e
       have := hn.out.symm.trans h2
       cases this
       exact hnj.out j' (by have := (List.getElem?_eq_some_iff.1 h3).1; have := hM.out; omega) h3
      ·exact hno.out b j' n' (by omega) h2 h3)
     clear hno hnj
     go_wp2
     go_roundw
     case rel => exact ⟨a + 1, hlt'.out, by simp, hno2, hb⟩
     case measure => simp [intOf]; have := hlt'.out; omega
  ·obtain rfl : a = i := by omega
   have hpn : p = [] := by
    have h := hp.out
    generalize hi0 : a = i0 at h
    cases h with
    | root => rfl
    | step h1 h2 h3 h4 =>
     subst hi0
     have := (frm_lnk hf.out).2 _ _ h1 _ (List.mem_of_getElem? h2)
     exact (hno.out _ _ _ (by omega) h1 h2).elim
   subst hpn
   clear hno
   go_wp2
   go_ret
   exact ⟨⟨_, rfl, StO.nil _ _⟩, hb.out⟩
end Go.Proofs.YtbabdhepnjacdaaDoor
