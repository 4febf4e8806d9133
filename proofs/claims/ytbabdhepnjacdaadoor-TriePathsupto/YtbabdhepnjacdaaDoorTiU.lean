/-
 quarryref23.Paths.
-/
import Derived.Test.YtbabdhepnjacdaaDoorTiT
namespace Go.Proofs.YtbabdhepnjacdaaDoor
open Go.RowKit Go.Shelf
theorem pth_ex {t : List Nod} (hf : FrmR t) : ∀ (i : Nat), i < t.length → ∃ p, PthOf t i p := by
 intro i
 induction i using Nat.strongRecOn with
 | _ i ih =>
 intro hi
 by_cases h0 : i = 0
 ·subst h0; exact ⟨[], .root⟩
 ·obtain ⟨n, hn, hx⟩ := List.mem_flatMap.1 (led_ahead hf (by omega) hi)
  obtain ⟨a, ha, e⟩ := List.mem_iff_getElem.1 hn
  have hal : a < i := by rw [List.length_take] at ha; omega
  have hn' : t[a]? = some n := by
   rw [List.getElem_take] at e
   rw [List.getElem?_eq_getElem (by omega), e]
  obtain ⟨j, hj, e2⟩ := List.mem_iff_getElem.1 hx
  have hl := (frm_node hf hn').1
  obtain ⟨p, hp⟩ := ih a hal (by omega)
  exact ⟨p ++ [n.steps[j]'(by omega)], .step hn' (by rw [List.getElem?_eq_getElem hj, e2]) (List.getElem?_eq_getElem (by omega)) hp⟩
theorem StO.shape {B : Nat} {W : World} {v : Value} {ss : List Stp} (h : StO B W v ss) : ∃ so cap, v = .slice so ss.length cap := own_shape h.1
theorem StO.grown {B : Nat} {W W' : World} {v : Value} {ss : List Stp} {row : Option Nat} (h : StO B W v ss) (hg : W.grownBy W' row) (hr : ∀ g cs, row = some g → ¬ At W g cs 53) : StO B W' v ss := by
 refine ⟨own_on h.1 (fun g hv _ hl => hg.block g hl (fun e => ?_)), h.2⟩
 rcases h.1.2 with ⟨rfl, -⟩ | ⟨g', cap, cur, rfl, -, hgb, -⟩
 ·cases hv
 ·cases hv
  exact hr g' cur e.symm hgb
/-- A list of paths of its own. -/
def PlO (B : Nat) (w : World) (v : Value) (L : List (List Stp)) : Prop := ∃ vals : List Value, w.ownsRow B 45 1 v L.length vals ∧ ∀ (i : Nat) (p : List Stp), L[i]? = some p → ∃ u, vals[i]? = some u ∧ StO B w u p
theorem PlO.nil (B : Nat) (W : World) : PlO B W (.slice none 0 0) [] := ⟨[], by simpa using World.ownsRow_nil W B 45 1, fun i s h => by simp at h⟩
theorem PlO.keptB {B : Nat} {W W' : World} {v : Value} {L : List (List Stp)} (h : PlO B W v L) (hb : Below W.heap.size W W') : PlO B W' v L := by
 obtain ⟨vals, h1, h2⟩ := h
 exact ⟨vals, own_on h1 (fun g _ _ hl => hb.block g hl), fun i p hi => by obtain ⟨u, h3, h4⟩ := h2 i p hi; exact ⟨u, h3, h4.keptB hb⟩⟩
theorem PlO.lt {B : Nat} {W : World} {v : Value} {L : List (List Stp)} (h : PlO B W v L) (g : Nat) (hg : v.ownBlock = some g) : B ≤ g ∧ g < W.heap.size := by
 obtain ⟨vals, h1, h2⟩ := h
 exact h1.lt g hg
theorem PlO.row {B : Nat} {W : World} {vo : Option Addr} {n vc : Nat} {L : List (List Stp)} (h : PlO B W (.slice vo n vc) L) : n = L.length ∧ PthsAt W vo L := by
 obtain ⟨vals, h1, h2⟩ := h
 obtain ⟨so, cap, e⟩ := own_shape h1
 cases e
 refine ⟨rfl, fun i p hi => ?_⟩
 have hl := (List.getElem?_eq_some_iff.1 hi).1
 obtain ⟨u, h3, h4⟩ := h2 i p hi
 obtain ⟨ro, rc, rfl⟩ := h4.shape
 rcases h1.2 with ⟨e, h0⟩ | ⟨g, cap, cur, e, hb, hg, -⟩
 ·omega
 ·cases e
  refine ⟨g, 0, ro, rc, rfl, (h1.lt g rfl).2, ?_, h4.row.2⟩
  have := h1.cellAt i (by omega)
  rw [Nat.zero_add, this, h3]
theorem PlO.app {B : Nat} {W : World} {v u : Value} {L : List (List Stp)} {p : List Stp} {ty : TypeId} (h : PlO B W v L) (hu : StO B W u p) (ad : Addr) (c : Nat) (hC : W.cell? (ad.add 0) = some u) (hn : L.length < 1099511627776) (hB : B ≤ W.heap.size) :
  ∃ v' W', (Builtin.append_ #[22, 22] ty #[v, .slice (some ad) 1 c]).run Tryd.prog W = .ok v' W' ∧ PlO B W' v' (L ++ [p]) ∧ W.grownBy W' v.ownBlock := by
 obtain ⟨vals, h1, h2⟩ := h
 obtain ⟨i0, hi, hz0, hz1, hz2⟩ := info_partsV infoRw
 obtain ⟨ro, rc, rfl⟩ := hu.shape
 obtain ⟨v', W', hr, r1, r2⟩ := appendV (P := Tryd.prog) (ty := ty) Tryd.underlying22 hi hz0 hz1 hz2 rfl (by decide) h1 ad 1 c [.slice ro p.length rc] (by simp) (fun j y hj => by
  match j, hj with
  | 0, hj => rw [hC]; simpa using hj
  | j + 1, hj => simp at hj) (by simp; rfl) (by unfold maxLen; omega) (by omega) hB
 have hg : W.grownBy W' v.ownBlock := by
  rcases r2 with ⟨g, cap, rfl, rfl, hg⟩ | ⟨-, hg⟩
  ·exact hg
  ·exact grown_weaken hg
 have hne : ∀ g cs, v.ownBlock = some g → ¬ At W g cs 53 := fun g cs e h => own_ne h1 h (by decide) e
 refine ⟨v', W', hr, ⟨vals ++ [.slice ro p.length rc], by rw [List.length_append, List.length_singleton]; exact r1, fun i q hq => ?_⟩, hg⟩
 have hvl : vals.length = L.length := by have := h1.1; omega
 by_cases e : i < L.length
 ·rw [List.getElem?_append_left e] at hq
  obtain ⟨u, h3, h4⟩ := h2 i q hq
  exact ⟨u, by rw [List.getElem?_append_left (by omega)]; exact h3, h4.grown hg hne⟩
 ·have hl := (List.getElem?_eq_some_iff.1 hq).1
  rw [List.length_append, List.length_singleton] at hl
  obtain rfl : i = L.length := by omega
  rw [List.getElem?_append_right (Nat.le_refl _)] at hq
  simp at hq
  subst hq
  exact ⟨_, by rw [List.getElem?_append_right (by omega), hvl]; simp, hu.grown hg hne⟩
theorem wpList_plO {ops : Array Oper} {rest : List Oper} {o : Oper} {a : Act} {w : World} {Q : Exit → Act → World → Prop} (hgd : o.guard = none) (s y : Operand)
  (ho : o.op = .call { callee := .builtin .append, args := #[s, y], argTypes := #[22, 22] }) (B : Nat) (v u : Value) (L : List (List Stp)) (p : List Stp) (ad : Addr) (c : Nat) (hs : a.eval s = v) (hy : a.eval y = .slice (some ad) 1 c) (h : PlO B w v L) (hu : StO B w u p)
  (hC : w.cell? (ad.add 0) = some u) (hn : L.length < 1099511627776) (hB : B ≤ w.heap.size)
  (hk : ∀ v' w', PlO B w' v' (L ++ [p]) → w.grownBy w' v.ownBlock → wpList Tryd.prog ops Q rest (a.put o.dst v') w') : wpList Tryd.prog ops Q (o :: rest) a w := by
 obtain ⟨v', w', hr, h1, h2⟩ := h.app (ty := 0) hu ad c hC hn hB
 exact wpList_append_run hgd s y 22 ho v _ v' w' hs hy (fun ty => by rw [append_tyZ _ ty 0]; exact hr) (hk v' w' h1 h2)
/-- So far: each path of those told is that of its number. -/
def PthR (t : List Nod) (L : List (List Stp)) : Prop := ∀ (k : Nat) (p : List Stp), L[k]? = some p → ∃ (q : Nat) (n : Nod), t[q]? = some n ∧ (k : Int) ∈ n.ends ∧ PthOf t q p
theorem PthR.app {t : List Nod} {L : List (List Stp)} {p : List Stp} {q : Nat} {n : Nod} (h : PthR t L) (hn : t[q]? = some n) (hk : (L.length : Int) ∈ n.ends) (hp : PthOf t q p) : PthR t (L ++ [p]) := fun k x hx => by
 by_cases e : k < L.length
 ·rw [List.getElem?_append_left e] at hx
  exact h k x hx
 ·have hl := (List.getElem?_eq_some_iff.1 hx).1
  rw [List.length_append, List.length_singleton] at hl
  obtain rfl : k = L.length := by omega
  rw [List.getElem?_append_right (Nat.le_refl _)] at hx
  simp at hx
  subst hx
  exact ⟨q, n, hn, hk, hp⟩
set_option maxRecDepth 10000 in
set_option maxHeartbeats 8000000 in
theorem pathsR23_calls (t : List Nod) (ao : Option Addr) (N cap : Nat) (hN : Hid (t.length = N)) (hm : Hid (Mid t)) (hz : Hid (∀ n ∈ t, ∀ s ∈ n.steps, s.name.size ≤ 1048576)) (w : World) (hk : Hid (NodesAt w ao t)) :
  Calls Tryd.prog 19 #[.slice ao N cap] w fun e w' => (∃ ro rc L E, e = .returned (.tuple #[.slice ro (L : List (List Stp)).length rc, .int .i64 E]) ∧ PthsAt w' ro L ∧ IsPths t L E) ∧ Below w.heap.size w w' := by
 have hNi : N ≤ 1048576 := by have := hm.out.1; have := hN.out; omega
 have hNi' : (N : Int) ≤ 1048576 := by omega
 obtain ⟨F, hF⟩ : ∃ F : Bool, Hid (F = true ↔ FrmR t) := by
  by_cases h : FrmR t
  ·exact ⟨true, hid (by simp [h])⟩
  ·exact ⟨false, hid (by simp [h])⟩
 have hf := hid (formedR23_calls t ao N cap hN hm hz F hF w hk)
 have hcn := hid (fun (u : World) (hu : Below w.heap.size w u) => count23_calls t ao N cap hN hm u (hid (hk.out.kept hu)))
 obtain ⟨C, hC⟩ : ∃ C, Hid ((enA t).length = C) := ⟨_, rfl⟩
 rw [hC.out] at hcn
 go_enter Tryd.func19, Tryd.ntmps19
 go_wp2_with fail
 refine Calls.mono hf.out ?_
 rintro e w2 ⟨rfl, b2⟩
 have B2 := hid b2
 clear b2 hf
 cases F with
 | false =>
  have hno := hid (show ¬ FrmR t from fun h => by have := hF.out.2 h; cases this)
  go_wp2
  refine bodyPost_ret (v := .tuple #[.slice none 0 0, .int .i64 1]) (by simp [results, Tryd.results19, go_sem]) rfl ?_
  exact ⟨⟨none, 0, [], 1, rfl, fun i x h => by simp at h, .inl ⟨hno.out, rfl, rfl⟩⟩, B2.out⟩
 | true =>
  have hyes := hid (hF.out.1 rfl)
  have hC256 : C ≤ 256 := by have := hyes.out.2.1; have := hC.out; omega
  have hCi : (C : Int) ≤ 256 := by omega
  have hpo := hid (fun (i : Nat) (hi : i < N) (p : List Stp) (hp : Hid (PthOf t i p)) (u : World) (hu : Below w.heap.size w u) => pathOf23_calls t ao N cap hN hm hyes hz i hi p hp u (hid (hk.out.kept hu)))
  go_wp2
  go_loopw [4, 5] (fun vv kk wr => ∃ (k : Nat) (v : Value) (L : List (List Stp)), k ≤ C ∧ kk = .int .i64 (k : Int) ∧ v = vv ∧ Hid (L.length = k) ∧ Hid (PthR t L) ∧ Hid (PlO w2.heap.size wr v L) ∧ Hid (Below w2.heap.size w2 wr)) (fun _ kk _ => C - (intOf kk).toNat)
  case atStart => exact ⟨0, _, [], Nat.zero_le _, rfl, rfl, hid rfl, hid (fun k p h => by simp at h), hid (PlO.nil _ _), hid (Below.refl _ _)⟩
  case round =>
   obtain ⟨k, v, L, hkC, rfl, rfl, hL, hR, hO, hb⟩ := hrel
   have Bw := hid (B2.out.trans (hb.out.mono B2.out.size))
   go_wp2_with fail
   refine Calls.mono (hcn.out _ Bw.out) ?_
   rintro e w3 ⟨rfl, b3⟩
   have b3' := hid (hb.out.trans (b3.mono hb.out.size))
   have hO3 := hid (hO.out.keptB b3)
   clear b3 hO hb Bw
   by_cases hlt : k < C
   ·have hli : decide ((k : Int) < (C : Int)) = true := decide_eq_true (by omega)
    have hli2 : decide (k < C) = true := decide_eq_true hlt
    have hlt' := hid (show k + 1 ≤ C by omega)
    go_wp2
    go_loopw [4, 6] (fun vv ii wr => ∃ (i : Nat) (v : Value) (L : List (List Stp)), i ≤ N ∧ ii = .int .i64 (i : Int) ∧ v = vv ∧ Hid ((L.length = k ∧ ∀ (q : Nat) (n : Nod), q < i → t[q]? = some n → (k : Int) ∉ n.ends) ∨ (L.length = k + 1 ∧ ∃ (q : Nat) (n : Nod), q < i ∧ t[q]? = some n ∧ (k : Int) ∈ n.ends)) ∧ Hid (PthR t L) ∧ Hid (PlO w2.heap.size wr v L) ∧ Hid (Below w2.heap.size w2 wr)) (fun _ ii _ => N - (intOf ii).toNat)
    case atStart => exact ⟨0, v, L, Nat.zero_le _, rfl, rfl, hid (.inl ⟨hL.out, fun q n h => by omega⟩), hR, hO3, b3'⟩
    case round =>
     clear hL hR hO3 b3'
     obtain ⟨i, v, L, hi, rfl, rfl, hS, hR, hO, hb⟩ := hrel
     have Bw := hid (B2.out.trans (hb.out.mono B2.out.size))
     by_cases hiN : i < N
     ·have hii : (i : Int) < (N : Int) := by omega
      have hi' := hid (show i + 1 ≤ N by omega)
      obtain ⟨n, hn⟩ : ∃ n, Hid (t[i]? = some n) := ⟨_, List.getElem?_eq_getElem (by rw [hN.out]; exact hiN)⟩
      obtain ⟨g, o, sa, sc, ta, tc, ea, ec, rfl, -, -, -, hE, hcl⟩ := node_at hk.out hn.out
      have d2 := (hcl wr Bw.out).2.2.1
      obtain ⟨M, hM⟩ : ∃ M, Hid (n.ends.length = M) := ⟨_, rfl⟩
      have hMb : M ≤ 4611686018427387904 := by
       have h1 := (flat_pre Nod.ends hn.out M).length_le
       have h2 := hyes.out.2.1
       have := hM.out
       unfold enA at h2
       rw [List.length_append, List.length_take] at h1
       omega
      rw [hM.out] at d2
      have hha := hid (hasI_calls n.ends ea M ec hM hMb (k : Int) wr (hid (hE.kept Bw.out)))
      obtain ⟨T, hT⟩ : ∃ T, decide ((k : Int) ∈ n.ends) = T := ⟨_, rfl⟩
      rw [hT] at hha
      have hT' := hid hT
      clear hcl hE hT
      go_wp2_with fail
      refine Calls.mono hha.out ?_
      rintro e w4 ⟨rfl, b4⟩
      have B4 := hid (hb.out.trans (b4.mono hb.out.size))
      have O4 := hid (hO.out.keptB b4)
      have Bw4 := hid (B2.out.trans (B4.out.mono B2.out.size))
      clear b4 hha d2 hO hb Bw
      cases T with
      | false =>
       have hno := of_decide_eq_false hT'.out
       have hS2 : Hid ((L.length = k ∧ ∀ (q : Nat) (n : Nod), q < i + 1 → t[q]? = some n → (k : Int) ∉ n.ends) ∨ (L.length = k + 1 ∧ ∃ (q : Nat) (n : Nod), q < i + 1 ∧ t[q]? = some n ∧ (k : Int) ∈ n.ends)) := hid (by
        rcases hS.out with ⟨h1, h2⟩ | ⟨h1, q, n', h2, h3, h4⟩
        ·refine .inl ⟨h1, fun q n' h5 h6 => ?_⟩
         by_cases e : q = i
         ·subst e
          have := hn.out.symm.trans h6
          cases this
          exact hno
         ·exact h2 q n' (by omega) h6
        ·exact .inr ⟨h1, q, n', by omega, h3, h4⟩)
       clear hS hno
       go_wp2
       go_roundw
       case rel => exact ⟨i + 1, v, L, hi'.out, by simp, rfl, hS2, hR, O4, B4⟩
       case measure => simp [intOf]; have := hi'.out; omega
      | true =>
       have hyk := hid (of_decide_eq_true hT'.out)
       obtain ⟨p, hp0⟩ := pth_ex hyes.out i (by rw [hN.out]; exact hiN)
       have hp := hid hp0
       have hLk : Hid (L.length = k) := hid (by
        rcases hS.out with ⟨h1, -⟩ | ⟨-, q, n', h2, h3, h4⟩
        ·exact h1
        ·have := end_uniq (frm_end hyes.out).1 hn.out hyk.out h3 h4
         omega)
       have hR2 := hid (hR.out.app hn.out (by rw [hLk.out]; exact hyk.out) hp.out)
       have hS2 : Hid (((L ++ [p]).length = k ∧ ∀ (q : Nat) (n : Nod), q < i + 1 → t[q]? = some n → (k : Int) ∉ n.ends) ∨ ((L ++ [p]).length = k + 1 ∧ ∃ (q : Nat) (n : Nod), q < i + 1 ∧ t[q]? = some n ∧ (k : Int) ∈ n.ends)) := hid (.inr ⟨by rw [List.length_append, hLk.out]; rfl, i, n, by omega, hn.out, hyk.out⟩)
       have hcall := hid (hpo.out i hiN p hp _ Bw4.out)
       clear hp0 hS hR
       go_wp2_with fail
       refine Calls.mono hcall.out ?_
       rintro e w5 ⟨⟨u, rfl, hu⟩, b5⟩
       have B5 := hid (B4.out.trans (b5.mono B4.out.size))
       have O5 := hid (O4.out.keptB b5)
       have hu5 := hid (hu.mono B4.out.size)
       obtain ⟨W6, hW6⟩ : ∃ W, w5.alloc (.cells #[u] 45) = W := ⟨_, rfl⟩
       have b6 : Below w5.heap.size w5 W6 := by rw [← hW6]; exact (Below.refl _ w5).alloc (Nat.le_refl _) _
       have A6 := hid (show At W6 w5.heap.size #[u] 45 by rw [← hW6]; exact At.new _ _ _)
       have B6 := hid (B5.out.trans (b6.mono B5.out.size))
       have O6 := hid (O5.out.keptB b6)
       have hu6 := hid (hu5.out.keptB b6)
       obtain ⟨ro, rc, rfl⟩ := hu.shape
       clear b5 b6 hcall hu hu5 O5 O4
       go_wp2_with (first | (at_builtin; refine wpList_plO rfl _ _ rfl w2.heap.size v (.slice ro p.length rc) L p ⟨w5.heap.size, 0, none⟩ 1 rfl rfl O6.out hu6.out (A6.out.cell 0) (by have := hLk.out; omega) B6.out.size ?_) | fail)
       intro v' w7 O7 hg7
       have B7 := hid (B6.out.grown hg7 B6.out.size (fun c hc => (O6.out.lt c hc).1))
       have O7' := hid O7
       clear O7 hg7 O6 hu6 A6 hW6
       go_wp2
       go_roundw
       case rel => exact ⟨i + 1, v', L ++ [p], hi'.out, by simp, rfl, hS2, hR2, O7', B7⟩
       case measure => simp [intOf]; have := hi'.out; omega
     ·obtain rfl : i = N := by omega
      have hL2 : Hid (L.length = k + 1) := hid (by
       rcases hS.out with ⟨-, h2⟩ | ⟨h1, -⟩
       ·have h3 := (frm_end hyes.out).2.2 k (by rw [hC.out]; exact hlt)
        obtain ⟨n, h4, h5⟩ := List.mem_flatMap.1 h3
        obtain ⟨q, h6, h7⟩ := List.mem_iff_getElem.1 h4
        exact absurd h5 (h2 q n (by rw [← hN.out]; exact h6) (by rw [List.getElem?_eq_getElem h6, h7]))
       ·exact h1)
      clear hS
      go_wp2
      go_roundw
      case rel => exact ⟨k + 1, v, L, hlt'.out, by simp, rfl, hL2, hR, hO, hb⟩
      case measure => simp [intOf]; have := hlt'.out; omega
   ·have hli : decide ((k : Int) < (C : Int)) = false := decide_eq_false (by omega)
    have hli2 : decide (k < C) = false := decide_eq_false hlt
    obtain rfl : k = C := by omega
    have hI : Hid (IsPths t L 0) := hid (.inr ⟨hyes.out, rfl, by rw [hL.out, hC.out], hR.out⟩)
    obtain ⟨vals, hv1, -⟩ := hO3.out
    obtain ⟨ro, rc, rfl⟩ := own_shape hv1
    have hrow := hid hO3.out.row.2
    have Bf := hid (B2.out.trans (b3'.out.mono B2.out.size))
    clear hv1 hR hO3
    rw [hL.out]
    go_wp2
    refine bodyPost_ret (v := .tuple #[.slice ro k rc, .int .i64 0]) (by simp [results, Tryd.results19, go_sem]) rfl ?_
    exact ⟨⟨ro, rc, L, 0, by rw [hL.out], hrow.out, hI.out⟩, Bf.out⟩
end Go.Proofs.YtbabdhepnjacdaaDoor
