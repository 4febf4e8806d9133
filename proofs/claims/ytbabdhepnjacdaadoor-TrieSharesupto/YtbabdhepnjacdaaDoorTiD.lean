/-
 trie.linked.
-/
import Derived.Test.YtbabdhepnjacdaaDoorTiB
namespace Go.Proofs.YtbabdhepnjacdaaDoor
open Go.RowKit Go.Shelf
/-- Truths as cells. -/
def tfC (K : Nat) (G : Nat → Bool) : Array Value := ((List.range K).map fun j => Value.bool (G j)).toArray
theorem tfC_size (K : Nat) (G : Nat → Bool) : (tfC K G).size = K := by simp [tfC]
theorem tfC_get {K j : Nat} (G : Nat → Bool) (h : j < K) : (tfC K G)[j]? = some (.bool (G j)) := by simp [tfC, h]
theorem tfC_set (K j : Nat) (x : Bool) (G : Nat → Bool) : (tfC K G).setIfInBounds j (.bool x) = tfC K (fun i => if i = j then x else G i) := by
 apply Array.ext_getElem?
 intro i
 by_cases hi : i < K
 ·rw [tfC_get _ hi]
  by_cases hij : i = j
  ·subst hij
   rw [Array.getElem?_setIfInBounds_self_of_lt (by rw [tfC_size]; exact hi)]
   simp
  ·rw [Array.getElem?_setIfInBounds_ne (by omega), tfC_get _ hi]
   simp [hij]
 ·rw [Array.getElem?_eq_none (by simp [tfC_size]; omega), Array.getElem?_eq_none (by rw [tfC_size]; omega)]
theorem tfC_congr {K : Nat} {G G' : Nat → Bool} (h : ∀ j, j < K → G j = G' j) : tfC K G = tfC K G' := by
 unfold tfC
 congr 1
 apply List.map_congr_left
 intro j hj
 rw [h j (by simpa using hj)]
theorem tfC_zero (K : Nat) : madeCells #[.bool false] K = tfC K (fun _ => false) := by
 apply Array.ext_getElem?
 intro i
 by_cases hi : i < K
 ·rw [tfC_get _ hi]
  simp [madeCells, hi, Nat.mod_one]
 ·rw [Array.getElem?_eq_none (by simp [madeCells]; omega), Array.getElem?_eq_none (by rw [tfC_size]; omega)]
theorem infoBT : (Tryd.prog.info? 4).map (fun i => (i.zero, i.size, i.bytes)) = some (some (.bool false), 1, 1) := by kernel_rfl
theorem make_tf (K : Nat) (hK : K ≤ 140737488351232) (u : World) : (Instr.makeSlice 90 (.int .i64 (K : Int)) (.int .i64 (K : Int))).run Tryd.prog u =
  .ok (.slice (some ⟨u.heap.size, 0, none⟩) K K) (u.alloc (.cells (tfC K (fun _ => false)) 4)) := by
 obtain ⟨i0, hi, hz0, hz1, hz2⟩ : ∃ i, Tryd.prog.info? 4 = some i ∧ i.zero = some (.bool false) ∧ i.size = 1 ∧ i.bytes = 1 := by
  cases hi : Tryd.prog.info? 4 with
  | none => have := infoBT; rw [hi] at this; cases this
  | some i => have := infoBT; rw [hi] at this; simp at this; exact ⟨i, rfl, this.1, this.2.1, this.2.2⟩
 have h := run_make (P := Tryd.prog) u 90 4 i0 (.bool false) Tryd.underlying90 hi hz0 .i64 .i64 (K : Int) (K : Int) (by omega) (Int.le_refl _) (by rw [hz2]; omega) (by omega)
 rw [Int.toNat_natCast] at h
 rw [h, ← tfC_zero]
 simp [hz1, Value.cells]
/-- Lists of nodes, one behind the other. -/
theorem flat_succ {α : Type} (f : Nod → List α) {t : List Nod} {i : Nat} {n : Nod} (h : t[i]? = some n) : (t.take (i + 1)).flatMap f = (t.take i).flatMap f ++ f n := by
 rw [List.take_add_one, h, List.flatMap_append]; simp
theorem flat_pre {α : Type} (f : Nod → List α) {t : List Nod} {i : Nat} {n : Nod} (h : t[i]? = some n) (j : Nat) : ((t.take i).flatMap f ++ (f n).take j).Sublist (t.flatMap f) := by
 have h1 := (List.getElem?_eq_some_iff.1 h)
 obtain ⟨hl, he⟩ := h1
 have e : t = t.take i ++ n :: t.drop (i + 1) := by rw [← he, List.getElem_cons_drop, List.take_append_drop]
 conv => rhs; rw [e]
 rw [List.flatMap_append, List.flatMap_cons]
 exact (List.Sublist.refl _).append ((List.take_sublist j _).trans (List.sublist_append_left _ _))
theorem take_snoc {α : Type} {l : List α} {j : Nat} {x : α} (h : l[j]? = some x) : l.take (j + 1) = l.take j ++ [x] := by rw [List.take_add_one, h]; rfl
/-- What was led to: marked. -/
def ledF (L : List Int) (j : Nat) : Bool := decide ((j : Int) ∈ L)
theorem ledF_snoc {L : List Int} {y : Nat} : (fun i => if i = y then true else ledF L i) = ledF (L ++ [(y : Int)]) := by
 funext i
 unfold ledF
 by_cases h : i = y
 ·subst h; simp
 ·have : ¬((i : Int) = (y : Int)) := by omega
  simp [h, this]
set_option maxRecDepth 10000 in
set_option maxHeartbeats 4000000 in
theorem linked23_calls (t : List Nod) (ao : Option Addr) (N cap : Nat) (hN : Hid (t.length = N)) (hNi : N ≤ 1048576) (hsum : Hid ((toA t).length ≤ 1048576)) (B : Bool) (hB : Hid (B = true ↔ LnkP t)) (w : World) (hk : Hid (NodesAt w ao t)) :
  Calls Tryd.prog 40 #[.slice ao N cap] w fun e w' => e = .returned (.bool B) ∧ Below w.heap.size w w' := by
 have hNi' : (N : Int) ≤ 1048576 := by omega
 have hmk := fun u => make_tf N (by omega) u
 go_enter Tryd.func40, Tryd.ntmps40
 go_wp2
 go_loopw [4, 14] (fun cc ii wr => ∃ (i c : Nat), i ≤ N ∧ ii = .int .i64 (i : Int) ∧ cc = .int .i64 (c : Int) ∧ c ≤ 1048576 ∧ Hid (c = (toA (t.take i)).length) ∧ Hid ((toA (t.take i)).Nodup) ∧ Hid (∀ (q : Nat) (n : Nod), q < i → t[q]? = some n → ∀ x ∈ n.tos, (q : Int) < x ∧ x < (N : Int)) ∧
  Hid (At wr w.heap.size (tfC N (ledF (toA (t.take i)))) 4) ∧ Hid (Below w.heap.size w wr)) (fun _ ii _ => N - (intOf ii).toNat)
 case atStart =>
  refine ⟨0, 0, Nat.zero_le _, rfl, rfl, by omega, hid (by simp [toA]), hid (by simp [toA]), hid (fun q n h => by omega), hid ?_, hid ((Below.refl _ _).alloc (Nat.le_refl _) _)⟩
  rw [show tfC N (ledF (toA (t.take 0))) = tfC N (fun _ => false) from tfC_congr (fun j _ => by simp [ledF, toA])]
  exact At.new w _ _
 case round =>
  clear hmk
  obtain ⟨i, c, hi, rfl, rfl, hcb, hc, hnd, hto, hA, hb⟩ := hrel
  by_cases hlt : i < N
  ·have hli : (i : Int) < (N : Int) := by omega
   obtain ⟨n, hn⟩ : ∃ n, Hid (t[i]? = some n) := ⟨_, List.getElem?_eq_getElem (by rw [hN.out]; exact hlt)⟩
   obtain ⟨g, o, cs, rfl, hg, hrg0, sa, sc, ta, tc, ea, ec, rfl, hS, hSB, hT, hE⟩ := hk.out i n hn.out
   have hrg := range_kept hrg0 hb.out
   obtain ⟨M, hM⟩ : ∃ M, Hid (n.tos.length = M) := ⟨_, rfl⟩
   have hpre := hid (flat_pre Nod.tos hn.out)
   have hMb : M ≤ 1048576 := by
    have := (hpre.out M).length_le
    have h2 := hsum.out
    unfold toA at h2
    rw [List.length_append, List.length_take] at this
    have := hM.out
    omega
   have hMi : (M : Int) ≤ 1048576 := by omega
   rw [hM.out] at hrg
   have hrg' := hid hrg
   have hT' := hid hT
   have hlt' := hid (show i + 1 ≤ N by omega)
   have z1 : (Tryd.prog.info? 50).map (·.size) = some ([.slice sa n.steps.length sc, .slice ta M tc, .slice ea n.ends.length ec] : List Value).length := by kernel_rfl
   generalize n.steps.length = q1 at hrg' z1
   generalize n.ends.length = q2 at hrg' z1
   obtain ⟨q, hq⟩ : ∃ q, Hid (wr.heap.size = q) := ⟨_, rfl⟩
   obtain ⟨W1, hW1⟩ : ∃ W, wr.alloc (.cells #[.slice sa q1 sc, .slice ta M tc, .slice ea q2 ec] 50) = W := ⟨_, rfl⟩
   have b1 : Below wr.heap.size wr W1 := by rw [← hW1]; exact (Below.refl _ wr).alloc (Nat.le_refl _) _
   have A1 : At W1 q #[.slice sa q1 sc, .slice ta M tc, .slice ea q2 ec] 50 := by rw [← hW1, ← hq.out]; exact At.new _ _ _
   have B1 := hid (hb.out.trans (b1.mono hb.out.size))
   have L1 : Hid (At W1 w.heap.size (tfC N (ledF (toA (t.take i)))) 4) := hid (hA.out.keptAll b1)
   have c1 := A1.cell 1
   simp only [List.getElem?_toArray, List.getElem?_cons_zero, List.getElem?_cons_succ] at c1
   rw [← hq.out] at c1
   clear hg hrg0 hrg hS hSB hT hE A1 b1 hA
   go_wp2_with (first | refine wpList_load_want 50 _ g (o + i * 3) [.slice sa q1 sc, .slice ta M tc, .slice ea q2 ec] _ hrg'.out Tryd.underlying50 z1 rfl rfl rfl (by rfl) ?_ | fail)
   clear c1 hW1
   go_loopw [4, 22] (fun cc jj wr => ∃ (j c : Nat), j ≤ M ∧ jj = .int .i64 (j : Int) ∧ cc = .int .i64 (c : Int) ∧ c ≤ 1048576 ∧ Hid (c = (toA (t.take i) ++ n.tos.take j).length) ∧ Hid ((toA (t.take i) ++ n.tos.take j).Nodup) ∧ Hid (∀ x ∈ n.tos.take j, (i : Int) < x ∧ x < (N : Int)) ∧
    Hid (At wr w.heap.size (tfC N (ledF (toA (t.take i) ++ n.tos.take j))) 4) ∧ Hid (Below w.heap.size w wr)) (fun _ jj _ => M - (intOf jj).toNat)
   case atStart => exact ⟨0, c, Nat.zero_le _, rfl, rfl, hcb, hid (by simpa using hc.out), hid (by simpa using hnd.out), hid (by simp), hid (by simpa using L1.out), B1⟩
   case round =>
    clear L1 B1 hc hcb hb
    obtain ⟨j, c, hj, rfl, rfl, hcb, hc, hnd2, hto2, hA, hb⟩ := hrel
    by_cases hjl : j < M
    ·have hji : (j : Int) < (M : Int) := by omega
     obtain ⟨x, hx⟩ : ∃ x, Hid (n.tos[j]? = some x) := ⟨_, List.getElem?_eq_getElem (by rw [hM.out]; exact hjl)⟩
     obtain ⟨⟨hx1, hx2⟩, g2, o2, rfl, hg2, cx⟩ := (hT'.out.kept hb.out) j x hx.out
     have ad1 : (⟨g2, o2, none⟩ : Addr).add j = ⟨g2, o2 + j, none⟩ := by by_cases h : j = 0 <;> simp [Addr.add, h]
     have hmem : Hid (x ∈ n.tos) := hid (List.mem_of_getElem? hx.out)
     have hj' := hid (show j + 1 ≤ M by omega)
     by_cases h1 : x ≤ (i : Int)
     ·have f1 : decide (x ≤ (i : Int)) = true := decide_eq_true h1
      have hfin : Hid (B = false) := hid (by
       cases hb : B with
       | false => rfl
       | true => have := (hB.out.1 hb).1 i n hn.out x hmem.out; omega)
      clear h1
      go_wp2
      go_ret
      exact ⟨by rw [hfin.out] <;> rfl, hb.out⟩
     ·have f1 : decide (x ≤ (i : Int)) = false := decide_eq_false h1
      by_cases h2 : (N : Int) ≤ x
      ·have f2 : decide ((N : Int) ≤ x) = true := decide_eq_true h2
       have hfin : Hid (B = false) := hid (by
        cases hb : B with
        | false => rfl
        | true => have := (hB.out.1 hb).1 i n hn.out x hmem.out; rw [hN.out] at this; omega)
       clear h1 h2
       go_wp2
       go_ret
       exact ⟨by rw [hfin.out] <;> rfl, hb.out⟩
      ·have f2 : decide ((N : Int) ≤ x) = false := decide_eq_false h2
       obtain ⟨y, rfl⟩ : ∃ y : Nat, x = (y : Int) := ⟨x.toNat, by omega⟩
       have hyN : y < N := by omega
       have htk := hid (take_snoc hx.out)
       have cy := hA.out.cell y
       rw [tfC_get _ hyN] at cy
       have hfr := hA.out.frozen y
       have hyi : (y : Int) < (N : Int) := by omega
       have hy3 : (i : Int) < (y : Int) := by omega
       cases hl : ledF (toA (t.take i) ++ n.tos.take j) y with
       | true =>
        rw [hl] at cy
        have hfin : Hid (B = false) := hid (by
         cases hb : B with
         | false => rfl
         | true =>
          have h3 := (hB.out.1 hb).2.1.sublist (hpre.out (j + 1))
          rw [htk.out, ← List.append_assoc] at h3
          exact absurd rfl ((List.nodup_append.1 h3).2.2 _ (of_decide_eq_true hl) _ (List.mem_singleton.2 rfl)))
        clear h1 h2 hl
        go_wp2
        go_ret
        exact ⟨by rw [hfin.out] <;> rfl, hb.out⟩
       | false =>
        rw [hl] at cy
        have hno : Hid (¬ (y : Int) ∈ toA (t.take i) ++ n.tos.take j) := hid (of_decide_eq_false hl)
        have hlen : Hid (c + 1 = (toA (t.take i) ++ n.tos.take (j + 1)).length) := hid (by rw [htk.out, ← List.append_assoc, List.length_append, ← hc.out]; rfl)
        have hcb' : Hid (c + 1 ≤ 1048576) := hid (by
         have h3 := (hpre.out (j + 1)).length_le
         have h4 := hsum.out
         have h5 := hlen.out
         unfold toA at h4 h5
         omega)
        have hnd3 : Hid ((toA (t.take i) ++ n.tos.take (j + 1)).Nodup) := hid (by
         rw [htk.out, ← List.append_assoc, List.nodup_append]
         exact ⟨hnd2.out, by simp, fun a ha b hb e => by
          have := List.mem_singleton.1 hb
          subst this
          subst e
          exact hno.out ha⟩)
        have hto3 : Hid (∀ x ∈ n.tos.take (j + 1), (i : Int) < x ∧ x < (N : Int)) := hid (fun x hx => by
         rw [htk.out] at hx
         rcases List.mem_append.1 hx with h | h
         ·exact hto2.out x h
         ·have := List.mem_singleton.1 h
          subst this
          exact ⟨hy3, hyi⟩)
        have hA3 : Hid (At (wr.setCell ⟨w.heap.size, y, none⟩ (.bool true)) w.heap.size (tfC N (ledF (toA (t.take i) ++ n.tos.take (j + 1)))) 4) := hid (by
         have h := hA.out.set y (.bool true)
         rw [tfC_set, ledF_snoc, List.append_assoc, ← htk.out] at h
         exact h)
        have hb3 := hid (hb.out.setCell (p := ⟨w.heap.size, y, none⟩) (Nat.le_refl _) (.bool true))
        clear h1 h2 hl hno hA hnd2 hto2 hc hb
        go_wp2
        go_roundw
        case rel => exact ⟨j + 1, c + 1, hj'.out, by simp, by simp, hcb'.out, hlen, hnd3, hto3, hA3, hb3⟩
        case measure => simp [intOf]; have := hj'.out; omega
    ·obtain rfl : j = M := by omega
     have htk : Hid (n.tos.take j = n.tos) := hid (List.take_of_length_le (by rw [hM.out]; exact Nat.le_refl _))
     rw [htk.out] at hc hnd2 hto2 hA
     have hsu := hid (flat_succ Nod.tos hn.out)
     have hc' : Hid (c = (toA (t.take (i + 1))).length) := hid (by unfold toA; rw [hsu.out]; exact hc.out)
     have hnd' : Hid ((toA (t.take (i + 1))).Nodup) := hid (by unfold toA; rw [hsu.out]; exact hnd2.out)
     have hA' : Hid (At wr w.heap.size (tfC N (ledF (toA (t.take (i + 1))))) 4) := hid (by unfold toA; rw [hsu.out]; exact hA.out)
     have hto' : Hid (∀ (q : Nat) (n : Nod), q < i + 1 → t[q]? = some n → ∀ x ∈ n.tos, (q : Int) < x ∧ x < (N : Int)) := hid (fun q n' hq hn' x hx => by
      by_cases e : q = i
      ·subst e
       have := hn.out.symm.trans hn'
       cases this
       exact hto2.out x hx
      ·exact hto.out q n' (by omega) hn' x hx)
     clear hc hnd2 hto2 hA hto
     go_wp2
     go_roundw
     case rel => exact ⟨i + 1, c, hlt'.out, by simp, rfl, hcb, hc', hnd', hto', hA', hb⟩
     case measure => simp [intOf]; have := hlt'.out; omega
  ·obtain rfl : i = N := by omega
   have htk : Hid (t.take i = t) := hid (List.take_of_length_le (by rw [hN.out]; exact Nat.le_refl _))
   rw [htk.out] at hc hnd
   have hfin : Hid (B = ((c : Int) == (i : Int) - 1)) := hid (by
    have h1 : B = true ↔ (c : Int) = (i : Int) - 1 := by
     rw [hB.out]
     constructor
     ·intro h
      have := h.2.2
      rw [hN.out, ← hc.out] at this
      omega
     ·intro h
      refine ⟨fun q n hn => ?_, hnd.out, by rw [hN.out, ← hc.out]; omega⟩
      rw [hN.out]
      exact hto.out q n (by have := (List.getElem?_eq_some_iff.1 hn).1; have := hN.out; omega) hn
    rw [Bool.eq_iff_iff, h1]
    simp)
   have hci : (c : Int) ≤ 1048576 := by omega
   go_wp2
   go_ret
   exact ⟨by rw [hfin.out] <;> rfl, hb.out⟩
end Go.Proofs.YtbabdhepnjacdaaDoor
