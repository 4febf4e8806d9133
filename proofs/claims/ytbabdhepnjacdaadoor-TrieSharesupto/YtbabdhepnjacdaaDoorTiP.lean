/-
 trie.arrivals.
-/
import Derived.Test.YtbabdhepnjacdaaDoorTiO
import Derived.Test.YtbabdhepnjacdaaDoorTiI
namespace Go.Proofs.YtbabdhepnjacdaaDoor
open Go.RowKit Go.Shelf
theorem sizeAr : (Tryd.prog.info? 86).map (·.size) = some 5 := by kernel_rfl
set_option maxRecDepth 10000 in
set_option maxHeartbeats 8000000 in
theorem arrivals23_calls (t : List Nod) (ao : Option Addr) (N cap : Nat) (hN : Hid (t.length = N)) (hm : Hid (Mid t)) (hf : Hid (FrmR t)) (w : World) (hk : Hid (NodesAt w ao t)) :
  Calls Tryd.prog 36 #[.slice ao N cap] w fun e w' => (∃ G : Nat → Nat × Stp × Nat, e = .returned (.slice (some ⟨w.heap.size, 0, none⟩) N N) ∧ At w' w.heap.size (tabC N fun x => arV (G x)) 86 ∧ ∀ x, x < N → ArrP t x (G x)) ∧ Below w.heap.size w w' := by
 have hNi : N ≤ 1048576 := by have := hm.out.1; have := hN.out; omega
 have hNi' : (N : Int) ≤ 1048576 := by omega
 have hmk := fun u => make_arr N (by omega) u
 go_enter Tryd.func36, Tryd.ntmps36
 go_wp2
 go_loopw [13] (fun ii wr => ∃ (i : Nat) (G : Nat → Nat × Stp × Nat), i ≤ N ∧ ii = .int .i64 (i : Int) ∧ Hid (At wr w.heap.size (tabC N fun x => arV (G x)) 86) ∧ Hid (∀ x, x < N → (x = 0 ∨ (x : Int) ∈ toA (t.take i)) → ArrP t x (G x)) ∧ Hid (Below w.heap.size w wr)) (fun ii _ => N - (intOf ii).toNat)
 case atStart => exact ⟨0, fun _ => nulG, Nat.zero_le _, rfl, hid (At.new _ _ _), hid (fun x _ h => .inl ⟨by rcases h with h | h; exact h; simp [toA] at h, rfl⟩), hid ((Below.refl _ _).alloc (Nat.le_refl _) _)⟩
 case round =>
  clear hmk
  obtain ⟨i, G, hi, rfl, hA, hG, hb⟩ := hrel
  by_cases hlt : i < N
  ·have hli : (i : Int) < (N : Int) := by omega
   have hlt' := hid (show i + 1 ≤ N by omega)
   obtain ⟨n, hn⟩ : ∃ n, Hid (t[i]? = some n) := ⟨_, List.getElem?_eq_getElem (by rw [hN.out]; exact hlt)⟩
   obtain ⟨g, o, cs, rfl, hg, hrg0, sa, sc, ta, tc, ea, ec, rfl, hS, -, hT, -⟩ := hk.out i n hn.out
   have hrg' := hid (range_kept hrg0 hb.out)
   have hfn := frm_node hf.out hn.out
   obtain ⟨M, hM⟩ : ∃ M, Hid (n.tos.length = M) := ⟨_, rfl⟩
   have hMs : Hid (n.steps.length = M) := hid (hfn.1.trans hM.out)
   have hMb : M ≤ 1048576 := by have := hm.out.2.2.2 n (List.mem_of_getElem? hn.out); have := hMs.out; omega
   have hMi : (M : Int) ≤ 1048576 := by omega
   rw [hM.out, hMs.out] at hrg'
   have hS' := hid hS
   have hT' := hid hT
   have hsu := hid (flat_succ Nod.tos hn.out)
   have z1 : (Tryd.prog.info? 50).map (·.size) = some ([.slice sa M sc, .slice ta M tc, .slice ea n.ends.length ec] : List Value).length := by kernel_rfl
   generalize n.ends.length = q3 at hrg' z1
   obtain ⟨q, hq⟩ : ∃ q, Hid (wr.heap.size = q) := ⟨_, rfl⟩
   obtain ⟨W1, hW1⟩ : ∃ W, wr.alloc (.cells #[.slice sa M sc, .slice ta M tc, .slice ea q3 ec] 50) = W := ⟨_, rfl⟩
   have b1 : Below wr.heap.size wr W1 := by rw [← hW1]; exact (Below.refl _ wr).alloc (Nat.le_refl _) _
   have A1 : At W1 q #[.slice sa M sc, .slice ta M tc, .slice ea q3 ec] 50 := by rw [← hW1, ← hq.out]; exact At.new _ _ _
   have B1 := hid (hb.out.trans (b1.mono hb.out.size))
   have L1 := hid (hA.out.keptAll b1)
   have hwq : Hid (w.heap.size < q) := hid (by rw [← hq.out]; exact hA.out.lt)
   have c1 := A1.cell 1
   simp only [List.getElem?_toArray, List.getElem?_cons_zero, List.getElem?_cons_succ] at c1
   have A1' := hid A1
   have hqq := hq.out
   clear hg hrg0 hS hT A1 b1 hA hfn
   go_wp2_with (first | refine wpList_load_want 50 _ g (o + i * 3) [.slice sa M sc, .slice ta M tc, .slice ea q3 ec] _ hrg'.out Tryd.underlying50 z1 rfl rfl rfl (by rfl) ?_ | fail)
   clear c1 hW1 hqq
   go_loopw [21] (fun jj wr => ∃ (j : Nat) (G : Nat → Nat × Stp × Nat), j ≤ M ∧ jj = .int .i64 (j : Int) ∧ Hid (At wr q #[.slice sa M sc, .slice ta M tc, .slice ea q3 ec] 50) ∧ Hid (At wr w.heap.size (tabC N fun x => arV (G x)) 86) ∧ Hid (∀ x, x < N → (x = 0 ∨ (x : Int) ∈ toA (t.take i) ++ n.tos.take j) → ArrP t x (G x)) ∧ Hid (Below w.heap.size w wr)) (fun jj _ => M - (intOf jj).toNat)
   case atStart => exact ⟨0, G, Nat.zero_le _, rfl, A1', L1, hid (by simpa using hG.out), B1⟩
   case round =>
    clear A1' L1 B1 hG hb
    obtain ⟨j, G, hj, rfl, hX, hA, hG, hb⟩ := hrel
    by_cases hjl : j < M
    ·have hji : (j : Int) < (M : Int) := by omega
     have hj' := hid (show j + 1 ≤ M by omega)
     obtain ⟨x, hx⟩ : ∃ x, Hid (n.tos[j]? = some x) := ⟨_, List.getElem?_eq_getElem (by rw [hM.out]; exact hjl)⟩
     obtain ⟨s, hs⟩ : ∃ s, Hid (n.steps[j]? = some s) := ⟨_, List.getElem?_eq_getElem (by rw [hMs.out]; exact hjl)⟩
     have hxb := (frm_lnk hf.out).2 i n hn.out x (List.mem_of_getElem? hx.out)
     rw [hN.out] at hxb
     obtain ⟨y, rfl⟩ : ∃ y : Nat, x = (y : Int) := ⟨x.toNat, by omega⟩
     have hyN : y < N := by omega
     have hyi : (y : Int) < (N : Int) := by omega
     have hiy : i < y := by omega
     obtain ⟨p, hp, hfar⟩ := (hG.out i hlt (by
      by_cases h0 : i = 0
      ·exact .inl h0
      ·exact .inr (List.mem_append.2 (.inl (led_ahead hf.out (by omega) (by rw [hN.out]; exact hlt)))))).pth
     have hfl := hp.len hf.out
     obtain ⟨g2, o2, rfl, hg2, hrg2⟩ := steps_at (hS'.out.kept hb.out) hs.out
     obtain ⟨g3, o3, rfl, hcx⟩ := ints_at hT'.out hx.out
     have cx := hcx _ hb.out
     have hg2w : Hid (g2 < w.heap.size) := hid (by obtain ⟨-, b5, o5, e5, h5, -⟩ := hS'.out j s hs.out; cases e5; exact h5)
     have ad3 : (⟨g3, o3, none⟩ : Addr).add j = ⟨g3, o3 + j, none⟩ := by by_cases h : j = 0 <;> simp [Addr.add, h]
     obtain ⟨D, hD⟩ : ∃ D, Hid ((G i).2.2 = D) := ⟨_, rfl⟩
     have hDb : D ≤ 1048576 := by have := hD.out; omega
     have hDi : (D : Int) ≤ 1048576 := by omega
     have hCl : ∀ k, k < N → ((fun x => arV (G x)) k).length = 5 := fun _ _ => rfl
     have cf := hid (show wr.cell? ⟨w.heap.size, i * 5 + 4, none⟩ = some (.int .i64 (D : Int)) by rw [tab_cell hA.out hCl hlt (by decide : 4 < 5)]; show some _ = _; rw [← hD.out])
     have hth := hid (tab_there hA.out hCl hyN)
     obtain ⟨sk, sn, sp⟩ := s
     dsimp only at hrg2
     have hrg3 := hid hrg2
     have hs' := hid hs.out
     have hG2 : Hid (∀ x, x < N → (x = 0 ∨ (x : Int) ∈ toA (t.take i) ++ n.tos.take (j + 1)) → ArrP t x (if x = y then (i, ⟨sk, sn, sp⟩, D + 1) else G x)) := hid (fun x hxN h => by
      by_cases e : x = y
      ·subst e
       rw [if_pos rfl]
       exact .inr ⟨n, j, p, hn.out, hx.out, hs.out, hp, by rw [← hD.out, hfar]⟩
      ·rw [if_neg e]
       refine hG.out x hxN ?_
       rcases h with h | h
       ·exact .inl h
       ·rw [take_snoc hx.out, ← List.append_assoc] at h
        rcases List.mem_append.1 h with h | h
        ·exact .inr h
        ·have := List.mem_singleton.1 h
         omega)
     have c0 := hid (hX.out.cell 0)
     clear hp hfar hfl hxb hrg2 hg2 hcx hG hs hx
     go_wp2
     rename_i Kr hKr
     refine wp_region_held_drew (S := fun u => u.cell? ⟨q, 0, none⟩ = some (.slice (some ⟨g2, o2, none⟩) M sc) ∧ u.rangeAt g2 (o2 + j * 3) [.int .i64 sk, .string sn, .int .i64 sp] ∧ u.cell? ⟨w.heap.size, i * 5 + 4, none⟩ = some (.int .i64 (D : Int))) (by kernel_rfl) ⟨c0.out, hrg3.out, cf.out⟩ (fun hH => ?_)
     have hw0 : IntKind.i64.wrap ((D : Int) + 1) = (D : Int) + 1 := by rw [IntKind.wrap_i64]; omega
     have adI : (⟨w.heap.size, 0, none⟩ : Addr).add (i * 5) = ⟨w.heap.size, i * 5, none⟩ := by by_cases h : i * 5 = 0 <;> simp [Addr.add, h]
     have adI4 : (⟨w.heap.size, i * 5, none⟩ : Addr).add 4 = ⟨w.heap.size, i * 5 + 4, none⟩ := by simp [Addr.add]
     have adY : (⟨w.heap.size, 0, none⟩ : Addr).add (y * 5) = ⟨w.heap.size, y * 5, none⟩ := by by_cases h : y * 5 = 0 <;> simp [Addr.add, h]
     (refine' wpAnyH_take (i := 0) rfl (by kernel_rfl) (by kernel_rfl) (by kernel_rfl) (fun _ _ _ h => h) (Or.inl ⟨by rfl, ?_⟩) (by assumption) ?_; rotate_left; (· (intro wq hq; (try dsimp only at hq); go_simp; first | done | with_reducible rfl)); simp only [Act.put, List.getElem_toArray, List.getElem_cons_zero, List.setIfInBounds_toArray, List.set_cons_zero, List.set_cons_succ])
     (refine' wpAnyH_take (i := 1) rfl (by kernel_rfl) (by kernel_rfl) (by kernel_rfl) (fun _ _ _ h => h) (Or.inl ⟨by rfl, ?_⟩) (by assumption) ?_; rotate_left; (· (intro wq hq; (try dsimp only at hq); go_simp; first | done | with_reducible rfl)); simp only [Act.put, List.getElem_toArray, List.getElem_cons_zero, List.getElem_cons_succ, List.setIfInBounds_toArray, List.set_cons_zero, List.set_cons_succ])
     (refine' wpAnyH_take (i := 2) rfl (by kernel_rfl) (by kernel_rfl) (by kernel_rfl) (fun _ _ _ h => h) (Or.inl ⟨by rfl, ?_⟩) (by assumption) ?_; rotate_left; (· (intro wq hq; (try dsimp only at hq); go_simp; first | done | with_reducible rfl)); simp only [Act.put, List.getElem_toArray, List.getElem_cons_zero, List.getElem_cons_succ, List.setIfInBounds_toArray, List.set_cons_zero, List.set_cons_succ])
     (refine' wpAnyH_take (i := 3) rfl (by kernel_rfl) (by kernel_rfl) (by kernel_rfl) (fun _ _ _ h => h) (Or.inl ⟨by rfl, ?_⟩) (by assumption) ?_; rotate_left; (· (intro wq hq; (try dsimp only at hq); go_simp; first | done | with_reducible rfl)); simp only [Act.put, List.getElem_toArray, List.getElem_cons_zero, List.getElem_cons_succ, List.setIfInBounds_toArray, List.set_cons_zero, List.set_cons_succ])
     (refine' wpAnyH_take (i := 4) rfl (by kernel_rfl) (by kernel_rfl) (by kernel_rfl) (fun _ _ _ h => h) (Or.inl ⟨by rfl, ?_⟩) (by assumption) ?_; rotate_left; (· (intro wq hq; (try dsimp only at hq); go_simp; first | done | with_reducible rfl)); simp only [Act.put, List.getElem_toArray, List.getElem_cons_zero, List.getElem_cons_succ, List.setIfInBounds_toArray, List.set_cons_zero, List.set_cons_succ])
     (refine' wpAnyH_take (i := 5) rfl (by kernel_rfl) (by kernel_rfl) (by kernel_rfl) (fun _ _ _ h => h) (Or.inl ⟨by rfl, ?_⟩) (by assumption) ?_; rotate_left; (· (intro wq hq; (try dsimp only at hq); go_simp; first | done | with_reducible rfl)); simp only [Act.put, List.getElem_toArray, List.getElem_cons_zero, List.getElem_cons_succ, List.setIfInBounds_toArray, List.set_cons_zero, List.set_cons_succ])
     (refine' wpAnyH_take (i := 6) rfl (by kernel_rfl) (by kernel_rfl) (by kernel_rfl) (fun _ _ _ h => h) (Or.inl ⟨by rfl, ?_⟩) (by assumption) ?_; rotate_left; (· (intro wq hq; (try dsimp only at hq); go_simp; first | done | with_reducible rfl)); simp only [Act.put, List.getElem_toArray, List.getElem_cons_zero, List.getElem_cons_succ, List.setIfInBounds_toArray, List.set_cons_zero, List.set_cons_succ])
     (refine wpAnyH_take (i := 7) (v := .agg [.int .i64 sk, .string sn, .int .i64 sp].toArray) rfl (by kernel_rfl) (by kernel_rfl) (by kernel_rfl) (fun _ _ _ h => h) (yieldsIf_load_mid (by rfl) 53 _ rfl (g2) (o2 + j * 3) rfl [.int .i64 sk, .string sn, .int .i64 sp] _ (fun wq hq => hq.2.1) Tryd.underlying53 rfl sizeStp) (by assumption) ?_; simp only [Act.put, List.getElem_toArray, List.getElem_cons_zero, List.getElem_cons_succ, List.setIfInBounds_toArray, List.set_cons_zero, List.set_cons_succ])
     (refine' wpAnyH_take (i := 8) rfl (by kernel_rfl) (by kernel_rfl) (by kernel_rfl) (fun _ _ _ h => h) (Or.inl ⟨by rfl, ?_⟩) (by assumption) ?_; rotate_left; (· (intro wq hq; (try dsimp only at hq); go_simp; first | done | with_reducible rfl)); simp only [Act.put, List.getElem_toArray, List.getElem_cons_zero, List.getElem_cons_succ, List.setIfInBounds_toArray, List.set_cons_zero, List.set_cons_succ])
     (refine' wpAnyH_take (i := 9) rfl (by kernel_rfl) (by kernel_rfl) (by kernel_rfl) (fun _ _ _ h => h) (Or.inl ⟨by rfl, ?_⟩) (by assumption) ?_; rotate_left; (· (intro wq hq; (try dsimp only at hq); go_simp; first | done | with_reducible rfl)); simp only [Act.put, List.getElem_toArray, List.getElem_cons_zero, List.getElem_cons_succ, List.setIfInBounds_toArray, List.set_cons_zero, List.set_cons_succ])
     (refine' wpAnyH_take (i := 10) rfl (by kernel_rfl) (by kernel_rfl) (by kernel_rfl) (fun _ _ _ h => h) (Or.inl ⟨by rfl, ?_⟩) (by assumption) ?_; rotate_left; (· (intro wq hq; (try dsimp only at hq); go_simp; first | done | with_reducible rfl)); simp only [Act.put, List.getElem_toArray, List.getElem_cons_zero, List.getElem_cons_succ, List.setIfInBounds_toArray, List.set_cons_zero, List.set_cons_succ])
     (refine' wpAnyH_take (i := 11) rfl (by kernel_rfl) (by kernel_rfl) (by kernel_rfl) (fun _ _ _ h => h) (Or.inl ⟨by rfl, ?_⟩) (by assumption) ?_; rotate_left; (· (intro wq hq; (try dsimp only at hq); go_simp; first | done | with_reducible rfl)); simp only [Act.put, List.getElem_toArray, List.getElem_cons_zero, List.getElem_cons_succ, List.setIfInBounds_toArray, List.set_cons_zero, List.set_cons_succ])
     (refine' wpAnyH_take (i := 12) rfl (by kernel_rfl) (by kernel_rfl) (by kernel_rfl) (fun _ _ _ h => h) (Or.inl ⟨by rfl, ?_⟩) (by assumption) ?_; rotate_left; (· (intro wq hq; (try dsimp only at hq); go_simp; first | done | with_reducible rfl)); simp only [Act.put, List.getElem_toArray, List.getElem_cons_zero, List.getElem_cons_succ, List.setIfInBounds_toArray, List.set_cons_zero, List.set_cons_succ])
     (refine' wpAnyH_take (i := 13) rfl (by kernel_rfl) (by kernel_rfl) (by kernel_rfl) (fun _ _ _ h => h) (Or.inl ⟨by rfl, ?_⟩) (by assumption) ?_; rotate_left; (· (intro wq hq; (try dsimp only at hq); go_simp; first | done | with_reducible rfl)); simp only [Act.put, List.getElem_toArray, List.getElem_cons_zero, List.getElem_cons_succ, List.setIfInBounds_toArray, List.set_cons_zero, List.set_cons_succ])
     (refine' wpAnyH_take (i := 14) rfl (by kernel_rfl) (by kernel_rfl) (by kernel_rfl) (fun _ _ _ h => h) (Or.inl ⟨by rfl, ?_⟩) (by assumption) ?_; rotate_left; (· (intro wq hq; (try dsimp only at hq); go_simp; first | done | with_reducible rfl)); simp only [Act.put, List.getElem_toArray, List.getElem_cons_zero, List.getElem_cons_succ, List.setIfInBounds_toArray, List.set_cons_zero, List.set_cons_succ])
     (refine' wpAnyH_take (i := 15) rfl (by kernel_rfl) (by kernel_rfl) (by kernel_rfl) (fun _ _ _ h => h) (Or.inl ⟨by rfl, ?_⟩) (by assumption) ?_; rotate_left; (· (intro wq hq; (try dsimp only at hq); go_simp; first | done | with_reducible rfl)); simp only [Act.put, List.getElem_toArray, List.getElem_cons_zero, List.getElem_cons_succ, List.setIfInBounds_toArray, List.set_cons_zero, List.set_cons_succ])
     refine wpAnyH_ready (rs := [16]) (by kernel_rfl) (by simp) ?_
     refine AllReadyH.cons rfl (fun K hK => ?_) ?_
     rotate_left
     ·exact AllReadyH.nil
     rw [if_pos (by rfl)]
     refine wp_store_mid 86 _ _ rfl w.heap.size (y * 5) #[.int .i64 (i : Int), .int .i64 sk, .string sn, .int .i64 sp, .int .i64 ((D + 1 : Nat) : Int)] (by rfl) (by rfl) hth.out sizeAr (by simp [Value.oneCell']) ?_
     have hX2 : At (wr.drew.setCells w.heap.size (y * 5) (arV (i, ⟨sk, sn, sp⟩, D + 1))) q #[.slice (some ⟨g2, o2, none⟩) M sc, .slice (some ⟨g3, o3, none⟩) M tc, .slice ea q3 ec] 50 := hX.out.drew.setCells_other (by have := hwq.out; omega) _ _
     have hA2 : At (wr.drew.setCells w.heap.size (y * 5) (arV (i, ⟨sk, sn, sp⟩, D + 1))) w.heap.size (tabC N fun x => arV (if x = y then (i, ⟨sk, sn, sp⟩, D + 1) else G x)) 86 := by
      have h := tab_set (t := 86) hA.out.drew hCl (by decide) hyN (v := arV (i, ⟨sk, sn, sp⟩, D + 1)) rfl
      rwa [tabC_congr (D := fun x => arV (if x = y then (i, ⟨sk, sn, sp⟩, D + 1) else G x)) (fun k _ => by split <;> rfl)] at h
     have hB2 : Below w.heap.size w (wr.drew.setCells w.heap.size (y * 5) (arV (i, ⟨sk, sn, sp⟩, D + 1))) := below_setCells hb.out.drew (Nat.le_refl _) _ _
     have hR2 : (wr.drew.setCells w.heap.size (y * 5) (arV (i, ⟨sk, sn, sp⟩, D + 1))).rangeAt g2 (o2 + j * 3) [.int .i64 sk, .string sn, .int .i64 sp] := by
      obtain ⟨-, b5, o5, e5, -, r5⟩ := (hS'.out.kept hB2) j ⟨sk, sn, sp⟩ hs'.out
      cases e5
      exact r5
     have hF2 := tab_cell (z := 5) (j := 4) hA2 (fun _ _ => rfl) hlt (by decide)
     rw [if_neg (by omega)] at hF2
     refine hK.out _ _ ⟨hX2.cell 0, hR2, hF2.trans (by show some _ = _; rw [← hD.out])⟩ (fun hH2 => ?_)
     have hX3 := hid hX2
     have hA3 := hid hA2
     have hB3 := hid hB2
     clear hK K hX2 hA2 hB2 hR2 hF2 hH2 hH hX hA hb hth
     refine wpAnyH_done (by kernel_rfl) ?_ _
     refine hKr _ _ ?_
     go_wp2
     go_roundw
     case rel => exact ⟨j + 1, _, hj'.out, by simp, hX3, hA3, hG2, hB3⟩
     case measure => simp [intOf]; have := hj'.out; omega
    ·obtain rfl : j = M := by omega
     have htk : Hid (n.tos.take j = n.tos) := hid (List.take_of_length_le (by rw [hM.out]; exact Nat.le_refl _))
     rw [htk.out] at hG
     have hG' : Hid (∀ x, x < N → (x = 0 ∨ (x : Int) ∈ toA (t.take (i + 1))) → ArrP t x (G x)) := hid (by unfold toA; rw [hsu.out]; exact hG.out)
     clear hG
     go_wp2
     go_roundw
     case rel => exact ⟨i + 1, G, hlt'.out, by simp, hA, hG', hb⟩
     case measure => simp [intOf]; have := hlt'.out; omega
  ·obtain rfl : i = N := by omega
   have htk : Hid (t.take i = t) := hid (List.take_of_length_le (by rw [hN.out]; exact Nat.le_refl _))
   rw [htk.out] at hG
   have hfin : Hid (∀ x, x < i → ArrP t x (G x)) := hid (fun x hx => hG.out x hx (by
    by_cases h0 : x = 0
    ·exact .inl h0
    ·refine .inr ?_
     have h1 := hf.out.2.2.2.1 x (by omega) (by rw [hN.out]; exact hx)
     exact List.count_pos_iff.1 (by omega)))
   clear hG
   go_wp2
   go_ret
   exact ⟨⟨G, rfl, hA.out, hfin.out⟩, hb.out⟩
end Go.Proofs.YtbabdhepnjacdaaDoor
