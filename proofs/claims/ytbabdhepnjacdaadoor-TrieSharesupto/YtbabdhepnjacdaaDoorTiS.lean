/-
 trie.Paths.
-/
import Derived.Test.YtbabdhepnjacdaaDoorTiR
namespace Go.Proofs.YtbabdhepnjacdaaDoor
open Go.RowKit Go.Shelf
theorem alloc_pths (u : World) : (Instr.alloc 68 true (.tuple #[])).run Tryd.prog u = .ok (.pointer (some ⟨u.heap.size, 0, none⟩)) (u.alloc (.cells (tabC 256 fun _ => [.slice none 0 0]) 68)) := by kernel_rfl
/-- What Paths answers. -/
def IsPths (t : List Nod) (L : List (List Stp)) (E : Int) : Prop :=
 (¬ FrmR t ∧ L = [] ∧ E = 1) ∨ (FrmR t ∧ E = 0 ∧ L.length = (enA t).length ∧ ∀ (k : Nat) (p : List Stp), L[k]? = some p → ∃ (q : Nat) (n : Nod), t[q]? = some n ∧ (k : Int) ∈ n.ends ∧ PthOf t q p)
theorem end_uniq {t : List Nod} (hd : (enA t).Nodup) {a b : Nat} {n m : Nod} {x : Int} (hn : t[a]? = some n) (hx : x ∈ n.ends) (hm : t[b]? = some m) (hy : x ∈ m.ends) : a = b := by
 have key : ∀ {a b : Nat} {n m : Nod}, t[a]? = some n → x ∈ n.ends → t[b]? = some m → x ∈ m.ends → ¬ a < b := fun {a b n m} hn hx hm hy hab => by
  have h1 := hd.sublist (flat_pre Nod.ends hm m.ends.length)
  rw [List.take_length] at h1
  have h2 : x ∈ (t.take b).flatMap Nod.ends := List.mem_flatMap.2 ⟨n, by
   have : (t.take b)[a]? = some n := by rw [List.getElem?_take_of_lt hab]; exact hn
   exact List.mem_of_getElem? this, hx⟩
  exact (List.nodup_append.1 h1).2.2 _ h2 _ hy rfl
 have h1 := key hn hx hm hy
 have h2 := key hm hy hn hx
 omega
theorem frm_end {t : List Nod} (h : FrmR t) : (enA t).Nodup ∧ (∀ x ∈ enA t, 0 ≤ x ∧ x < 256) ∧ ∀ k : Nat, k < (enA t).length → (k : Int) ∈ enA t := ⟨((frm_iff t).1 h).2.2.2.2.1, ((frm_iff t).1 h).2.2.2.1, fun k hk => List.count_pos_iff.1 (by rw [h.2.2.2.2 k hk]; exact Nat.one_pos)⟩
theorem IsPths.uniq {t : List Nod} {L L' : List (List Stp)} {E E' : Int} (h : IsPths t L E) (h' : IsPths t L' E') : L = L' ∧ E = E' := by
 rcases h with ⟨h1, rfl, rfl⟩ | ⟨h1, rfl, h2, h3⟩ <;> rcases h' with ⟨g1, rfl, rfl⟩ | ⟨g1, rfl, g2, g3⟩
 ·exact ⟨rfl, rfl⟩
 ·exact absurd g1 h1
 ·exact absurd h1 g1
 ·refine ⟨?_, rfl⟩
  apply List.ext_getElem?
  intro k
  by_cases hk : k < L.length
  ·have hk' : k < L'.length := by omega
   obtain ⟨q, n, a1, a2, a3⟩ := h3 k _ (List.getElem?_eq_getElem hk)
   obtain ⟨q', n', b1, b2, b3⟩ := g3 k _ (List.getElem?_eq_getElem hk')
   obtain rfl := end_uniq (frm_end h1).1 a1 a2 b1 b2
   rw [List.getElem?_eq_getElem hk, List.getElem?_eq_getElem hk', a3.uniq h1 b3]
  ·rw [List.getElem?_eq_none (by omega), List.getElem?_eq_none (by omega)]
theorem list_of {α : Type} {R : Nat → α → Prop} : ∀ C : Nat, (∀ k, k < C → ∃ p, R k p) → ∃ L : List α, L.length = C ∧ ∀ (k : Nat) (p : α), L[k]? = some p → R k p
 | 0, _ => ⟨[], rfl, fun k p h => by simp at h⟩
 | C + 1, h => by
  obtain ⟨L, hl, hL⟩ := list_of C (fun k hk => h k (by omega))
  obtain ⟨p, hp⟩ := h C (Nat.lt_succ_self C)
  refine ⟨L ++ [p], by simp [hl], fun k x hx => ?_⟩
  by_cases e : k < C
  ·rw [List.getElem?_append_left (by omega)] at hx
   exact hL k x hx
  ·have hk := (List.getElem?_eq_some_iff.1 hx).1
   rw [List.length_append, List.length_singleton] at hk
   obtain rfl : k = C := by omega
   rw [List.getElem?_append_right (by omega), hl] at hx
   simp at hx
   subst hx
   exact hp
/-- What stands at an end's place. -/
def EndV (t : List Nod) (w : World) (B : Nat) (k : Nat) (v : Value) : Prop := ∃ (q : Nat) (n : Nod) (p : List Stp) (g c : Nat), t[q]? = some n ∧ (k : Int) ∈ n.ends ∧ PthOf t q p ∧ v = .slice (some ⟨g, 0, none⟩) p.length c ∧ B < g ∧ StepsAt w (some ⟨g, 0, none⟩) p
theorem EndV.kept {t : List Nod} {w w' : World} {B k : Nat} {v : Value} (h : EndV t w B k v) (hb : Below w.heap.size w w') : EndV t w' B k v := by
 obtain ⟨q, n, p, g, c, h1, h2, h3, h4, h5, h6⟩ := h
 exact ⟨q, n, p, g, c, h1, h2, h3, h4, h5, h6.kept hb⟩
theorem EndV.set {t : List Nod} {w : World} {B k : Nat} {v : Value} (h : EndV t w B k v) (j : Nat) (u : Value) : EndV t (w.setCell ⟨B, j, none⟩ u) B k v := by
 obtain ⟨q, n, p, g, c, h1, h2, h3, h4, h5, h6⟩ := h
 exact ⟨q, n, p, g, c, h1, h2, h3, h4, h5, h6.on (by simp [World.setCell]) (Below.heap_setCell w ⟨B, j, none⟩ u g (by show g ≠ B; omega))⟩
theorem tab1_set (N k : Nat) (v : Value) (Q : Nat → Value) : (tabC N fun i => [Q i]).setIfInBounds k v = tabC N fun i => [if i = k then v else Q i] := by
 refine tab_ext (z := 1) (fun _ _ => rfl) (by decide) (by rw [Array.size_setIfInBounds, tabC_size (z := 1) (fun _ _ => rfl)]) (fun i j hi hj => ?_)
 obtain rfl : j = 0 := by omega
 have hg := tabC_get (z := 1) (N := N) (C := fun i => [Q i]) (fun _ _ => rfl) hi (by decide : 0 < 1)
 rw [Nat.mul_one, Nat.add_zero] at hg ⊢
 by_cases e : i = k
 ·subst e
  rw [Array.getElem?_setIfInBounds_self_of_lt (by rw [tabC_size (z := 1) (fun _ _ => rfl), Nat.mul_one]; exact hi)]
  simp
 ·rw [Array.getElem?_setIfInBounds_ne (fun h => e h.symm), hg, if_neg e]
set_option maxRecDepth 10000 in
set_option maxHeartbeats 8000000 in
theorem paths23_calls (t : List Nod) (ao : Option Addr) (N cap : Nat) (hN : Hid (t.length = N)) (hm : Hid (Mid t)) (hz : Hid (∀ n ∈ t, ∀ s ∈ n.steps, s.name.size ≤ 1048576)) (w : World) (hk : Hid (NodesAt w ao t)) (hT : Hid (TabU w)) :
  Calls Tryd.prog 15 #[.slice ao N cap] w fun e w' => (∃ ro rc L E, e = .returned (.tuple #[.slice ro (L : List (List Stp)).length rc, .int .i64 E]) ∧ PthsAt w' ro L ∧ IsPths t L E) ∧ Below w.heap.size w w' := by
 have hNi : N ≤ 1048576 := by have := hm.out.1; have := hN.out; omega
 have hNi' : (N : Int) ≤ 1048576 := by omega
 obtain ⟨F, hF⟩ : ∃ F : Bool, Hid (F = true ↔ FrmR t) := by
  by_cases h : FrmR t
  ·exact ⟨true, hid (by simp [h])⟩
  ·exact ⟨false, hid (by simp [h])⟩
 have hf := hid (formed23_calls t ao N cap hN hm F hF w hk hT)
 go_enter Tryd.func15, Tryd.ntmps15
 go_wp2_with fail
 refine Calls.mono hf.out ?_
 rintro e w2 ⟨rfl, b2⟩
 have B2 := hid b2
 clear b2 hf
 cases F with
 | false =>
  have hno := hid (show ¬ FrmR t from fun h => by have := hF.out.2 h; cases this)
  go_wp2
  refine bodyPost_ret (v := .tuple #[.slice none 0 0, .int .i64 1]) (by simp [results, Tryd.results15, go_sem]) rfl ?_
  exact ⟨⟨none, 0, [], 1, rfl, fun i x h => by simp at h, .inl ⟨hno.out, rfl, rfl⟩⟩, B2.out⟩
 | true =>
  have hyes := hid (hF.out.1 rfl)
  have har := hid (arrivals23_calls t ao N cap hN hm hyes w2 (hid (hk.out.kept B2.out)))
  go_wp2_with fail
  refine Calls.mono har.out ?_
  rintro e w3 ⟨⟨G, rfl, hA, hG⟩, b3⟩
  have B3 := hid (B2.out.trans (b3.mono B2.out.size))
  obtain ⟨a, ha⟩ : ∃ a, w2.heap.size = a := ⟨_, rfl⟩
  rw [ha] at hA
  have hA' := hid hA
  have hG' := hid hG
  have haw := hid hA.lt
  obtain ⟨B, hB⟩ : ∃ B, w3.heap.size = B := ⟨_, rfl⟩
  have hwB : Hid (w.heap.size ≤ B) := hid (by rw [← hB]; exact B3.out.size)
  have haB : Hid (a < B) := hid (by rw [← hB]; exact hA.lt)
  have hmk := fun u => alloc_pths u
  clear b3 har hA hG
  go_wp2
  go_loopw [6, 18] (fun cc ii wr => ∃ (i c : Nat) (Q : Nat → Value), i ≤ N ∧ ii = .int .i64 (i : Int) ∧ cc = .int .i64 (c : Int) ∧ c ≤ 256 ∧ Hid (c = (enA (t.take i)).length) ∧ Hid (At wr a (tabC N fun x => arV (G x)) 86) ∧ Hid (At wr B (tabC 256 fun k => [Q k]) 68) ∧ Hid (∀ k : Nat, (k : Int) ∈ enA (t.take i) → EndV t wr B k (Q k)) ∧ Hid (Below B w3 wr)) (fun _ ii _ => N - (intOf ii).toNat)
  case atStart =>
   refine ⟨0, 0, fun _ => .slice none 0 0, Nat.zero_le _, rfl, rfl, by omega, hid (by simp [enA]), hid (hA'.out.alloc _), hid (by rw [← hB]; exact At.new _ _ _), hid (fun k h => by simp [enA] at h), hid ((Below.refl _ _).alloc (by rw [hB]; exact Nat.le_refl _) _)⟩
  case round =>
   clear hmk
   obtain ⟨i, c, Q, hi, rfl, rfl, hcb, hc, hAr, hQ, hE, hb⟩ := hrel
   by_cases hlt : i < N
   ·have hli : (i : Int) < (N : Int) := by omega
    have hlt' := hid (show i + 1 ≤ N by omega)
    obtain ⟨n, hn⟩ : ∃ n, Hid (t[i]? = some n) := ⟨_, List.getElem?_eq_getElem (by rw [hN.out]; exact hlt)⟩
    have Bw := hid (B3.out.trans (hb.out.mono hwB.out))
    obtain ⟨g, o, cs, rfl, hg, hrg0, sa, sc, ta, tc, ea, ec, rfl, -, -, -, hEn⟩ := hk.out i n hn.out
    have hrg' := hid (range_kept hrg0 Bw.out)
    obtain ⟨M, hM⟩ : ∃ M, Hid (n.ends.length = M) := ⟨_, rfl⟩
    have hpre := hid (flat_pre Nod.ends hn.out)
    have hMb : M ≤ 256 := by
     have h1 := (hpre.out M).length_le
     have h2 := hyes.out.2.1
     have := hM.out
     unfold enA at h2
     rw [List.length_append, List.length_take] at h1
     omega
    have hMi : (M : Int) ≤ 256 := by omega
    rw [hM.out] at hrg'
    have hEn' := hid hEn
    have hsu := hid (flat_succ Nod.ends hn.out)
    have hnm := hid (List.mem_of_getElem? hn.out)
    obtain ⟨p, hp0, -⟩ := (hG'.out i hlt).pth
    have hp := hid hp0
    have z1 : (Tryd.prog.info? 50).map (·.size) = some ([.slice sa n.steps.length sc, .slice ta n.tos.length tc, .slice ea M ec] : List Value).length := by kernel_rfl
    generalize n.steps.length = q1 at hrg' z1
    generalize n.tos.length = q2 at hrg' z1
    obtain ⟨W1, hW1⟩ : ∃ W, wr.alloc (.cells #[.slice sa q1 sc, .slice ta q2 tc, .slice ea M ec] 50) = W := ⟨_, rfl⟩
    have b1 : Below wr.heap.size wr W1 := by rw [← hW1]; exact (Below.refl _ wr).alloc (Nat.le_refl _) _
    have A1 : At W1 wr.heap.size #[.slice sa q1 sc, .slice ta q2 tc, .slice ea M ec] 50 := by rw [← hW1]; exact At.new _ _ _
    have c2 := A1.cell 2
    simp only [List.getElem?_toArray, List.getElem?_cons_zero, List.getElem?_cons_succ] at c2
    have hBs : B ≤ wr.heap.size := Nat.le_of_lt hQ.out.lt
    have r1 := hid (hAr.out.keptAll b1)
    have r2 := hid (hQ.out.keptAll b1)
    have r3 := hid (fun k h => (hE.out k h).kept b1)
    have r4 := hid (hb.out.trans (b1.mono hBs))
    clear hg hrg0 hEn hp0 A1 b1 hBs
    go_wp2_with (first | refine wpList_load_want 50 _ g (o + i * 3) [.slice sa q1 sc, .slice ta q2 tc, .slice ea M ec] _ hrg'.out Tryd.underlying50 z1 rfl rfl rfl (by rfl) ?_ | fail)
    clear c2 hW1
    go_loopw [6, 26] (fun cc jj wr => ∃ (j c : Nat) (Q : Nat → Value), j ≤ M ∧ jj = .int .i64 (j : Int) ∧ cc = .int .i64 (c : Int) ∧ c ≤ 256 ∧ Hid (c = (enA (t.take i) ++ n.ends.take j).length) ∧ Hid (At wr a (tabC N fun x => arV (G x)) 86) ∧ Hid (At wr B (tabC 256 fun k => [Q k]) 68) ∧ Hid (∀ k : Nat, (k : Int) ∈ enA (t.take i) ++ n.ends.take j → EndV t wr B k (Q k)) ∧ Hid (Below B w3 wr)) (fun _ jj _ => M - (intOf jj).toNat)
    case atStart => exact ⟨0, c, Q, Nat.zero_le _, rfl, rfl, hcb, hid (by simpa using hc.out), r1, r2, hid (by simpa using r3.out), r4⟩
    case round =>
     clear r1 r2 r3 r4 hc hcb hAr hQ hE hb Bw
     obtain ⟨j, c, Q, hj, rfl, rfl, hcb, hc, hAr, hQ, hE, hb⟩ := hrel
     have Bw := hid (B3.out.trans (hb.out.mono hwB.out))
     by_cases hjl : j < M
     ·have hji : (j : Int) < (M : Int) := by omega
      have hj' := hid (show j + 1 ≤ M by omega)
      obtain ⟨x, hx⟩ : ∃ x, Hid (n.ends[j]? = some x) := ⟨_, List.getElem?_eq_getElem (by rw [hM.out]; exact hjl)⟩
      have hxm := List.mem_of_getElem? hx.out
      have hxb := (frm_end hyes.out).2.1 x (List.mem_flatMap.2 ⟨n, hnm.out, hxm⟩)
      obtain ⟨k, rfl⟩ : ∃ k : Nat, x = (k : Int) := ⟨x.toNat, by omega⟩
      have hk256 : k < 256 := by omega
      have hki : (k : Int) < 256 := by omega
      obtain ⟨g3, o3, rfl, hcx⟩ := ints_at hEn'.out hx.out
      have cx := hcx _ Bw.out
      have ad3 : (⟨g3, o3, none⟩ : Addr).add j = ⟨g3, o3 + j, none⟩ := by by_cases h : j = 0 <;> simp [Addr.add, h]
      have hway := hid (way23_calls t N hN hNi hyes hz G hG' a i hlt p hp wr hAr)
      have hxm' := hid hxm
      have htk := hid (take_snoc hx.out)
      have hc1 : Hid (c + 1 = (enA (t.take i) ++ n.ends.take (j + 1)).length) := hid (by rw [htk.out, ← List.append_assoc, List.length_append, ← hc.out]; rfl)
      have hc2 : Hid (c + 1 ≤ 256) := hid (by
       have h1 := (hpre.out (j + 1)).length_le
       have h2 := hyes.out.2.1
       have h3 := hc1.out
       unfold enA at h2 h3
       omega)
      obtain ⟨g, hgq⟩ : ∃ g, wr.heap.size = g := ⟨_, rfl⟩
      have hgq' := hid hgq
      rw [hgq] at hway
      have hBg : Hid (B < g) := hid (by rw [← hgq]; exact hQ.out.lt)
      obtain ⟨K, hK⟩ : ∃ K, Hid (p.length = K) := ⟨_, rfl⟩
      rw [hK.out] at hway
      clear hcx hxm hx hc hxb hgq
      go_wp2_with fail
      refine Calls.mono hway.out ?_
      rintro e w4 ⟨⟨rfl, hst⟩, b4'⟩
      have b4 : Below wr.heap.size wr w4 := by rw [hgq'.out]; exact b4'
      have B4 := hid (hb.out.trans (b4.mono (Nat.le_of_lt hQ.out.lt)))
      have Q4 := hQ.out.keptAll b4
      have Ar4 := hid (hAr.out.keptAll b4)
      have E4 := hid (fun k h => (hE.out k h).kept b4)
      have hst' := hid hst
      have cq := tab_cell (z := 1) (j := 0) Q4 (fun _ _ => rfl) hk256 (by decide)
      rw [Nat.mul_one, Nat.add_zero] at cq
      simp only [List.getElem?_cons_zero] at cq
      have fq := Q4.frozen k
      have adK : (⟨B, 0, none⟩ : Addr).add k = ⟨B, k, none⟩ := by by_cases h : k = 0 <;> simp [Addr.add, h]
      have Q5 := hid (show At (w4.setCell ⟨B, k, none⟩ (.slice (some ⟨g, 0, none⟩) K K)) B (tabC 256 fun i => [if i = k then .slice (some ⟨g, 0, none⟩) K K else Q i]) 68 by
       have h := Q4.set k (.slice (some ⟨g, 0, none⟩) K K)
       rwa [tab1_set] at h)
      have Ar5 := hid (show At (w4.setCell ⟨B, k, none⟩ (.slice (some ⟨g, 0, none⟩) K K)) a (tabC N fun x => arV (G x)) 86 from Ar4.out.other (by show a ≠ B; have := haB.out; omega) _)
      have B5 := hid (show Below B w3 (w4.setCell ⟨B, k, none⟩ (.slice (some ⟨g, 0, none⟩) K K)) from B4.out.setCell (p := ⟨B, k, none⟩) (Nat.le_refl _) _)
      have E5 := hid (show ∀ k' : Nat, (k' : Int) ∈ enA (t.take i) ++ n.ends.take (j + 1) → EndV t (w4.setCell ⟨B, k, none⟩ (.slice (some ⟨g, 0, none⟩) K K)) B k' (if k' = k then .slice (some ⟨g, 0, none⟩) K K else Q k') from fun k' h => by
       by_cases e : k' = k
       ·subst e
        rw [if_pos rfl]
        have h1 : EndV t w4 B k' (.slice (some ⟨g, 0, none⟩) K K) := ⟨i, n, p, g, K, hn.out, hxm'.out, hp.out, by rw [hK.out], hBg.out, hst'.out⟩
        exact h1.set _ _
       ·rw [if_neg e]
        rw [htk.out, ← List.append_assoc] at h
        rcases List.mem_append.1 h with h | h
        ·exact (E4.out k' h).set _ _
        ·have := List.mem_singleton.1 h
         omega)
      clear b4 b4' hway hQ hAr hE hb hst Q4 cx
      go_wp2
      go_roundw
      case rel => exact ⟨j + 1, c + 1, _, hj'.out, by simp, by simp, hc2.out, hc1, Ar5, Q5, E5, B5⟩
      case measure => simp [intOf]; have := hj'.out; omega
     ·obtain rfl : j = M := by omega
      have htk : Hid (n.ends.take j = n.ends) := hid (List.take_of_length_le (by rw [hM.out]; exact Nat.le_refl _))
      rw [htk.out] at hc hE
      have hc' : Hid (c = (enA (t.take (i + 1))).length) := hid (by unfold enA; rw [hsu.out]; exact hc.out)
      have hE' : Hid (∀ k : Nat, (k : Int) ∈ enA (t.take (i + 1)) → EndV t wr B k (Q k)) := hid (by unfold enA; rw [hsu.out]; exact hE.out)
      clear hc hE
      go_wp2
      go_roundw
      case rel => exact ⟨i + 1, c, Q, hlt'.out, by simp, rfl, hcb, hc', hAr, hQ, hE', hb⟩
      case measure => simp [intOf]; have := hlt'.out; omega
   ·obtain rfl : i = N := by omega
    have htk : Hid (t.take i = t) := hid (List.take_of_length_le (by rw [hN.out]; exact Nat.le_refl _))
    rw [htk.out] at hc hE
    have hci : (c : Int) ≤ 256 := by omega
    have hend := frm_end hyes.out
    have hcl : Hid (((List.range c).map Q).length = c) := hid (by simp)
    have hcn : Hid (∀ j u, ((List.range c).map Q)[j]? = some u → wr.cell? ⟨B, j, none⟩ = some u) := hid (fun j u hj => by
     have hjl := (List.getElem?_eq_some_iff.1 hj).1
     simp at hjl
     have := tab_cell (z := 1) (j := 0) hQ.out (fun _ _ => rfl) (i := j) (by omega) (by decide)
     rw [Nat.mul_one, Nat.add_zero] at this
     rw [this]
     simpa [hjl] using hj)
    have hone : Hid (∀ u ∈ (List.range c).map Q, u.oneCell' = true) := hid (fun u hu => by
     obtain ⟨k, hk1, rfl⟩ := List.mem_map.1 hu
     have hkc : k < c := List.mem_range.1 hk1
     obtain ⟨q, n, p, g, cc, -, -, -, e, -⟩ := hE.out k (hend.2.2 k (by rw [← hc.out]; exact hkc))
     rw [e]; rfl)
    have hcp := hid (cloneP_calls B c 256 hcb ((List.range c).map Q) hcl wr hcn hQ.out.lt hone)
    have hEnd := hid (fun k (hk1 : k < c) => hE.out k (hend.2.2 k (by rw [← hc.out]; exact hk1)))
    have Bw := hid (B3.out.trans (hb.out.mono hwB.out |>.mono (Nat.le_refl _)))
    clear hend hcl hcn hone
    go_wp2_with fail
    refine Calls.mono hcp.out ?_
    rintro e w5 ⟨⟨so, sc, rfl, hcell⟩, b5⟩
    have B5 := hid (Bw.out.trans (b5.mono Bw.out.size))
    obtain ⟨L, hLl, hL⟩ := list_of (R := fun k p => ∃ (q : Nat) (n : Nod) (g cc : Nat), t[q]? = some n ∧ (k : Int) ∈ n.ends ∧ PthOf t q p ∧ Q k = .slice (some ⟨g, 0, none⟩) p.length cc ∧ StepsAt w5 (some ⟨g, 0, none⟩) p) c (fun k hk1 => by
     obtain ⟨q, n, p, g, cc, h1, h2, h3, h4, -, h6⟩ := hEnd.out k hk1
     exact ⟨p, q, n, g, cc, h1, h2, h3, h4, h6.kept b5⟩)
    have hP : Hid (PthsAt w5 so L) := hid (fun k p hp => by
     obtain ⟨q, n, g, cc, h1, h2, h3, h4, h6⟩ := hL k p hp
     have hkc : k < c := by have := (List.getElem?_eq_some_iff.1 hp).1; omega
     obtain ⟨g2, e2, h7, h8⟩ := hcell k (Q k) (by simp [hkc])
     exact ⟨g2, 0, _, cc, e2, h7, by rw [Nat.zero_add, h8, h4], h6⟩)
    have hI : Hid (IsPths t L 0) := hid (.inr ⟨hyes.out, rfl, by rw [hLl, hc.out], fun k p hp => by
     obtain ⟨q, n, g, cc, h1, h2, h3, h4, h6⟩ := hL k p hp
     exact ⟨q, n, h1, h2, h3⟩⟩)
    have hLl' := hid hLl
    clear b5 hcp hcell hL hLl hE hEnd
    go_wp2
    refine bodyPost_ret (v := .tuple #[.slice so c sc, .int .i64 0]) (by simp [results, Tryd.results15, go_sem]) rfl ?_
    exact ⟨⟨so, sc, L, 0, by rw [hLl'.out], hP.out, hI.out⟩, B5.out⟩
end Go.Proofs.YtbabdhepnjacdaaDoor
