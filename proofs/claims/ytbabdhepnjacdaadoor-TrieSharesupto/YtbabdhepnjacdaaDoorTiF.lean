/-
 trie.ended.
-/
import Derived.Test.YtbabdhepnjacdaaDoorTiD
namespace Go.Proofs.YtbabdhepnjacdaaDoor
open Go.RowKit Go.Shelf
theorem alloc_told (u : World) : (Instr.alloc 91 true (.tuple #[])).run Tryd.prog u = .ok (.pointer (some ⟨u.heap.size, 0, none⟩)) (u.alloc (.cells (tfC 256 fun _ => false) 91)) := by kernel_rfl
/-- The greatest one of a list; below all numbers, if there is none. -/
def GrtP (L : List Int) (g : Int) : Prop := (∀ x ∈ L, x ≤ g) ∧ (g = -1 ∨ g ∈ L)
theorem GrtP.app {A C : List Int} {g l : Int} (ha : GrtP A g) (hc : GrtP C l) : GrtP (A ++ C) (if g ≤ l then l else g) := by
 obtain ⟨a1, a2⟩ := ha
 obtain ⟨c1, c2⟩ := hc
 split
 ·next h =>
  refine ⟨fun x hx => ?_, ?_⟩
  ·rcases List.mem_append.1 hx with hx | hx
   ·have := a1 x hx; omega
   ·exact c1 x hx
  ·rcases c2 with e | e
   ·exact .inl e
   ·exact .inr (List.mem_append.2 (.inr e))
 ·next h =>
  refine ⟨fun x hx => ?_, ?_⟩
  ·rcases List.mem_append.1 hx with hx | hx
   ·exact a1 x hx
   ·have := c1 x hx; omega
  ·rcases a2 with e | e
   ·exact .inl e
   ·exact .inr (List.mem_append.2 (.inl e))
theorem GrtP.uniq {L : List Int} {g h : Int} (h0 : ∀ x ∈ L, 0 ≤ x) (a : GrtP L g) (b : GrtP L h) : g = h := by
 obtain ⟨a1, a2⟩ := a
 obtain ⟨b1, b2⟩ := b
 rcases a2 with e | e <;> rcases b2 with f | f
 ·omega
 ·have := a1 _ f; have := h0 _ f; omega
 ·have := b1 _ e; have := h0 _ e; omega
 ·have := a1 _ f; have := b1 _ e; omega
theorem EndP.grt {t : List Nod} : EndP t ↔ (∀ n ∈ t, n.ends.Pairwise (· < ·)) ∧ (∀ x ∈ enA t, 0 ≤ x ∧ x < 256) ∧ (enA t).Nodup ∧ ∃ g : Int, ((enA t).length : Int) = g + 1 ∧ GrtP (enA t) g := Iff.rfl
set_option maxRecDepth 10000 in
set_option maxHeartbeats 4000000 in
theorem ended23_calls (t : List Nod) (ao : Option Addr) (N cap : Nat) (hN : Hid (t.length = N)) (hNi : N ≤ 1048576) (hsum : Hid ((enA t).length ≤ 1048576)) (B : Bool) (hB : Hid (B = true ↔ EndP t)) (w : World) (hk : Hid (NodesAt w ao t)) :
  Calls Tryd.prog 41 #[.slice ao N cap] w fun e w' => e = .returned (.bool B) ∧ Below w.heap.size w w' := by
 have hNi' : (N : Int) ≤ 1048576 := by omega
 have hmk := fun u => alloc_told u
 go_enter Tryd.func41, Tryd.ntmps41
 go_wp2
 go_loopw [4, 5, 13] (fun cc gg ii wr => ∃ (i c : Nat) (g : Int), i ≤ N ∧ ii = .int .i64 (i : Int) ∧ cc = .int .i64 (c : Int) ∧ gg = .int .i64 g ∧ c ≤ 1048576 ∧ (-1 ≤ g ∧ g < 256) ∧ Hid (c = (enA (t.take i)).length) ∧ Hid ((enA (t.take i)).Nodup) ∧ Hid (∀ x ∈ enA (t.take i), 0 ≤ x ∧ x < 256) ∧ Hid (GrtP (enA (t.take i)) g) ∧ Hid (∀ (q : Nat) (n : Nod), q < i → t[q]? = some n → n.ends.Pairwise (· < ·)) ∧
  Hid (At wr w.heap.size (tfC 256 (ledF (enA (t.take i)))) 91) ∧ Hid (Below w.heap.size w wr)) (fun _ _ ii _ => N - (intOf ii).toNat)
 case atStart =>
  refine ⟨0, 0, -1, Nat.zero_le _, rfl, rfl, rfl, by omega, by omega, hid (by simp [enA]), hid (by simp [enA]), hid (by simp [enA]), hid ⟨by simp [enA], .inl rfl⟩, hid (fun q n h => by omega), hid ?_, hid ((Below.refl _ _).alloc (Nat.le_refl _) _)⟩
  rw [show tfC 256 (ledF (enA (t.take 0))) = tfC 256 (fun _ => false) from tfC_congr (fun j _ => by simp [ledF, enA])]
  exact At.new w _ _
 case round =>
  clear hmk
  obtain ⟨i, c, g0, hi, rfl, rfl, rfl, hcb, hgb, hc, hnd, hbd, hgr, hpw, hA, hb⟩ := hrel
  by_cases hlt : i < N
  ·have hli : (i : Int) < (N : Int) := by omega
   obtain ⟨n, hn⟩ : ∃ n, Hid (t[i]? = some n) := ⟨_, List.getElem?_eq_getElem (by rw [hN.out]; exact hlt)⟩
   obtain ⟨g, o, cs, rfl, hg, hrg0, sa, sc, ta, tc, ea, ec, rfl, hS, hSB, hT, hE⟩ := hk.out i n hn.out
   have hrg := range_kept hrg0 hb.out
   obtain ⟨M, hM⟩ : ∃ M, Hid (n.ends.length = M) := ⟨_, rfl⟩
   have hpre := hid (flat_pre Nod.ends hn.out)
   have hMb : M ≤ 1048576 := by
    have := (hpre.out M).length_le
    have h2 := hsum.out
    unfold enA at h2
    rw [List.length_append, List.length_take] at this
    have := hM.out
    omega
   have hMi : (M : Int) ≤ 1048576 := by omega
   rw [hM.out] at hrg
   have hrg' := hid hrg
   have hE' := hid hE
   have hlt' := hid (show i + 1 ≤ N by omega)
   have z1 : (Tryd.prog.info? 50).map (·.size) = some ([.slice sa n.steps.length sc, .slice ta n.tos.length tc, .slice ea M ec] : List Value).length := by kernel_rfl
   generalize n.steps.length = q1 at hrg' z1
   generalize n.tos.length = q2 at hrg' z1
   obtain ⟨q, hq⟩ : ∃ q, Hid (wr.heap.size = q) := ⟨_, rfl⟩
   obtain ⟨W1, hW1⟩ : ∃ W, wr.alloc (.cells #[.slice sa q1 sc, .slice ta q2 tc, .slice ea M ec] 50) = W := ⟨_, rfl⟩
   have b1 : Below wr.heap.size wr W1 := by rw [← hW1]; exact (Below.refl _ wr).alloc (Nat.le_refl _) _
   have A1 : At W1 q #[.slice sa q1 sc, .slice ta q2 tc, .slice ea M ec] 50 := by rw [← hW1, ← hq.out]; exact At.new _ _ _
   have B1 := hid (hb.out.trans (b1.mono hb.out.size))
   have L1 : Hid (At W1 w.heap.size (tfC 256 (ledF (enA (t.take i)))) 91) := hid (hA.out.keptAll b1)
   have c1 := A1.cell 2
   simp only [List.getElem?_toArray, List.getElem?_cons_zero, List.getElem?_cons_succ] at c1
   rw [← hq.out] at c1
   clear hg hrg0 hrg hS hSB hT hE A1 b1 hA
   go_wp2_with (first | refine wpList_load_want 50 _ g (o + i * 3) [.slice sa q1 sc, .slice ta q2 tc, .slice ea M ec] _ hrg'.out Tryd.underlying50 z1 rfl rfl rfl (by rfl) ?_ | fail)
   clear c1 hW1
   go_loopw [4, 8, 20] (fun cc ll jj wr => ∃ (j c : Nat) (l : Int), j ≤ M ∧ jj = .int .i64 (j : Int) ∧ cc = .int .i64 (c : Int) ∧ ll = .int .i64 l ∧ c ≤ 1048576 ∧ (-1 ≤ l ∧ l < 256) ∧ Hid (c = (enA (t.take i) ++ n.ends.take j).length) ∧ Hid ((enA (t.take i) ++ n.ends.take j).Nodup) ∧ Hid (∀ x ∈ n.ends.take j, 0 ≤ x ∧ x < 256) ∧ Hid (GrtP (n.ends.take j) l) ∧ Hid ((n.ends.take j).Pairwise (· < ·)) ∧
    Hid (At wr w.heap.size (tfC 256 (ledF (enA (t.take i) ++ n.ends.take j))) 91) ∧ Hid (Below w.heap.size w wr)) (fun _ _ jj _ => M - (intOf jj).toNat)
   case atStart => exact ⟨0, c, -1, Nat.zero_le _, rfl, rfl, rfl, hcb, by omega, hid (by simpa using hc.out), hid (by simpa using hnd.out), hid (by simp), hid ⟨by simp, .inl rfl⟩, hid (by simp), hid (by simpa using L1.out), B1⟩
   case round =>
    clear L1 B1 hc hcb hb
    obtain ⟨j, c, l, hj, rfl, rfl, rfl, hcb, hlb, hc, hnd2, hbd2, hgr2, hpw2, hA, hb⟩ := hrel
    by_cases hjl : j < M
    ·have hji : (j : Int) < (M : Int) := by omega
     obtain ⟨x, hx⟩ : ∃ x, Hid (n.ends[j]? = some x) := ⟨_, List.getElem?_eq_getElem (by rw [hM.out]; exact hjl)⟩
     obtain ⟨⟨hx1, hx2⟩, g2, o2, rfl, hg2, cx⟩ := (hE'.out.kept hb.out) j x hx.out
     have ad1 : (⟨g2, o2, none⟩ : Addr).add j = ⟨g2, o2 + j, none⟩ := by by_cases h : j = 0 <;> simp [Addr.add, h]
     have hmem : Hid (x ∈ n.ends) := hid (List.mem_of_getElem? hx.out)
     have hj' := hid (show j + 1 ≤ M by omega)
     have htk := hid (take_snoc hx.out)
     have hnm := hid (List.mem_of_getElem? hn.out)
     have hxA := hid (show x ∈ enA t from List.mem_flatMap.2 ⟨n, hnm.out, hmem.out⟩)
     by_cases h1 : x ≤ l
     ·have f1 : decide (x ≤ l) = true := decide_eq_true h1
      have hfin : Hid (B = false) := hid (by
       cases hb : B with
       | false => rfl
       | true =>
        have h3 := hB.out.1 hb
        have h4 := (h3.2.1 x hxA.out).1
        rcases hgr2.out.2 with e | e
        ·omega
        ·have h5 := (h3.1 n hnm.out).sublist (List.take_sublist (j + 1) _)
         rw [htk.out, List.pairwise_append] at h5
         have := h5.2.2 _ e _ (List.mem_singleton.2 rfl)
         omega)
      clear h1
      go_wp2
      go_ret
      exact ⟨by rw [hfin.out] <;> rfl, hb.out⟩
     ·have f1 : decide (x ≤ l) = false := decide_eq_false h1
      by_cases h2 : (256 : Int) ≤ x
      ·have f2 : decide ((256 : Int) ≤ x) = true := decide_eq_true h2
       have hfin : Hid (B = false) := hid (by
        cases hb : B with
        | false => rfl
        | true => have := ((hB.out.1 hb).2.1 x hxA.out).2; omega)
       clear h1 h2
       go_wp2
       go_ret
       exact ⟨by rw [hfin.out] <;> rfl, hb.out⟩
      ·have f2 : decide ((256 : Int) ≤ x) = false := decide_eq_false h2
       obtain ⟨y, rfl⟩ : ∃ y : Nat, x = (y : Int) := ⟨x.toNat, by omega⟩
       have hyN : y < 256 := by omega
       have cy := hA.out.cell y
       rw [tfC_get _ hyN] at cy
       have hfr := hA.out.frozen y
       have hyi : (y : Int) < 256 := by omega
       have hy3 : l < (y : Int) := by omega
       have hthere : (y : Int) < 9223372036854775807 := by omega
       cases hl : ledF (enA (t.take i) ++ n.ends.take j) y with
       | true =>
        rw [hl] at cy
        have hfin : Hid (B = false) := hid (by
         cases hb : B with
         | false => rfl
         | true =>
          have h3 := (hB.out.1 hb).2.2.1.sublist (hpre.out (j + 1))
          rw [htk.out, ← List.append_assoc] at h3
          exact absurd rfl ((List.nodup_append.1 h3).2.2 _ (of_decide_eq_true hl) _ (List.mem_singleton.2 rfl)))
        clear h1 h2 hl
        go_wp2
        go_ret
        exact ⟨by rw [hfin.out] <;> rfl, hb.out⟩
       | false =>
        rw [hl] at cy
        have hno : Hid (¬ (y : Int) ∈ enA (t.take i) ++ n.ends.take j) := hid (of_decide_eq_false hl)
        have hlen : Hid (c + 1 = (enA (t.take i) ++ n.ends.take (j + 1)).length) := hid (by rw [htk.out, ← List.append_assoc, List.length_append, ← hc.out]; rfl)
        have hcb' : Hid (c + 1 ≤ 1048576) := hid (by
         have h3 := (hpre.out (j + 1)).length_le
         have h4 := hsum.out
         have h5 := hlen.out
         unfold enA at h4 h5
         omega)
        have hnd3 : Hid ((enA (t.take i) ++ n.ends.take (j + 1)).Nodup) := hid (by
         rw [htk.out, ← List.append_assoc, List.nodup_append]
         exact ⟨hnd2.out, by simp, fun a ha b hb e => by
          have := List.mem_singleton.1 hb
          subst this
          subst e
          exact hno.out ha⟩)
        have hbd3 : Hid (∀ x ∈ n.ends.take (j + 1), 0 ≤ x ∧ x < 256) := hid (fun x hx => by
         rw [htk.out] at hx
         rcases List.mem_append.1 hx with h | h
         ·exact hbd2.out x h
         ·have := List.mem_singleton.1 h
          subst this
          exact ⟨by omega, hyi⟩)
        have hgr3 : Hid (GrtP (n.ends.take (j + 1)) (y : Int)) := hid (by
         rw [htk.out]
         refine ⟨fun x hx => ?_, .inr (List.mem_append.2 (.inr (List.mem_singleton.2 rfl)))⟩
         rcases List.mem_append.1 hx with h | h
         ·have := hgr2.out.1 x h; omega
         ·have := List.mem_singleton.1 h; omega)
        have hpw3 : Hid ((n.ends.take (j + 1)).Pairwise (· < ·)) := hid (by
         rw [htk.out, List.pairwise_append]
         refine ⟨hpw2.out, by simp, fun a ha b hb => ?_⟩
         have := List.mem_singleton.1 hb
         subst this
         have := hgr2.out.1 a ha
         omega)
        have hA3 : Hid (At (wr.setCell ⟨w.heap.size, y, none⟩ (.bool true)) w.heap.size (tfC 256 (ledF (enA (t.take i) ++ n.ends.take (j + 1)))) 91) := hid (by
         have h := hA.out.set y (.bool true)
         rw [tfC_set, ledF_snoc, List.append_assoc, ← htk.out] at h
         exact h)
        have hb3 := hid (hb.out.setCell (p := ⟨w.heap.size, y, none⟩) (Nat.le_refl _) (.bool true))
        have hyb : Hid (-1 ≤ (y : Int) ∧ (y : Int) < 256) := hid (by omega)
        clear h1 h2 hl hno hA hnd2 hbd2 hgr2 hpw2 hc hb
        go_wp2
        go_roundw
        case rel => exact ⟨j + 1, c + 1, (y : Int), hj'.out, by simp, by simp, rfl, hcb'.out, hyb.out, hlen, hnd3, hbd3, hgr3, hpw3, hA3, hb3⟩
        case measure => simp [intOf]; have := hj'.out; omega
    ·obtain rfl : j = M := by omega
     have htk : Hid (n.ends.take j = n.ends) := hid (List.take_of_length_le (by rw [hM.out]; exact Nat.le_refl _))
     rw [htk.out] at hc hnd2 hbd2 hgr2 hpw2 hA
     have hsu := hid (flat_succ Nod.ends hn.out)
     have hc' : Hid (c = (enA (t.take (i + 1))).length) := hid (by unfold enA; rw [hsu.out]; exact hc.out)
     have hnd' : Hid ((enA (t.take (i + 1))).Nodup) := hid (by unfold enA; rw [hsu.out]; exact hnd2.out)
     have hA' : Hid (At wr w.heap.size (tfC 256 (ledF (enA (t.take (i + 1))))) 91) := hid (by unfold enA; rw [hsu.out]; exact hA.out)
     have hbd' : Hid (∀ x ∈ enA (t.take (i + 1)), 0 ≤ x ∧ x < 256) := hid (fun x hx => by
      unfold enA at hx
      rw [hsu.out] at hx
      rcases List.mem_append.1 hx with h | h
      ·exact hbd.out x h
      ·exact hbd2.out x h)
     have hgr' : Hid (GrtP (enA (t.take (i + 1))) (if g0 ≤ l then l else g0)) := hid (by
      unfold enA
      rw [hsu.out]
      exact GrtP.app hgr.out hgr2.out)
     have hpw' : Hid (∀ (q : Nat) (n : Nod), q < i + 1 → t[q]? = some n → n.ends.Pairwise (· < ·)) := hid (fun q n' hq hn' => by
      by_cases e : q = i
      ·subst e
       have := hn.out.symm.trans hn'
       cases this
       exact hpw2.out
      ·exact hpw.out q n' (by omega) hn')
     have hgb' : Hid (-1 ≤ (if g0 ≤ l then l else g0) ∧ (if g0 ≤ l then l else g0) < 256) := hid (by split <;> omega)
     clear hc hnd2 hbd2 hgr2 hpw2 hA hpw hgr hbd
     by_cases hgl : g0 ≤ l
     ·have m1 : max g0 l = l := by omega
      rw [if_pos hgl] at hgr' hgb'
      go_wp2
      go_roundw
      case rel => exact ⟨i + 1, c, l, hlt'.out, by simp, rfl, by first | rfl | simp [m1], hcb, hgb'.out, hc', hnd', hbd', hgr', hpw', hA', hb⟩
      case measure => simp [intOf]; have := hlt'.out; omega
     ·have m1 : max g0 l = g0 := by omega
      rw [if_neg hgl] at hgr' hgb'
      go_wp2
      go_roundw
      case rel => exact ⟨i + 1, c, g0, hlt'.out, by simp, rfl, by first | rfl | simp [m1], hcb, hgb'.out, hc', hnd', hbd', hgr', hpw', hA', hb⟩
      case measure => simp [intOf]; have := hlt'.out; omega
  ·obtain rfl : i = N := by omega
   have htk : Hid (t.take i = t) := hid (List.take_of_length_le (by rw [hN.out]; exact Nat.le_refl _))
   rw [htk.out] at hc hnd hbd hgr
   have hfin : Hid (B = ((c : Int) == g0 + 1)) := hid (by
    have h1 : B = true ↔ (c : Int) = g0 + 1 := by
     rw [hB.out, EndP.grt]
     constructor
     ·rintro ⟨-, -, -, g, h2, h3⟩
      have := GrtP.uniq (fun x hx => (hbd.out x hx).1) h3 hgr.out
      rw [hc.out]
      omega
     ·intro h
      refine ⟨fun n hn' => ?_, hbd.out, hnd.out, g0, by rw [← hc.out]; exact h, hgr.out⟩
      obtain ⟨q, hq, e⟩ := List.mem_iff_getElem.1 hn'
      exact hpw.out q n (by have := hN.out; omega) (by rw [List.getElem?_eq_getElem hq, e])
    rw [Bool.eq_iff_iff, h1]
    simp)
   have hci : (c : Int) ≤ 1048576 := by omega
   go_wp2
   go_ret
   exact ⟨by rw [hfin.out] <;> rfl, hb.out⟩
end Go.Proofs.YtbabdhepnjacdaaDoor
