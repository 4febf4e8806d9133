/-
 trie.Formed, trie.Go.
-/
import Derived.Test.YtbabdhepnjacdaaDoorTiC
import Derived.Test.YtbabdhepnjacdaaDoorTiD
import Derived.Test.YtbabdhepnjacdaaDoorTiE
import Derived.Test.YtbabdhepnjacdaaDoorTiF
import Derived.Test.YtbabdhepnjacdaaDoorPyI
namespace Go.Proofs.YtbabdhepnjacdaaDoor
open Go.RowKit Go.Shelf
/-- A trie that is neither great in number nor in its names. -/
def Mid (t : List Nod) : Prop := t.length ≤ 1048576 ∧ (toA t).length ≤ 1048576 ∧ (enA t).length ≤ 1048576 ∧ ∀ n ∈ t, n.steps.length ≤ 1048576
set_option maxRecDepth 10000 in
set_option maxHeartbeats 4000000 in
theorem formed23_calls (t : List Nod) (ao : Option Addr) (N cap : Nat) (hN : Hid (t.length = N)) (hm : Hid (Mid t)) (B : Bool) (hB : Hid (B = true ↔ FrmR t)) (w : World) (hk : Hid (NodesAt w ao t)) (hT : Hid (TabU w)) :
  Calls Tryd.prog 17 #[.slice ao N cap] w fun e w' => e = .returned (.bool B) ∧ Below w.heap.size w w' := by
 have hNi : N ≤ 1048576 := by have := hm.out.1; have := hN.out; omega
 have hNi' : (N : Int) ≤ 1048576 := by omega
 obtain ⟨BL, hBL⟩ : ∃ BL : Bool, Hid (BL = true ↔ LnkP t) := by
  by_cases h : LnkP t
  ·exact ⟨true, hid (by simp [h])⟩
  ·exact ⟨false, hid (by simp [h])⟩
 obtain ⟨BE, hBE⟩ : ∃ BE : Bool, Hid (BE = true ↔ EndP t) := by
  by_cases h : EndP t
  ·exact ⟨true, hid (by simp [h])⟩
  ·exact ⟨false, hid (by simp [h])⟩
 go_enter Tryd.func17, Tryd.ntmps17
 go_wp2
 go_loopw [7] (fun ii wr => ∃ (i : Nat), i ≤ N ∧ ii = .int .i64 (i : Int) ∧ Hid (∀ (q : Nat) (n : Nod), q < i → t[q]? = some n → n.steps.length = n.tos.length ∧ n.steps.all fmS = true ∧ n.steps.Nodup) ∧ Hid (Below w.heap.size w wr)) (fun ii _ => N - (intOf ii).toNat)
 case atStart => exact ⟨0, Nat.zero_le _, rfl, hid (fun q n h => by omega), hid (Below.refl _ _)⟩
 case round =>
  obtain ⟨i, hi, rfl, hall, hb⟩ := hrel
  by_cases hlt : i < N
  ·have hli : (i : Int) < (N : Int) := by omega
   obtain ⟨n, hn⟩ : ∃ n, Hid (t[i]? = some n) := ⟨_, List.getElem?_eq_getElem (by rw [hN.out]; exact hlt)⟩
   obtain ⟨g, o, cs, rfl, hg, hrg0, sa, sc, ta, tc, ea, ec, rfl, hS, hSB, -, -⟩ := hk.out i n hn.out
   have hrg' := hid (range_kept hrg0 hb.out)
   have hnm := hid (List.mem_of_getElem? hn.out)
   have hlt' := hid (show i + 1 ≤ N by omega)
   have hsl := hm.out.2.2.2 n hnm.out
   have hfo := hid (fun (u : World) (hu : Below w.heap.size w u) => formedL_calls n.steps sa n.steps.length sc (hid rfl) (by omega) u (hid (hS.kept hu)) (hid (hT.out.below hu)))
   have hap := hid (fun (u : World) (hu : Below w.heap.size w u) => apart23_calls n.steps sa n.steps.length sc (hid rfl) (by omega) (hid hSB) u (hid (hS.kept hu)))
   have hfall := hid (fun (h : ¬ (n.steps.length = n.tos.length ∧ n.steps.all fmS = true ∧ n.steps.Nodup)) => (show B = false by
    cases hb : B with
    | false => rfl
    | true => exact absurd (((frm_iff t).1 (hB.out.1 hb)).1 n hnm.out) h))
   have hgoon := hid (fun (h : n.steps.length = n.tos.length ∧ n.steps.all fmS = true ∧ n.steps.Nodup) (q : Nat) (n' : Nod) (hq : q < i + 1) (hn' : t[q]? = some n') => (show n'.steps.length = n'.tos.length ∧ n'.steps.all fmS = true ∧ n'.steps.Nodup by
    by_cases e : q = i
    ·subst e
     have := hn.out.symm.trans hn'
     cases this
     exact h
    ·exact hall.out q n' (by omega) hn'))
   obtain ⟨F, hF⟩ : ∃ F, n.steps.all fmS = F := ⟨_, rfl⟩
   obtain ⟨D, hD⟩ : ∃ D, decide n.steps.Nodup = D := ⟨_, rfl⟩
   have hD' : Hid (n.steps.Nodup ↔ D = true) := hid (by rw [← hD]; simp)
   rw [hF] at hfo hfall hgoon
   rw [hD] at hap
   have z1 : (Tryd.prog.info? 50).map (·.size) = some ([.slice sa n.steps.length sc, .slice ta n.tos.length tc, .slice ea n.ends.length ec] : List Value).length := by kernel_rfl
   clear hS hSB hg hrg0 hD hF
   generalize n.steps.length = q1 at *
   generalize n.tos.length = q2 at *
   generalize n.ends.length = q3 at *
   have hq1 : (q1 : Int) ≤ 1048576 := by omega
   obtain ⟨q, hq⟩ : ∃ q, Hid (wr.heap.size = q) := ⟨_, rfl⟩
   obtain ⟨W1, hW1⟩ : ∃ W, wr.alloc (.cells #[.slice sa q1 sc, .slice ta q2 tc, .slice ea q3 ec] 50) = W := ⟨_, rfl⟩
   have b1 : Below wr.heap.size wr W1 := by rw [← hW1]; exact (Below.refl _ wr).alloc (Nat.le_refl _) _
   have A1 : At W1 q #[.slice sa q1 sc, .slice ta q2 tc, .slice ea q3 ec] 50 := by rw [← hW1, ← hq.out]; exact At.new _ _ _
   have A1' := hid A1
   have B1 := hid (hb.out.trans (b1.mono hb.out.size))
   have c0 := A1.cell 0
   have c1 := A1.cell 1
   simp only [List.getElem?_toArray, List.getElem?_cons_zero, List.getElem?_cons_succ] at c0 c1
   rw [← hq.out] at c0 c1
   clear A1 b1
   by_cases hqq : q1 = q2
   ·subst hqq
    have f0 : ((q1 : Int) != (q1 : Int)) = false := by simp
    cases F with
    | false =>
     have hfin := hid (hfall.out (by simp))
     clear hfall hgoon hap
     go_wp2_with (first | refine wpList_load_want 50 _ g (o + i * 3) [.slice sa q1 sc, .slice ta q1 tc, .slice ea q3 ec] _ hrg'.out Tryd.underlying50 z1 rfl rfl rfl (by rfl) ?_ | fail)
     refine Calls.mono (hfo.out _ B1.out) ?_
     rintro e w2 ⟨rfl, b2⟩
     have B2 := hid (B1.out.trans (b2.mono B1.out.size))
     clear b2 hfo
     go_wp2
     go_ret
     exact ⟨by rw [hfin.out] <;> rfl, B2.out⟩
    | true =>
     go_wp2_with (first | refine wpList_load_want 50 _ g (o + i * 3) [.slice sa q1 sc, .slice ta q1 tc, .slice ea q3 ec] _ hrg'.out Tryd.underlying50 z1 rfl rfl rfl (by rfl) ?_ | fail)
     refine Calls.mono (hfo.out _ B1.out) ?_
     rintro e w2 ⟨rfl, b2⟩
     have B2 := hid (B1.out.trans (b2.mono B1.out.size))
     have A2 := A1'.out.keptAll b2
     have d0 := A2.cell 0
     simp only [List.getElem?_toArray, List.getElem?_cons_zero] at d0
     rw [← hq.out] at d0
     clear b2 hfo A2 c0 c1
     cases D with
     | false =>
      have hfin := hid (hfall.out (by rw [hD'.out]; simp))
      clear hfall hgoon hD'
      go_wp2_with fail
      refine Calls.mono (hap.out _ B2.out) ?_
      rintro e w3 ⟨rfl, b3⟩
      have B3 := hid (B2.out.trans (b3.mono B2.out.size))
      clear b3 hap
      go_wp2
      go_ret
      exact ⟨by rw [hfin.out] <;> rfl, B3.out⟩
     | true =>
      have hnext := hid (hgoon.out (by rw [hD'.out]; simp))
      clear hfall hgoon hD'
      go_wp2_with fail
      refine Calls.mono (hap.out _ B2.out) ?_
      rintro e w3 ⟨rfl, b3⟩
      have B3 := hid (B2.out.trans (b3.mono B2.out.size))
      clear b3 hap
      go_wp2
      go_roundw
      case rel => exact ⟨i + 1, hlt'.out, by simp, hid hnext.out, B3⟩
      case measure => simp [intOf]; have := hlt'.out; omega
   ·have f0 : ((q1 : Int) != (q2 : Int)) = true := by simp; omega
    have hfin := hid (hfall.out (fun h => hqq h.1))
    clear hfall hgoon hap hfo
    go_wp2_with (first | refine wpList_load_want 50 _ g (o + i * 3) [.slice sa q1 sc, .slice ta q2 tc, .slice ea q3 ec] _ hrg'.out Tryd.underlying50 z1 rfl rfl rfl (by rfl) ?_ | fail)
    go_ret
    exact ⟨by rw [hfin.out] <;> rfl, B1.out⟩
  ·obtain rfl : i = N := by omega
   have hP : Hid (NodP t) := hid (fun n hn => by
    obtain ⟨q, hq, e⟩ := List.mem_iff_getElem.1 hn
    exact hall.out q n (by have := hN.out; omega) (by rw [List.getElem?_eq_getElem hq, e]))
   have hli := hid (fun (u : World) (hu : Below w.heap.size w u) => linked23_calls t ao i cap hN hNi (hid hm.out.2.1) BL hBL u (hid (hk.out.kept hu)))
   have hen := hid (fun (u : World) (hu : Below w.heap.size w u) => ended23_calls t ao i cap hN hNi (hid hm.out.2.2.1) BE hBE u (hid (hk.out.kept hu)))
   have hbb : Hid (B = (BL && BE)) := hid (by
    rw [Bool.eq_iff_iff, hB.out, frm_iff, Bool.and_eq_true, hBL.out, hBE.out]
    exact ⟨fun h => h.2, fun h => ⟨hP.out, h⟩⟩)
   go_wp2_with fail
   refine Calls.mono (hli.out _ hb.out) ?_
   rintro e w2 ⟨rfl, b2⟩
   have B2 := hid (hb.out.trans (b2.mono hb.out.size))
   clear b2 hli
   cases BL with
   | false =>
    clear hen
    go_wp2
    go_ret
    exact ⟨by rw [hbb.out] <;> rfl, B2.out⟩
   | true =>
    go_wp2_with fail
    refine Calls.mono (hen.out _ B2.out) ?_
    rintro e w3 ⟨rfl, b3⟩
    have B3 := hid (B2.out.trans (b3.mono B2.out.size))
    clear b3 hen
    go_wp2
    go_ret
    exact ⟨by rw [hbb.out] <;> rfl, B3.out⟩
end Go.Proofs.YtbabdhepnjacdaaDoor
