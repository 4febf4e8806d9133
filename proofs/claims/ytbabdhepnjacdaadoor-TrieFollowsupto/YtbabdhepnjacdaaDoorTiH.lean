/-
 trie.Go.
-/
import Derived.Test.YtbabdhepnjacdaaDoorTiG
namespace Go.Proofs.YtbabdhepnjacdaaDoor
open Go.RowKit Go.Shelf
/-- What Go answers. -/
def IsGo (t : List Nod) (a : Int) (nm : ByteArray) (pl : Int) (ob : Bool) (L : List Int) (E : Int) : Prop :=
 (¬ FrmR t ∧ L = [] ∧ E = 1) ∨ (FrmR t ∧ (a < 0 ∨ (t.length : Int) ≤ a) ∧ L = [] ∧ E = 2) ∨ (FrmR t ∧ ∃ (k : Nat) (n : Nod), a = (k : Int) ∧ t[k]? = some n ∧ L = byN (gtL nm pl ob n.steps n.tos) t.length ∧ E = 0)
theorem IsGo.uniq {t : List Nod} {a : Int} {nm : ByteArray} {pl : Int} {ob : Bool} {L L' : List Int} {E E' : Int} (h : IsGo t a nm pl ob L E) (h' : IsGo t a nm pl ob L' E') : L = L' ∧ E = E' := by
 rcases h with ⟨h1, rfl, rfl⟩ | ⟨h1, h2, rfl, rfl⟩ | ⟨h1, k, n, rfl, h3, rfl, rfl⟩ <;> rcases h' with ⟨g1, rfl, rfl⟩ | ⟨g1, g2, rfl, rfl⟩ | ⟨g1, k', n', g2, g3, rfl, rfl⟩
 ·exact ⟨rfl, rfl⟩
 ·exact absurd g1 h1
 ·exact absurd g1 h1
 ·exact absurd h1 g1
 ·exact ⟨rfl, rfl⟩
 ·have := (List.getElem?_eq_some_iff.1 g3).1; omega
 ·exact absurd h1 g1
 ·have := (List.getElem?_eq_some_iff.1 h3).1; omega
 ·obtain rfl : k = k' := by omega
  rw [h3] at g3
  cases g3
  exact ⟨rfl, rfl⟩
theorem IntsZ.b64 {w : World} {ao : Option Addr} {L : List Int} (h : IntsZ w ao L) : ∀ x ∈ L, i64B x := fun x hx => by
 obtain ⟨i, hi, e⟩ := List.mem_iff_getElem.1 hx
 exact (h i x (by rw [List.getElem?_eq_getElem hi, e])).1
theorem frm_node {t : List Nod} (h : FrmR t) {k : Nat} {n : Nod} (hn : t[k]? = some n) : n.steps.length = n.tos.length ∧ n.tos.Nodup ∧ (∀ x ∈ n.tos, 0 ≤ x ∧ x < (t.length : Int)) := by
 have h2 := (frm_iff t).1 h
 have hm := List.mem_of_getElem? hn
 refine ⟨(h2.1 n hm).1, ?_, fun x hx => ?_⟩
 ·have h3 := h2.2.1.2.1
  obtain ⟨i, hi, e⟩ := List.mem_iff_getElem.1 hm
  have h4 := flat_pre Nod.tos (t := t) (i := k) (n := n) hn n.tos.length
  rw [List.take_length] at h4
  exact h3.sublist ((List.sublist_append_right _ _).trans h4)
 ·have := h2.2.1.1 k n hn x hx
  omega
theorem sort_gt {t : List Nod} (h : FrmR t) {k : Nat} {n : Nod} (hn : t[k]? = some n) (nm : ByteArray) (pl : Int) (ob : Bool) : ((gtL nm pl ob n.steps n.tos).mergeSort fun x y => decide (x ≤ y)) = byN (gtL nm pl ob n.steps n.tos) t.length := by
 obtain ⟨-, h2, h3⟩ := frm_node h hn
 have hs := gtL_sub nm pl ob n.steps n.tos
 exact sort_byN (h2.sublist hs) (fun x hx => h3 x (hs.subset hx))
set_option maxRecDepth 10000 in
set_option maxHeartbeats 4000000 in
theorem go23_calls (t : List Nod) (ao : Option Addr) (N cap : Nat) (hN : Hid (t.length = N)) (hm : Hid (Mid t)) (a : Int) (nm : ByteArray) (pl : Int) (ob : Bool) (w : World) (hk : Hid (NodesAt w ao t)) (hT : Hid (TabU w)) :
  Calls Tryd.prog 21 #[.slice ao N cap, .int .i64 a, .string nm, .int .i64 pl, .bool ob] w fun e w' => (∃ ro rc L E, e = .returned (.tuple #[.slice ro (L : List Int).length rc, .int .i64 E]) ∧ IntsZ w' ro L ∧ IsGo t a nm pl ob L E) ∧ Below w.heap.size w w' := by
 have hNi : N ≤ 1048576 := by have := hm.out.1; have := hN.out; omega
 have hNi' : (N : Int) ≤ 1048576 := by omega
 obtain ⟨F, hF⟩ : ∃ F : Bool, Hid (F = true ↔ FrmR t) := by
  by_cases h : FrmR t
  ·exact ⟨true, hid (by simp [h])⟩
  ·exact ⟨false, hid (by simp [h])⟩
 have hf := hid (formed23_calls t ao N cap hN hm F hF w hk hT)
 go_enter Tryd.func21, Tryd.ntmps21
 go_wp2_with fail
 refine Calls.mono hf.out ?_
 rintro e w2 ⟨rfl, b2⟩
 have B2 := hid b2
 clear b2 hf
 cases F with
 | false =>
  have hno := hid (show ¬ FrmR t from fun h => by have := hF.out.2 h; cases this)
  go_wp2
  refine bodyPost_ret (v := .tuple #[.slice none 0 0, .int .i64 1]) (by simp [results, Tryd.results21, go_sem]) rfl ?_
  exact ⟨⟨none, 0, [], 1, rfl, fun i x h => by simp at h, .inl ⟨hno.out, rfl, rfl⟩⟩, B2.out⟩
 | true =>
  have hyes := hid (hF.out.1 rfl)
  by_cases h0 : a < 0
  ·have f0 : decide (a < 0) = true := decide_eq_true h0
   have h0' := hid h0
   clear h0
   go_wp2
   refine bodyPost_ret (v := .tuple #[.slice none 0 0, .int .i64 2]) (by simp [results, Tryd.results21, go_sem]) rfl ?_
   exact ⟨⟨none, 0, [], 2, rfl, fun i x h => by simp at h, .inr (.inl ⟨hyes.out, .inl h0'.out, rfl, rfl⟩)⟩, B2.out⟩
  ·have f0 : decide (a < 0) = false := decide_eq_false h0
   by_cases h1 : (N : Int) ≤ a
   ·have f1 : decide ((N : Int) ≤ a) = true := decide_eq_true h1
    have h1' := hid (show (t.length : Int) ≤ a by rw [hN.out]; exact h1)
    clear h0 h1
    go_wp2
    refine bodyPost_ret (v := .tuple #[.slice none 0 0, .int .i64 2]) (by simp [results, Tryd.results21, go_sem]) rfl ?_
    exact ⟨⟨none, 0, [], 2, rfl, fun i x h => by simp at h, .inr (.inl ⟨hyes.out, .inr h1'.out, rfl, rfl⟩)⟩, B2.out⟩
   ·have f1 : decide ((N : Int) ≤ a) = false := decide_eq_false h1
    obtain ⟨k, rfl⟩ : ∃ k : Nat, a = (k : Int) := ⟨a.toNat, by omega⟩
    have hkN : k < N := by omega
    have f2 : decide (N ≤ k) = false := decide_eq_false (by omega)
    have hkN' : (k : Int) < (N : Int) := by omega
    obtain ⟨n, hn⟩ : ∃ n, Hid (t[k]? = some n) := ⟨_, List.getElem?_eq_getElem (by rw [hN.out]; exact hkN)⟩
    obtain ⟨g, o, cs, rfl, hg, hrg0, sa, sc, ta, tc, ea, ec, rfl, hS, hSB, hTo, -⟩ := (hk.out.kept B2.out) k n hn.out
    have hfr := frm_node hyes.out hn.out
    have hsl := hm.out.2.2.2 n (List.mem_of_getElem? hn.out)
    obtain ⟨M, hM⟩ : ∃ M, Hid (n.tos.length = M) := ⟨_, rfl⟩
    have hMs : Hid (n.steps.length = M) := hid (hfr.1.trans hM.out)
    have hMb : M ≤ 1048576 := by have := hMs.out; omega
    have hMi : (M : Int) ≤ 1048576 := by omega
    rw [hM.out, hMs.out] at hrg0
    have hS' := hid hS
    have hTo' := hid hTo
    have hb64 := hid (fun (L : List Int) (h : L.Sublist n.tos) x (hx : x ∈ L) => hTo.b64 x (h.subset hx))
    have k0 := hrg0 0 _ rfl
    have hk1 := hid (hrg0 1 _ rfl)
    have hgl := hid hg
    rw [Nat.add_zero] at k0
    clear h0 h1 hg hrg0 hS hSB hTo hfr hsl
    go_wp2
    clear k0
    go_loopw [12, 32] (fun vv ii wr => ∃ (i : Nat) (v : Value), i ≤ M ∧ ii = .int .i64 (i : Int) ∧ v = vv ∧ Hid (InG w2.heap.size wr v (gtL nm pl ob (n.steps.take i) (n.tos.take i))) ∧ Hid (Below w2.heap.size w2 wr)) (fun _ ii _ => M - (intOf ii).toNat)
    case atStart => exact ⟨0, _, Nat.zero_le _, rfl, rfl, hid (by simpa [gtL] using InG.nil _ _), hid (Below.refl _ _)⟩
    case round =>
     obtain ⟨i, v, hi, rfl, rfl, hI, hb⟩ := hrel
     by_cases hlt : i < M
     ·have hli : (i : Int) < (M : Int) := by omega
      obtain ⟨s, hs⟩ : ∃ s, Hid (n.steps[i]? = some s) := ⟨_, List.getElem?_eq_getElem (by rw [hMs.out]; exact hlt)⟩
      obtain ⟨x, hx⟩ : ∃ x, Hid (n.tos[i]? = some x) := ⟨_, List.getElem?_eq_getElem (by rw [hM.out]; exact hlt)⟩
      have hlt' := hid (show i + 1 ≤ M by omega)
      have htk := hid (gtL_take (nm := nm) (pl := pl) (ob := ob) hs.out hx.out)
      have hll : Hid ((gtL nm pl ob (n.steps.take i) (n.tos.take i)).length ≤ 1048576) := hid (by
       have := (gtL_sub nm pl ob (n.steps.take i) (n.tos.take i)).length_le
       rw [List.length_take] at this
       omega)
      obtain ⟨g2, o2, rfl, hg2, hrg2⟩ := steps_at (hS'.out.kept hb.out) hs.out
      obtain ⟨-, g3, o3, rfl, hg3, cx0⟩ := (hTo'.out) i x hx.out
      have hcx := hid (fun (u : World) (hu : Below w2.heap.size w2 u) => (hu.cell (p := ⟨g3, o3 + i, none⟩) hg3).trans cx0)
      have hck := hid (fun (u : World) (hu : Below w2.heap.size w2 u) => (hu.cell (p := ⟨g, o + k * 3 + 1, none⟩) hgl.out).trans hk1.out)
      have ad3 : (⟨g3, o3, none⟩ : Addr).add i = ⟨g3, o3 + i, none⟩ := by by_cases h : i = 0 <;> simp [Addr.add, h]
      have htt := hid (fun u => takes22_calls s nm pl ob u)
      obtain ⟨T, hT'⟩ : ∃ T, tkS s nm pl ob = T := ⟨_, rfl⟩
      rw [hT'] at htt htk
      clear hs hx hT'
      obtain ⟨sk, sn, sp⟩ := s
      dsimp only at *
      have hrg' := hid hrg2
      have z1 : (Tryd.prog.info? 53).map (·.size) = some ([.int .i64 sk, .string sn, .int .i64 sp] : List Value).length := sizeStp
      obtain ⟨W1, hW1⟩ : ∃ W, wr.alloc (.cells #[.int .i64 sk, .string sn, .int .i64 sp] 53) = W := ⟨_, rfl⟩
      have b1 : Below wr.heap.size wr W1 := by rw [← hW1]; exact (Below.refl _ wr).alloc (Nat.le_refl _) _
      have A1 := hid (show At W1 wr.heap.size #[.int .i64 sk, .string sn, .int .i64 sp] 53 by rw [← hW1]; exact At.new _ _ _)
      have B1 := hid (hb.out.trans (b1.mono hb.out.size))
      have I1 := hid (hI.out.keptB b1)
      clear hrg2 hg2 hg3 cx0 b1 hI
      go_wp2_with (first | refine wpList_load_want 53 _ g2 (o2 + i * 3) [.int .i64 sk, .string sn, .int .i64 sp] _ hrg'.out Tryd.underlying53 z1 rfl rfl rfl (by rfl) ?_ | refine wpList_load_want 53 _ wr.heap.size 0 [.int .i64 sk, .string sn, .int .i64 sp] _ (A1.out.range rfl) Tryd.underlying53 sizeStp rfl rfl rfl (by rfl) ?_ | fail)
      refine Calls.mono (htt.out _) ?_
      rintro e w3 ⟨rfl, b3⟩
      have B3 := hid (B1.out.trans (b3.mono B1.out.size))
      have I3 := hid (I1.out.keptB b3)
      clear b3 htt I1 hW1 A1
      cases T with
      | false =>
       go_wp2
       go_roundw
       case rel => exact ⟨i + 1, v, hlt'.out, by simp, rfl, hid (by rw [htk.out]; simpa using I3.out), B3⟩
       case measure => simp [intOf]; have := hlt'.out; omega
      | true =>
       have d0 := hck.out _ B3.out
       have d1 := hcx.out _ B3.out
       obtain ⟨W4, hW4⟩ : ∃ W, w3.alloc (.cells #[.int .i64 x] 3) = W := ⟨_, rfl⟩
       have b4 : Below w3.heap.size w3 W4 := by rw [← hW4]; exact (Below.refl _ w3).alloc (Nat.le_refl _) _
       have A4 := hid (show At W4 w3.heap.size #[.int .i64 x] 3 by rw [← hW4]; exact At.new _ _ _)
       have B4 := hid (B3.out.trans (b4.mono B3.out.size))
       have I4 := hid (I3.out.keptB b4)
       clear b4 I3 hck hcx
       go_wp2_with (first | (at_builtin; refine wpList_inG rfl _ _ rfl w2.heap.size v (gtL nm pl ob (n.steps.take i) (n.tos.take i)) x ⟨w3.heap.size, 0, none⟩ 1 rfl rfl I4.out (A4.out.cell 0) (by have := hll.out; omega) B4.out.size ?_) | fail)
       intro v' w5 I5 hg5
       have B5 := hid (B4.out.grown hg5 B4.out.size (fun c hc => (I4.out.lt c hc).1))
       have I5' := hid I5
       clear I5 hg5 I4 A4 d0 d1 hW4
       go_wp2
       go_roundw
       case rel => exact ⟨i + 1, v', hlt'.out, by simp, rfl, hid (by rw [htk.out]; simpa using I5'.out), B5⟩
       case measure => simp [intOf]; have := hlt'.out; omega
     ·obtain rfl : i = M := by omega
      have hts : Hid (n.steps.take i = n.steps) := hid (List.take_of_length_le (by rw [hMs.out]; exact Nat.le_refl _))
      have htt : Hid (n.tos.take i = n.tos) := hid (List.take_of_length_le (by rw [hM.out]; exact Nat.le_refl _))
      rw [hts.out, htt.out] at hI
      have hsub := gtL_sub nm pl ob n.steps n.tos
      have hso := hid (sortI_calls w2.heap.size v _ (by have := hsub.length_le; have := hM.out; omega) (hb64.out _ hsub) wr hI.out hb.out.size)
      rw [sort_gt hyes.out hn.out] at hso
      have hlen : Hid ((gtL nm pl ob n.steps n.tos).length = (byN (gtL nm pl ob n.steps n.tos) t.length).length) := hid (by rw [← sort_gt hyes.out hn.out, List.length_mergeSort])
      clear hsub hI
      go_wp2_with fail
      refine Calls.mono hso.out ?_
      rintro e w3 ⟨rfl, b3, ao, cap, rfl, hz⟩
      have hz' := hid hz
      have B3 := hid (B2.out.trans ((hb.out.trans b3).mono B2.out.size))
      clear b3 hso hz
      rw [hlen.out]
      go_wp2
      refine bodyPost_ret (v := .tuple #[.slice ao (byN (gtL nm pl ob n.steps n.tos) t.length).length cap, .int .i64 0]) (by simp [results, Tryd.results21, go_sem]) rfl ?_
      exact ⟨⟨ao, cap, _, 0, rfl, hz'.out, .inr (.inr ⟨hyes.out, k, n, rfl, hn.out, rfl, rfl⟩)⟩, B3.out⟩
end Go.Proofs.YtbabdhepnjacdaaDoor
