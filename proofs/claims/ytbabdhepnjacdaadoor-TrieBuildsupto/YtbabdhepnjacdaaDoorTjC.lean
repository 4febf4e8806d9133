/-
 trie.Build.
-/
import Derived.Test.YtbabdhepnjacdaaDoorTjB
import Derived.Test.YtbabdhepnjacdaaDoorTiV
namespace Go.Proofs.YtbabdhepnjacdaaDoor
open Go.RowKit Go.Shelf
/-- What Build answers. -/
def IsBld (L : List (List Stp)) (T : List Nod) (E : Int) : Prop :=
 (256 < L.length ∧ T = [] ∧ E = 2) ∨ (L.length ≤ 256 ∧ (∃ p ∈ L, p.all fmS = false) ∧ T = [] ∧ E = 1) ∨ (L.length ≤ 256 ∧ (∀ p ∈ L, p.all fmS = true) ∧ BldT L T ∧ E = 0)
/-- Paths that are not great in all. -/
def MidP (L : List (List Stp)) : Prop := (L.map List.length).sum ≤ 1048570 ∧ (∀ p ∈ L, ∀ s ∈ p, s.name.size ≤ 1048576) ∧ ∀ p ∈ L, stpB p
theorem sum_take2 (L : List (List Stp)) (i : Nat) : ((L.take i).map List.length).sum ≤ (L.map List.length).sum := by
 have h : L.map List.length = (L.take i).map List.length ++ (L.drop i).map List.length := by rw [← List.map_append, List.take_append_drop]
 rw [h, List.sum_append]
 omega
theorem WfB.ends {T : List Nod} (h : WfB T) {a : Nat} {n : Nod} (hn : T[a]? = some n) {k : Nat} (hk : k < 256) : WfB (T.set a ⟨n.steps, n.tos, n.ends ++ [(k : Int)]⟩) := by
 have hl : (T.set a ⟨n.steps, n.tos, n.ends ++ [(k : Int)]⟩).length = T.length := List.length_set
 have hg : ∀ b m, (T.set a ⟨n.steps, n.tos, n.ends ++ [(k : Int)]⟩)[b]? = some m → (b = a ∧ m = ⟨n.steps, n.tos, n.ends ++ [(k : Int)]⟩) ∨ (b ≠ a ∧ T[b]? = some m) := fun b m hb => by
  by_cases e : b = a
  ·subst e
   rw [List.getElem?_set_self (List.getElem?_eq_some_iff.1 hn).1] at hb
   cases hb
   exact .inl ⟨rfl, rfl⟩
  ·rw [List.getElem?_set_ne (fun h => e h.symm)] at hb
   exact .inr ⟨e, hb⟩
 refine ⟨fun b m hb => ?_, fun b m hb => ?_⟩
 ·rw [hl]
  rcases hg b m hb with ⟨rfl, rfl⟩ | ⟨-, h2⟩
  ·obtain ⟨w1, w2, w3, w4, w5, w6⟩ := h.1 b n hn
   refine ⟨w1, w2, w3, w4, fun x hx => ?_, w6⟩
   rcases List.mem_append.1 hx with hx | hx
   ·exact w5 x hx
   ·obtain rfl := List.mem_singleton.1 hx; omega
  ·exact h.1 b m h2
 ·rw [hl]
  rcases hg b m hb with ⟨rfl, rfl⟩ | ⟨-, h2⟩
  ·exact h.2 b n hn
  ·exact h.2 b m h2
theorem wf_nul : WfB [nulN] := ⟨fun a n hn => by
 match a, hn with
 | 0, hn => simp at hn; subst hn; exact nulN_wf [nulN] 0
 | a + 1, hn => simp at hn, fun a n hn => by
 match a, hn with
 | 0, hn => simp at hn; subst hn; decide
 | a + 1, hn => simp at hn⟩
theorem nx_ends {T T' : List Nod} {a r m : Nat} {s : Stp} (h : NxT T a s T' r) (hm : ∀ n ∈ T, n.ends.length ≤ m) : ∀ n ∈ T', n.ends.length ≤ m := by
 rcases h with ⟨n, j, -, -, -, rfl⟩ | ⟨n, hn, -, -, rfl⟩
 ·exact hm
 ·intro x hx
  obtain ⟨b, hb, e⟩ := List.mem_iff_getElem.1 hx
  rcases set_get b x (by rw [List.getElem?_eq_getElem hb, e]) with ⟨-, -, rfl⟩ | ⟨-, h2⟩ | ⟨-, rfl⟩
  ·exact hm n (List.mem_of_getElem? hn)
  ·exact hm x (List.mem_of_getElem? h2)
  ·exact Nat.zero_le _
theorem ins_ends {T T' : List Nod} {p : List Stp} {c m : Nat} (h : InsS T p T' c) (hm : ∀ n ∈ T, n.ends.length ≤ m) : ∀ n ∈ T', n.ends.length ≤ m := by
 induction h with
 | nil => exact hm
 | snoc h k ih => exact nx_ends k ih
theorem bld_ends {L : List (List Stp)} {T : List Nod} (h : BldT L T) : ∀ n ∈ T, n.ends.length ≤ L.length := by
 induction h with
 | nil => intro n hn; obtain rfl := List.mem_singleton.1 hn; exact Nat.le_refl _
 | snoc h k hn ih =>
  intro x hx
  rw [List.length_append, List.length_singleton]
  rcases List.mem_or_eq_of_mem_set hx with hx | rfl
  ·have := ins_ends k ih x hx; omega
  ·have := ins_ends k ih _ (List.mem_of_getElem? hn)
   simp
   omega
set_option maxRecDepth 10000 in
set_option maxHeartbeats 8000000 in
theorem build23_calls (L : List (List Stp)) (ao : Option Addr) (N cap : Nat) (hN : Hid (L.length = N)) (hNb : N ≤ 1048576) (hm : Hid (MidP L)) (w : World) (hk : Hid (PthsAt w ao L)) (hT : Hid (TabU w)) :
  Calls Tryd.prog 9 #[.slice ao N cap] w fun e w' => (∃ ro rc T E, e = .returned (.tuple #[.slice ro (T : List Nod).length rc, .int .i64 E]) ∧ NodesAt w' ro T ∧ IsBld L T E) ∧ Below w.heap.size w w' := by
 have hNi : (N : Int) ≤ 1048576 := by omega
 have hplen := hid (fun (i : Nat) (p : List Stp) (hp : L[i]? = some p) => (show p.length ≤ 1048576 by
  have h1 := sum_take2 L (i + 1)
  have h2 := hm.out.1
  rw [List.take_add_one, hp] at h1
  simp at h1
  omega))
 go_enter Tryd.func9, Tryd.ntmps9
 by_cases h256 : 256 < N
 ·have f1 : decide ((256 : Int) < (N : Int)) = true := decide_eq_true (by omega)
  have f2 : decide (256 < N) = true := decide_eq_true h256
  have hb := hid (show 256 < L.length by rw [hN.out]; exact h256)
  go_wp2
  refine bodyPost_ret (v := .tuple #[.slice none 0 0, .int .i64 2]) (by simp [results, Tryd.results9, go_sem]) rfl ?_
  exact ⟨⟨none, 0, [], 2, rfl, fun i x h => by simp at h, .inl ⟨hb.out, rfl, rfl⟩⟩, Below.refl _ _⟩
 ·have f1 : decide ((256 : Int) < (N : Int)) = false := decide_eq_false (by omega)
  have f2 : decide (256 < N) = false := decide_eq_false h256
  have h256' := hid (show L.length ≤ 256 by have := hN.out; omega)
  go_wp2
  go_loopw [18] (fun ii wr => ∃ i : Nat, i ≤ N ∧ ii = .int .i64 (i : Int) ∧ Hid (∀ p ∈ L.take i, p.all fmS = true) ∧ Hid (Below w.heap.size w wr)) (fun ii _ => N - (intOf ii).toNat)
  case atStart => exact ⟨0, Nat.zero_le _, rfl, hid (by simp), hid (Below.refl _ _)⟩
  case round =>
   obtain ⟨i, hi, rfl, hall, hb⟩ := hrel
   by_cases hlt : i < N
   ·have hli : (i : Int) < (N : Int) := by omega
    have hi' := hid (show i + 1 ≤ N by omega)
    obtain ⟨p, hp⟩ : ∃ p, Hid (L[i]? = some p) := ⟨_, List.getElem?_eq_getElem (by rw [hN.out]; exact hlt)⟩
    obtain ⟨g, o, so, sc, rfl, hst, hcl⟩ := pths_at hk.out hp.out
    have cp := hcl wr hb.out
    have ad1 : (⟨g, o, none⟩ : Addr).add i = ⟨g, o + i, none⟩ := by by_cases h : i = 0 <;> simp [Addr.add, h]
    have hpl := hplen.out i p hp.out
    obtain ⟨M, hM⟩ : ∃ M, Hid (p.length = M) := ⟨_, rfl⟩
    rw [hM.out] at cp hpl
    have hf := hid (formedL_calls p so M sc hM (by omega) wr (hid (hst.kept hb.out)) (hid (hT.out.below hb.out)))
    obtain ⟨F, hF⟩ : ∃ F, p.all fmS = F := ⟨_, rfl⟩
    rw [hF] at hf
    have hF' := hid hF
    have htk := hid (take_snoc hp.out)
    clear hst hcl hF hpl
    go_wp2_with fail
    refine Calls.mono hf.out ?_
    rintro e w2 ⟨rfl, b2⟩
    have B2 := hid (hb.out.trans (b2.mono hb.out.size))
    clear b2 hf
    cases F with
    | false =>
     have hbad := hid (show ∃ p ∈ L, p.all fmS = false from ⟨p, List.mem_of_getElem? hp.out, hF'.out⟩)
     go_wp2
     refine bodyPost_ret (v := .tuple #[.slice none 0 0, .int .i64 1]) (by simp [results, Tryd.results9, go_sem]) rfl ?_
     exact ⟨⟨none, 0, [], 1, rfl, fun i x h => by simp at h, .inr (.inl ⟨h256'.out, hbad.out, rfl, rfl⟩)⟩, B2.out⟩
    | true =>
     have hall2 : Hid (∀ p ∈ L.take (i + 1), p.all fmS = true) := hid (fun q hq => by
      rw [htk.out] at hq
      rcases List.mem_append.1 hq with h | h
      ·exact hall.out q h
      ·obtain rfl := List.mem_singleton.1 h; exact hF'.out)
     clear hall
     go_wp2
     go_roundw
     case rel => exact ⟨i + 1, hi'.out, by simp, hall2, B2⟩
     case measure => simp [intOf]; have := hi'.out; omega
   ·obtain rfl : N = i := by omega
    have hall2 : Hid (∀ p ∈ L, p.all fmS = true) := hid (by
     have h := hall.out
     rwa [List.take_of_length_le (by rw [hN.out]; exact Nat.le_refl _)] at h)
    clear hall
    obtain ⟨gb, hgb⟩ : ∃ gb, wr.heap.size = gb := ⟨_, rfl⟩
    obtain ⟨W1, hW1⟩ : ∃ W, wr.alloc (.cells #[.slice none 0 0] 58) = W := ⟨_, rfl⟩
    have b1 : Below wr.heap.size wr W1 := by rw [← hW1]; exact (Below.refl _ wr).alloc (Nat.le_refl _) _
    have A1 : At W1 gb #[.slice none 0 0] 58 := by rw [← hW1, ← hgb]; exact At.new _ _ _
    have B1 := hid (hb.out.trans (b1.mono hb.out.size))
    have hgw : Hid (w.heap.size ≤ gb) := hid (by rw [← hgb]; exact hb.out.size)
    have hgW : Hid (gb ≤ W1.heap.size) := hid (Nat.le_of_lt A1.lt)
    have G1 : GrX gb W1 gb 0 (fun _ _ => 0) (fun _ _ => []) (fun _ => 0) (.slice none 0 0) (fun _ _ => .slice none 0 0) (fun _ => 0) := ⟨A1, Nat.le_refl _, by simpa using World.ownsRow_nil W1 gb 59 1, fun i hi => by omega, fun i hi => by omega, fun i j hi => by omega, fun i k hi => by omega, fun i j k hi => by omega, fun i hi => by omega⟩
    have hgr := hid (grown23_calls gb gb 0 (fun _ _ => 0) (fun _ _ => []) (fun _ => 0) (.slice none 0 0) (fun _ _ => .slice none 0 0) (fun _ => 0) (by omega) W1 (hid G1) hgW.out (hid (fun _ _ => rfl)) (hid (fun _ _ => rfl)))
    clear b1 A1 G1 hb
    go_wp2_with fail
    refine Calls.mono hgr.out ?_
    rintro e w2 ⟨rfl, ⟨v2, g2⟩, ⟨b2, s2⟩, -⟩
    obtain ⟨rb, hrb⟩ : ∃ rb, W1.heap.size = rb := ⟨_, rfl⟩
    rw [hrb] at g2 s2 ⊢
    have B2 := hid (B1.out.trans (b2.mono hgw.out))
    have M2 : Hid (MemT gb w2 gb [nulN] (fun i => if i = 0 then rb else 0)) := hid ⟨fun _ _ => 0, fun _ _ => [], fun a n hn => by
     match a, hn with
     | 0, hn => simp at hn; subst hn; exact ⟨⟨rfl, rfl⟩, ⟨rfl, rfl⟩, ⟨rfl, rfl⟩⟩
     | a + 1, hn => simp at hn, fun _ _ _ _ => ⟨rfl, rfl⟩, ⟨_, _, _, g2⟩⟩
    have hgs2 := hid (show gb ≤ w2.heap.size by have := hgW.out; omega)
    clear hgr g2 b2 s2 hW1
    go_wp2
    go_loopw [29] (fun kk wr => ∃ (k : Nat) (T : List Nod) (nb : Nat → Nat), k ≤ N ∧ kk = .int .i64 (k : Int) ∧ Hid (BldT (L.take k) T) ∧ Hid (MemT gb wr gb T nb) ∧ Hid (WfB T) ∧ Hid (T.length ≤ 1 + ((L.take k).map List.length).sum ∧ 0 < T.length ∧ nb 0 = rb) ∧ Hid (Below w.heap.size w wr) ∧ Hid (gb ≤ wr.heap.size)) (fun kk _ => N - (intOf kk).toNat)
    case atStart => exact ⟨0, [nulN], (fun i => if i = 0 then rb else 0), Nat.zero_le _, rfl, hid BldT.nil, M2, hid wf_nul, hid ⟨by simp, by simp, rfl⟩, B2, hgs2⟩
    case round =>
     clear M2 B2 hgs2
     obtain ⟨k, T, nb, hkN, rfl, hBl, hMt, hWf, hTl, hb, hgs⟩ := hrel
     by_cases hkl : k < N
     ·have hki : (k : Int) < (N : Int) := by omega
      have hk' := hid (show k + 1 ≤ N by omega)
      obtain ⟨p, hp⟩ : ∃ p, Hid (L[k]? = some p) := ⟨_, List.getElem?_eq_getElem (by rw [hN.out]; exact hkl)⟩
      obtain ⟨g, o, so, sc, rfl, hst, hcl⟩ := pths_at hk.out hp.out
      have cp := hcl wr hb.out
      have ad1 : (⟨g, o, none⟩ : Addr).add k = ⟨g, o + k, none⟩ := by by_cases h : k = 0 <;> simp [Addr.add, h]
      have hpl := hplen.out k p hp.out
      obtain ⟨M, hM⟩ : ∃ M, Hid (p.length = M) := ⟨_, rfl⟩
      rw [hM.out] at cp hpl
      have hMi : (M : Int) ≤ 1048576 := by omega
      have hst' := hid hst
      have hpm := hid (List.mem_of_getElem? hp.out)
      have hsum : Hid (((L.take (k + 1)).map List.length).sum = ((L.take k).map List.length).sum + M) := hid (by rw [List.take_add_one, hp.out, ← hM.out]; simp)
      have hsb := hid (show ((L.take k).map List.length).sum + M ≤ 1048570 by have h1 := sum_take2 L (k + 1); have h2 := hm.out.1; have := hsum.out; omega)
      have hnb0 : nb 0 = rb := hTl.out.2.2
      have hlt0 := hid (fun j (hj : j ≤ M) => (show ((L.take k).map List.length).sum + j ≤ 1048570 by have := hsb.out; omega))
      clear hst hcl hpl
      go_wp2
      clear hnb0
      go_loopw [10, 37] (fun aa jj wr => ∃ (j : Nat) (T1 : List Nod) (c : Nat) (nb : Nat → Nat), j ≤ M ∧ jj = .int .i64 (j : Int) ∧ aa = .pointer (some ⟨nb c, 0, none⟩) ∧ Hid (InsS T (p.take j) T1 c) ∧ Hid (MemT gb wr gb T1 nb) ∧ Hid (WfB T1) ∧ Hid (T1.length ≤ 1 + ((L.take k).map List.length).sum + j ∧ c < T1.length ∧ nb 0 = rb ∧ 0 < T1.length) ∧ Hid (Below w.heap.size w wr) ∧ Hid (gb ≤ wr.heap.size)) (fun _ jj _ => M - (intOf jj).toNat)
      case atStart => exact ⟨0, T, 0, nb, Nat.zero_le _, rfl, by rw [hTl.out.2.2], hid InsS.nil, hMt, hWf, hid ⟨hTl.out.1, hTl.out.2.1, hTl.out.2.2, hTl.out.2.1⟩, hb, hgs⟩
      case round =>
       clear hMt hWf hb hgs
       obtain ⟨j, T1, c, nb, hj, rfl, rfl, hI, hMt, hWf, hTl1, hb, hgs⟩ := hrel
       by_cases hjl : j < M
       ·have hji : (j : Int) < (M : Int) := by omega
        have hj' := hid (show j + 1 ≤ M by omega)
        obtain ⟨s, hs⟩ : ∃ s, Hid (p[j]? = some s) := ⟨_, List.getElem?_eq_getElem (by rw [hM.out]; exact hjl)⟩
        obtain ⟨n, hn⟩ : ∃ n, Hid (T1[c]? = some n) := ⟨_, List.getElem?_eq_getElem hTl1.out.2.1⟩
        obtain ⟨g2, o2, rfl, hg2, hrg2⟩ := steps_at (hst'.out.kept hb.out) hs.out
        have hsm := List.mem_of_getElem? hs.out
        have hsn := hm.out.2.1 p hpm.out s hsm
        have hsB := hm.out.2.2 p hpm.out s hsm
        have hTb := hlt0.out j (by omega)
        have hnx := hid (fun (u : World) (hu : Hid (MemT gb u gb T1 nb)) (hgu : gb ≤ u.heap.size) => nextT_calls gb gb T1 (by have := hTl1.out.1; omega) nb hWf c n hn s hsn hsB.1 hsB.2 u hu hgu)
        have htk := hid (take_snoc hs.out)
        obtain ⟨sk, sn, sp⟩ := s
        dsimp only at hrg2 hnx
        have hrg3 := hid hrg2
        have z1 : (Tryd.prog.info? 53).map (·.size) = some ([.int .i64 sk, .string sn, .int .i64 sp] : List Value).length := sizeStp
        obtain ⟨W3, hW3⟩ : ∃ W, wr.alloc (.cells #[.int .i64 sk, .string sn, .int .i64 sp] 53) = W := ⟨_, rfl⟩
        have b3 : Below wr.heap.size wr W3 := by rw [← hW3]; exact (Below.refl _ wr).alloc (Nat.le_refl _) _
        have A3 := hid (show At W3 wr.heap.size #[.int .i64 sk, .string sn, .int .i64 sp] 53 by rw [← hW3]; exact At.new _ _ _)
        have B3 := hid (hb.out.trans (b3.mono hb.out.size))
        have M3 := hid (hMt.out.kept b3)
        have gs3 := hid (Nat.le_trans hgs.out b3.size)
        clear hrg2 hg2 hsm hsn hsB hTb b3 hMt hb hgs
        go_wp2_with (first | refine wpList_load_want 53 _ g2 (o2 + j * 3) [.int .i64 sk, .string sn, .int .i64 sp] _ hrg3.out Tryd.underlying53 z1 rfl rfl rfl (by rfl) ?_ | refine wpList_load_want 53 _ wr.heap.size 0 [.int .i64 sk, .string sn, .int .i64 sp] _ (A3.out.range rfl) Tryd.underlying53 z1 rfl rfl rfl (by rfl) ?_ | fail)
        refine Calls.mono (hnx.out _ M3 gs3.out) ?_
        rintro e w4 ⟨⟨r, T2, nb2, rfl, hN2, hM2, hW2, hr2, hle, hge, hnb⟩, b4, s4⟩
        have I2 := hid (show InsS T (p.take (j + 1)) T2 r from by rw [htk.out]; exact InsS.snoc hI.out hN2)
        have M4 := hid hM2
        have W4 := hid hW2
        have T4 := hid (show T2.length ≤ 1 + ((L.take k).map List.length).sum + (j + 1) ∧ r < T2.length ∧ nb2 0 = rb ∧ 0 < T2.length from ⟨by have := hTl1.out.1; omega, hr2, by rw [hnb 0 hTl1.out.2.2.2]; exact hTl1.out.2.2.1, by omega⟩)
        have B4 := hid (B3.out.trans (b4.mono hgw.out))
        have gs4 := hid (Nat.le_trans gs3.out s4)
        clear hN2 hM2 hW2 hr2 hle hge hnb b4 s4 hnx M3 A3 hW3
        go_wp2
        go_roundw
        case rel => exact ⟨j + 1, T2, r, nb2, hj'.out, by simp, rfl, I2, M4, W4, T4, B4, gs4⟩
        case measure => simp [intOf]; have := hj'.out; omega
       ·obtain rfl : M = j := by omega
        have hI2 : InsS T p T1 c := by have h := hI.out; rwa [List.take_of_length_le (by rw [hM.out]; exact Nat.le_refl _)] at h
        obtain ⟨n, hn⟩ : ∃ n, Hid (T1[c]? = some n) := ⟨_, List.getElem?_eq_getElem hTl1.out.2.1⟩
        have hLk : (L.take k).length = k := by rw [List.length_take]; have := hN.out; omega
        have hB2 := hid (BldT.snoc hBl.out hI2 hn.out)
        rw [hLk, ← take_snoc hp.out] at hB2
        have hel : n.ends.length ≤ 256 := by
         have := ins_ends hI2 (bld_ends hBl.out) n (List.mem_of_getElem? hn.out)
         rw [hLk] at this
         omega
        have hW2 := hid (hWf.out.ends hn.out (k := k) (by omega))
        obtain ⟨ln, vl, hR, hZ, v, vv, num, hX⟩ := hMt.out
        obtain ⟨r0, r1, r2⟩ := hR c n hn.out
        have hcT := hTl1.out.2.1
        have o2 := hX.own c 2 hcT (by decide)
        obtain ⟨eo, ec, hv2⟩ := own_shape o2
        obtain ⟨Q, hQ⟩ : ∃ Q, Hid (n.ends.length = Q) := ⟨_, rfl⟩
        rw [r2.1, hQ.out] at hv2
        have hQ2 : ln c 2 = Q := by rw [r2.1, hQ.out]
        have nd := hX.node c hcT
        rw [hv2] at nd
        have d2 := nd.cell 2
        simp only [List.getElem?_toArray, List.getElem?_cons_zero, List.getElem?_cons_succ] at d2
        obtain ⟨c6, hc6⟩ : ∃ c, wr.heap.size = c := ⟨_, rfl⟩
        obtain ⟨W6, hW6⟩ : ∃ W, wr.alloc (.cells #[.int .i64 (k : Int)] 3) = W := ⟨_, rfl⟩
        have b6 : Below wr.heap.size wr W6 := by rw [← hW6]; exact (Below.refl _ wr).alloc (Nat.le_refl _) _
        have C6 : At W6 c6 #[.int .i64 (k : Int)] 3 := by rw [← hW6, ← hc6]; exact At.new _ _ _
        have o26 : W6.ownsRow gb 3 1 (.slice eo Q ec) Q (inC n.ends) := by
         have h3 := (hX.kept b6).own c 2 hcT (by decide)
         rw [hQ2, r2.2, hv2] at h3
         exact h3
        obtain ⟨v7, W7, hr7, ho7, hg7, hv7⟩ := app_gen (B := gb) Tryd.underlying36 infoIn rfl (by decide) o26 ⟨c6, 0, none⟩ 1 [.int .i64 (k : Int)] rfl (fun j u hj => by
         match j, hj with
         | 0, hj => simp at hj; subst hj; simpa [Addr.add] using C6.cell 0
         | j + 1, hj => simp at hj) (by simp [Value.oneCell']) (by have := hQ.out; omega) (by decide) (Nat.le_trans hgs.out b6.size)
        obtain ⟨eo7, ec7, rfl⟩ := own_shape ho7
        have g8 := hX.upd (i := c) (k := 2) (m := 1) hcT (by decide) b6 (v' := .slice eo7 (Q + 1) ec7) (news := [.int .i64 (k : Int)]) (by rw [hQ2, r2.2]; exact ho7) (by rw [hv2]; exact hg7) (by rw [hv2]; exact hv7)
        have n7 := at_grown (nd.keptAll b6) o26 hg7 (by decide)
        have k7 := n7.cell 2
        simp only [List.getElem?_toArray, List.getElem?_cons_zero, List.getElem?_cons_succ] at k7
        have f7 := n7.frozen 2
        have hr7' := hid hr7
        have hlen : (T1.set c ⟨n.steps, n.tos, n.ends ++ [(k : Int)]⟩).length = T1.length := List.length_set
        have M8 : Hid (MemT gb (W7.setCell ⟨nb c, 2, none⟩ (.slice eo7 (Q + 1) ec7)) gb (T1.set c ⟨n.steps, n.tos, n.ends ++ [(k : Int)]⟩) nb) := hid ⟨updF ln c 2 (ln c 2 + 1), updF vl c 2 (vl c 2 ++ [.int .i64 (k : Int)]), fun a m ha => by
         by_cases e : a = c
         ·subst e
          rw [List.getElem?_set_self hcT] at ha
          cases ha
          refine ⟨?_, ?_, ?_, ?_⟩
          ·rw [updF_ne (by omega), updF_ne (by omega)]; exact r0
          ·rw [updF_ne (by omega), updF_ne (by omega)]; exact r1
          ·rw [updF_same, r2.1]; simp
          ·rw [updF_same, r2.2]; simp [inC]
         ·rw [List.getElem?_set_ne (fun h => e h.symm)] at ha
          rw [updF_ne (by omega), updF_ne (by omega), updF_ne (by omega), updF_ne (by omega), updF_ne (by omega), updF_ne (by omega)]
          exact hR a m ha, fun a q ha hq => by
         rw [hlen] at ha
         rw [updF_ne (by omega), updF_ne (by omega)]
         exact hZ a q ha hq, ⟨_, _, _, by rw [hlen]; exact g8⟩⟩
        have hBg := Nat.le_trans hgs.out b6.size
        have x1 : Below gb wr W7 := (b6.mono hgs.out).grown hg7 hBg (fun q hq => (o26.lt q hq).1)
        have x2 := x1.setCell (p := ⟨nb c, 2, none⟩) (hX.nodeB c hcT) (.slice eo7 (Q + 1) ec7)
        have B8 := hid (hb.out.trans (x2.mono hgw.out))
        have gs8 := hid (Nat.le_trans hgs.out x2.size)
        have T8 := hid (show (T1.set c ⟨n.steps, n.tos, n.ends ++ [(k : Int)]⟩).length ≤ 1 + ((L.take (k + 1)).map List.length).sum ∧ 0 < (T1.set c ⟨n.steps, n.tos, n.ends ++ [(k : Int)]⟩).length ∧ nb 0 = rb from by
         rw [hlen]
         have := hTl1.out
         have := hsum.out
         exact ⟨by omega, by omega, hTl1.out.2.2.1⟩)
        clear hr7 ho7 hg7 hv7 g8 n7 o26 C6 b6 nd o2 hX hMt hI hBl hlen x1 x2 hBg hb hgs hI2 hv2
        go_wp2_with (first | (at_builtin; refine wpList_append_run rfl _ _ 36 rfl (.slice eo Q ec) (.slice (some ⟨c6, 0, none⟩) 1 1) (.slice eo7 (Q + 1) ec7) W7 rfl rfl hr7'.out ?_) | fail)
        go_roundw
        case rel => exact ⟨k + 1, _, nb, hk'.out, by simp, hB2, M8, hW2, T8, B8, gs8⟩
        case measure => simp [intOf]; have := hk'.out; omega
     ·obtain rfl : N = k := by omega
      have hB2 : Hid (BldT L T) := hid (by have h := hBl.out; rwa [List.take_of_length_le (by rw [hN.out]; exact Nat.le_refl _)] at h)
      obtain ⟨ln, vl, hR, hZ, hG⟩ := hMt.out
      have hTb : T.length ≤ 1048576 := by
       have h1 := sum_take2 L N
       have h2 := hm.out.1
       have := hTl.out.1
       omega
      obtain ⟨Q, hQ⟩ : ∃ Q, Hid (T.length = Q) := ⟨_, rfl⟩
      have hnum := hid (numbered23_calls gb gb T Q hQ (by rw [← hQ.out]; exact hTb) (hid hWf.out.1) nb ln vl (hid hR) wr (hid (by rw [← hQ.out]; exact hG)) hgs.out)
      clear hBl hMt hG hR hZ
      go_wp2_with fail
      refine Calls.mono hnum.out ?_
      rintro e w5 ⟨⟨tb, rfl, hnd⟩, b5⟩
      have B5 := hid (hb.out.trans (b5.mono hgw.out))
      have hnd' := hid hnd
      clear hnum hnd b5
      go_wp2
      refine bodyPost_ret (v := .tuple #[.slice (some ⟨tb, 0, none⟩) Q Q, .int .i64 0]) (by simp [results, Tryd.results9, go_sem]) rfl ?_
      exact ⟨⟨some ⟨tb, 0, none⟩, Q, T, 0, by rw [hQ.out], hnd'.out, .inr (.inr ⟨h256'.out, hall2.out, hB2.out, rfl⟩)⟩, B5.out⟩
end Go.Proofs.YtbabdhepnjacdaaDoor
