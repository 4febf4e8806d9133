/-
 Paths that come in; the law TrieBack, walked.
-/
import Derived.Test.YtbabdhepnjacdaaDoorTjE
namespace Go.Proofs.YtbabdhepnjacdaaDoor
open Go.ChangeShapes Go.WideShapes Go.ChangeAt Go.RowKit Go.Shelf
set_option maxRecDepth 100000
theorem bulk_pos {H : Type} (d : DataW H) : 1 ≤ Rows.uptoBulk d := by
 unfold Rows.uptoBulk
 split <;> omega
def bkP (p : List Stp) : Nat := max 1 ((p.map fun s => s.name.size + 4).sum)
theorem bkP_len : ∀ p : List Stp, p.length * 4 ≤ (p.map fun s => s.name.size + 4).sum
 | [] => by simp
 | s :: p => by
  have := bkP_len p
  rw [List.length_cons, List.map_cons, List.sum_cons]
  omega
theorem sum_le {α : Type} (f g : α → Nat) (h : ∀ a, f a ≤ g a) : ∀ L : List α, (L.map f).sum ≤ (L.map g).sum
 | [] => Nat.le_refl _
 | x :: L => by
  have := sum_le f g h L
  have := h x
  rw [List.map_cons, List.sum_cons, List.map_cons, List.sum_cons]
  omega
theorem midP_bk {L : List (List Stp)} (h : (L.map bkP).sum ≤ 1048576) (hB : ∀ p ∈ L, stpB p) : L.length ≤ 1048576 ∧ MidP L := by
 refine ⟨Nat.le_trans (sum_len bkP (fun p => Nat.le_max_left _ _) L) h, ?_, fun p hp s hs => ?_, hB⟩
 ·have h1 : (L.map fun p => p.length * 4).sum ≤ (L.map bkP).sum := sum_le _ _ (fun p => Nat.le_trans (bkP_len p) (Nat.le_max_right _ _)) L
  have h2 : (L.map fun p => p.length * 4).sum = (L.map List.length).sum * 4 := by
   clear h h1 hB
   induction L with
   | nil => rfl
   | cons p L ih => rw [List.map_cons, List.sum_cons, ih, List.map_cons, List.sum_cons]; omega
  omega
 ·have h1 := sum_mem bkP hp
  have h2 := sum_mem (fun s : Stp => s.name.size + 4) hs
  have h3 : (p.map fun s => s.name.size + 4).sum ≤ bkP p := Nat.le_max_right _ _
  omega
section
variable {H : Type} {enc : TypeId × Value → H} {w : World} {base : Nat} {spare : Nat → Bool} {held : Bool}
theorem open_pthsU {r : Reach} {b0 : Nat} {v : Value} {d : DataW H} {ps : List MemPlace} (hval : Value.okWide Tryd.prog w r b0 22 v) (hd : DataW.Trod enc Tryd.prog w base spare held 22 v d ps) (hwt : Rows.uptoBulk d ≤ 1048576) :
  ∃ (ao : Option Addr) (cap : Nat) (L : List (List Stp)), v = .slice ao L.length cap ∧ L.length ≤ 1048576 ∧ MidP L ∧ PthsAt w ao L := by
 obtain ⟨ao, len, cap, rfl⟩ := okWide_slice Tryd.underlying22 hval
 obtain ⟨fuel, hf⟩ := hd
 have hf' : DataW.trod enc Tryd.prog w base spare held fuel 22 [.slice ao len cap] = some (d, ps) := by simpa [Value.cells] using hf
 obtain ⟨ao, cap, L, e, hs, hall⟩ := open_listG (α := List Stp) (te := 45) (sz := 1) Tryd.underlying22 cellsSs22 Nat.one_pos bkP (fun p cs => (∃ so sc, cs = [.slice so p.length sc] ∧ StepsAt w so p) ∧ stpB p) (fun {m cs y} h hb hl => by
  obtain ⟨c0, rfl⟩ : ∃ c, cs = [c] := by
   match cs, hl with
   | [c], _ => exact ⟨c, rfl⟩
  obtain ⟨so, sc, p, rfl, h1, h2, h3⟩ := open_stpsZ h hb
  exact ⟨p, ⟨⟨so, sc, rfl, h3⟩, h2⟩, Nat.max_le.2 ⟨bulk_pos _, h1⟩⟩) hf' hwt
 have hB : ∀ p ∈ L, stpB p := fun p hp => by
  obtain ⟨i, hi, e⟩ := List.mem_iff_getElem.1 hp
  obtain ⟨b, off, cs, -, -, -, -, -, h4⟩ := hall i p (by rw [List.getElem?_eq_getElem hi, e])
  exact h4
 obtain ⟨h1, h2⟩ := midP_bk (Nat.le_trans hs hwt) hB
 refine ⟨ao, cap, L, e, h1, h2, fun i p hi => ?_⟩
 obtain ⟨b, off, cs, g1, g2, -, g3, ⟨so, sc, rfl, g4⟩, -⟩ := hall i p hi
 refine ⟨b, off, so, sc, g1, g2, ?_, g4⟩
 have := g3 0 _ rfl
 rwa [show off + i * 1 + 0 = off + i by omega] at this
end
theorem bld_mid {L : List (List Stp)} {T : List Nod} (h : BldT L T) (hm : MidP L) (hL : L.length ≤ 256) : Mid T ∧ ∀ n ∈ T, ∀ s ∈ n.steps, s.name.size ≤ 1048576 := by
 have hI := h.inv (Q := fun s => s.name.size ≤ 1048576) hm.2.1
 have h1 := bld_len h
 have h2 := hm.1
 have h3 := hI.len
 have h4 : (enA T).length = L.length := by rw [hI.end_.length_eq]; simp
 refine ⟨⟨by omega, by omega, by omega, fun n hn => ?_⟩, hI.q⟩
 have h5 := (hI.nd n hn).1
 obtain ⟨i, hi, e⟩ := List.mem_iff_getElem.1 hn
 have h6 := (flat_pre Nod.tos (t := T) (i := i) (n := n) (by rw [List.getElem?_eq_getElem hi, e]) n.tos.length).length_le
 rw [List.length_append, List.take_length] at h6
 unfold toA at h3
 omega
set_option maxRecDepth 10000 in
set_option maxHeartbeats 8000000 in
theorem trieBack_walk (ao : Option Addr) (cap : Nat) (L : List (List Stp)) (hl : L.length ≤ 1048576) (hm : MidP L) (w : World) (hT : TabU w) (hk : PthsAt w ao L) :
  Calls Tryd.prog 6 #[.slice ao L.length cap] w fun e w' => e = .returned (.bool true) ∧ Below w.heap.size w w' := by
 obtain ⟨N, hN⟩ : ∃ N, Hid (L.length = N) := ⟨_, rfl⟩
 rw [hN.out]
 rw [hN.out] at hl
 have hNi : (N : Int) ≤ 1048576 := by omega
 have hm' := hid hm
 have hT' := hid hT
 have hk' := hid hk
 have haw := hid (awake23_calls w (hid hT))
 have hbl := hid (fun (u : World) (hu : Below w.heap.size w u) => build23_calls L ao N cap hN hl (hid hm) u (hid (hk'.out.kept hu)) (hid (hT'.out.below hu)))
 have hplen := hid (fun (i : Nat) (p : List Stp) (hp : L[i]? = some p) => (show p.length ≤ 1048576 by
  have h1 := sum_take2 L (i + 1)
  have h2 := hm.1
  rw [List.take_add_one, hp] at h1
  simp at h1
  omega))
 clear hm hT hk
 go_enter Tryd.func6, Tryd.ntmps6
 go_wp2_with fail
 refine Calls.mono haw.out ?_
 rintro e w1 ⟨rfl, b1⟩
 have B1 := hid b1
 clear b1 haw
 go_wp2_with fail
 refine Calls.mono (hbl.out _ B1.out) ?_
 rintro e w2 ⟨⟨ro, rc, T, E, rfl, hnd, hI⟩, b2⟩
 have B2 := hid (B1.out.trans (b2.mono B1.out.size))
 have hnd' := hid hnd
 clear b2 hbl hnd
 have bad : ∀ (E : Int), E ≠ 0 → (E = 1 ∨ E = 2) → (E = 2 → 256 < N) → (E = 1 → N ≤ 256 ∧ ∃ p ∈ L, p.all fmS = false) → T = [] → IsBld L T E → True := fun _ _ _ _ _ _ _ => trivial
 clear bad
 rcases hI with ⟨h1, rfl, rfl⟩ | ⟨h1, h2, rfl, rfl⟩ | ⟨h1, h2, h3, rfl⟩
 ·have hN256 : decide ((256 : Int) < (N : Int)) = true := decide_eq_true (by rw [hN.out] at h1; omega)
  have hN256' : decide (256 < N) = true := decide_eq_true (by rw [hN.out] at h1; omega)
  clear h1
  rw [show ([] : List Nod).length = 0 from rfl]
  go_wp2
  go_loopw [5, 6] (fun bb ii wr => ∃ (i : Nat) (b : Bool), i ≤ N ∧ ii = .int .i64 (i : Int) ∧ bb = .bool b ∧ Hid (Below w.heap.size w wr)) (fun _ ii _ => N - (intOf ii).toNat)
  case atStart => exact ⟨0, false, Nat.zero_le _, rfl, rfl, B2⟩
  case round =>
   obtain ⟨i, b, hi, rfl, rfl, hb⟩ := hrel
   by_cases hlt : i < N
   ·have hli : (i : Int) < (N : Int) := by omega
    have hi' := hid (show i + 1 ≤ N by omega)
    obtain ⟨p, hp⟩ : ∃ p, Hid (L[i]? = some p) := ⟨_, List.getElem?_eq_getElem (by rw [hN.out]; exact hlt)⟩
    obtain ⟨g, o, so, sc, rfl, hst, hcl⟩ := pths_at hk'.out hp.out
    have cp := hcl wr hb.out
    have ad1 : (⟨g, o, none⟩ : Addr).add i = ⟨g, o + i, none⟩ := by by_cases h : i = 0 <;> simp [Addr.add, h]
    obtain ⟨M, hM⟩ : ∃ M, Hid (p.length = M) := ⟨_, rfl⟩
    have hpl := hplen.out i p hp.out
    rw [hM.out] at cp hpl
    have hf := hid (formedL_calls p so M sc hM (by omega) wr (hid (hst.kept hb.out)) (hid (hT'.out.below hb.out)))
    obtain ⟨F, hF⟩ : ∃ F, p.all fmS = F := ⟨_, rfl⟩
    rw [hF] at hf
    clear hst hcl hF hpl
    cases b with
    | true =>
     go_wp2
     go_roundw
     case rel => exact ⟨i + 1, true, hi'.out, by simp, rfl, hb⟩
     case measure => simp [intOf]; have := hi'.out; omega
    | false =>
     go_wp2_with fail
     refine Calls.mono hf.out ?_
     rintro e w3 ⟨rfl, b3⟩
     have B3 := hid (hb.out.trans (b3.mono hb.out.size))
     clear b3 hf
     go_wp2
     go_roundw
     case rel => exact ⟨i + 1, !F, hi'.out, by simp, rfl, B3⟩
     case measure => simp [intOf]; have := hi'.out; omega
   ·obtain rfl : N = i := by omega
    go_wp2
    go_ret
    exact ⟨rfl, hb.out⟩
 ·have hN256 : decide ((N : Int) ≤ 256) = true := decide_eq_true (by rw [hN.out] at h1; omega)
  have hN256' : decide (N ≤ 256) = true := decide_eq_true (by rw [hN.out] at h1; omega)
  have hbad := hid h2
  clear h1 h2
  rw [show ([] : List Nod).length = 0 from rfl]
  go_wp2
  go_loopw [5, 6] (fun bb ii wr => ∃ (i : Nat) (b : Bool), i ≤ N ∧ ii = .int .i64 (i : Int) ∧ bb = .bool b ∧ Hid (b = true ∨ ∀ p ∈ L.take i, p.all fmS = true) ∧ Hid (Below w.heap.size w wr)) (fun _ ii _ => N - (intOf ii).toNat)
  case atStart => exact ⟨0, false, Nat.zero_le _, rfl, rfl, hid (.inr (by simp)), B2⟩
  case round =>
   obtain ⟨i, b, hi, rfl, rfl, hbb, hb⟩ := hrel
   by_cases hlt : i < N
   ·have hli : (i : Int) < (N : Int) := by omega
    have hi' := hid (show i + 1 ≤ N by omega)
    obtain ⟨p, hp⟩ : ∃ p, Hid (L[i]? = some p) := ⟨_, List.getElem?_eq_getElem (by rw [hN.out]; exact hlt)⟩
    obtain ⟨g, o, so, sc, rfl, hst, hcl⟩ := pths_at hk'.out hp.out
    have cp := hcl wr hb.out
    have ad1 : (⟨g, o, none⟩ : Addr).add i = ⟨g, o + i, none⟩ := by by_cases h : i = 0 <;> simp [Addr.add, h]
    obtain ⟨M, hM⟩ : ∃ M, Hid (p.length = M) := ⟨_, rfl⟩
    have hpl := hplen.out i p hp.out
    rw [hM.out] at cp hpl
    have hf := hid (formedL_calls p so M sc hM (by omega) wr (hid (hst.kept hb.out)) (hid (hT'.out.below hb.out)))
    obtain ⟨F, hF⟩ : ∃ F, p.all fmS = F := ⟨_, rfl⟩
    rw [hF] at hf
    have hF' := hid hF
    have htk := hid (take_snoc hp.out)
    clear hst hcl hF hpl
    cases b with
    | true =>
     go_wp2
     go_roundw
     case rel => exact ⟨i + 1, true, hi'.out, by simp, rfl, hid (.inl rfl), hb⟩
     case measure => simp [intOf]; have := hi'.out; omega
    | false =>
     have hnx : Hid ((!F) = true ∨ ∀ p ∈ L.take (i + 1), p.all fmS = true) := hid (by
      cases F with
      | false => exact .inl rfl
      | true =>
       refine .inr (fun q hq => ?_)
       rw [htk.out] at hq
       rcases List.mem_append.1 hq with h | h
       ·rcases hbb.out with h' | h'
        ·cases h'
        ·exact h' q h
       ·obtain rfl := List.mem_singleton.1 h; exact hF'.out)
     go_wp2_with fail
     refine Calls.mono hf.out ?_
     rintro e w3 ⟨rfl, b3⟩
     have B3 := hid (hb.out.trans (b3.mono hb.out.size))
     clear b3 hf
     go_wp2
     go_roundw
     case rel => exact ⟨i + 1, !F, hi'.out, by simp, rfl, hnx, B3⟩
     case measure => simp [intOf]; have := hi'.out; omega
   ·obtain rfl : N = i := by omega
    have hbt : b = true := by
     rcases hbb.out with h | h
     ·exact h
     ·obtain ⟨p, h3, h4⟩ := hbad.out
      rw [List.take_of_length_le (by rw [hN.out]; exact Nat.le_refl _)] at h
      rw [h p h3] at h4
      cases h4
    subst hbt
    go_wp2
    go_ret
    exact ⟨rfl, hb.out⟩
 ·have hmid := bld_mid h3 hm'.out h1
  have hfrm := h3.frm h1 h2
  have hpth := hid (h3.isPths h1 h2)
  have hlen := hid (bld_len h3)
  have hmid1 := hid hmid.1
  have hmid2 := hid hmid.2
  have hfrm' := hid hfrm
  obtain ⟨K, hK⟩ : ∃ K, Hid (T.length = K) := ⟨_, rfl⟩
  have hKb : K ≤ 1048576 := by have := hmid.1.1; have := hK.out; omega
  have hKi : (K : Int) ≤ 1048576 := by omega
  have hN256 : decide ((N : Int) ≤ 256) = true := decide_eq_true (by rw [hN.out] at h1; omega)
  have hN256' : decide (N ≤ 256) = true := decide_eq_true (by rw [hN.out] at h1; omega)
  rw [hK.out]
  clear hmid hfrm h1 h2 h3
  go_wp2
  go_loopw [7, 8] (fun ss ii wr => ∃ (i c : Nat), i ≤ N ∧ ii = .int .i64 (i : Int) ∧ ss = .int .i64 (c : Int) ∧ c ≤ 1048571 ∧ Hid (c = 1 + ((L.take i).map List.length).sum) ∧ Hid (Below w2.heap.size w2 wr)) (fun _ ii _ => N - (intOf ii).toNat)
  case atStart => exact ⟨0, 1, Nat.zero_le _, rfl, rfl, by omega, hid (by simp), hid (Below.refl _ _)⟩
  case round =>
   obtain ⟨i, c, hi, rfl, rfl, hcb, hc, hb⟩ := hrel
   by_cases hlt : i < N
   ·have hli : (i : Int) < (N : Int) := by omega
    have hi' := hid (show i + 1 ≤ N by omega)
    obtain ⟨p, hp⟩ : ∃ p, Hid (L[i]? = some p) := ⟨_, List.getElem?_eq_getElem (by rw [hN.out]; exact hlt)⟩
    obtain ⟨g, o, so, sc, rfl, -, hcl⟩ := pths_at hk'.out hp.out
    have cp := hcl wr (B2.out.trans (hb.out.mono B2.out.size))
    have ad1 : (⟨g, o, none⟩ : Addr).add i = ⟨g, o + i, none⟩ := by by_cases h : i = 0 <;> simp [Addr.add, h]
    obtain ⟨M, hM⟩ : ∃ M, Hid (p.length = M) := ⟨_, rfl⟩
    rw [hM.out] at cp
    have hc2 : Hid (c + M = 1 + ((L.take (i + 1)).map List.length).sum) := hid (by
     rw [List.take_add_one, hp.out, Option.toList_some, List.map_append, List.sum_append, List.map_cons, List.map_nil, List.sum_cons, List.sum_nil, hM.out]
     have := hc.out
     omega)
    have hc3 : c + M ≤ 1048571 := by have h1 := sum_take2 L (i + 1); have h2 := hm'.out.1; have := hc2.out; omega
    have hc4 : (c : Int) + (M : Int) ≤ 1048571 := by omega
    have hc3' := hid hc3
    clear hcl hc
    go_wp2
    go_roundw
    case rel => exact ⟨i + 1, c + M, hi'.out, by simp, by simp, hc3'.out, hc2, hb⟩
    case measure => simp [intOf]; have := hi'.out; omega
   ·obtain rfl : N = i := by omega
    have hcs : c = 1 + (L.map List.length).sum := by have h := hc.out; rwa [List.take_of_length_le (by rw [hN.out]; exact Nat.le_refl _)] at h
    have hKc : decide ((K : Int) ≤ (c : Int)) = true := decide_eq_true (by have := hlen.out; have := hK.out; omega)
    have hKc' : decide (K ≤ c) = true := decide_eq_true (by have := hlen.out; have := hK.out; omega)
    have hpa := hid (fun (u : World) (hu : Below w2.heap.size w2 u) => paths23_calls T ro K rc hK hmid1 hmid2 u (hid (hnd'.out.kept hu)) (hid (hT'.out.below (B2.out.trans (hu.mono B2.out.size)))))
    have hfo := hid (fun (u : World) (hu : Below w2.heap.size w2 u) => formed23_calls T ro K rc hK hmid1 true (hid (by simp [hfrm'.out])) u (hid (hnd'.out.kept hu)) (hid (hT'.out.below (B2.out.trans (hu.mono B2.out.size)))))
    clear hnd' hlen hc hcs
    go_wp2_with fail
    refine Calls.mono (hpa.out _ hb.out) ?_
    rintro e w4 ⟨⟨r4, c4, L4, E4, rfl, hp4, hI4⟩, b4⟩
    obtain ⟨rfl, rfl⟩ := hI4.uniq hpth.out
    have B4 := hid (hb.out.trans (b4.mono hb.out.size))
    have hp4' := hid hp4
    have hll := isPths_len hI4 hmid1.out.1
    have hll2 := hid hll.2
    rw [hN.out]
    clear b4 hpa hp4 hI4 hll
    go_wp2_with fail
    refine Calls.mono (hfo.out _ B4.out) ?_
    rintro e w5 ⟨rfl, b5⟩
    have B5 := hid (B4.out.trans (b5.mono B4.out.size))
    have Bw5 := hid (B2.out.trans (B5.out.mono B2.out.size))
    have hsa := hid (samePaths_calls L4 r4 ao N c4 cap hN (by omega) hll2 w5 (hid (hp4'.out.kept b5)) (hid (hk'.out.kept Bw5.out)))
    clear b5 hfo hp4'
    go_wp2_with fail
    refine Calls.mono hsa.out ?_
    rintro e w6 ⟨rfl, b6⟩
    have B6 := hid (Bw5.out.trans (b6.mono Bw5.out.size))
    clear b6 hsa
    go_wp2
    go_ret
    exact ⟨rfl, B6.out⟩
end Go.Proofs.YtbabdhepnjacdaaDoor
