/-
 quarryref23.Build.
-/
import Derived.Test.YtbabdhepnjacdaaDoorTjN
namespace Go.Proofs.YtbabdhepnjacdaaDoor
open Go.ChangeShapes Go.WideShapes Go.ChangeAt Go.RowKit Go.Shelf
section
variable {B K : Nat} {w w' : World} {v : Value} {T : List Nod}
theorem RfT.add (h : RfT B w v T) {w1 : World} (hb : Below w.heap.size w w1) (hB : B ≤ w.heap.size) {b : Nat} (hC : At w1 b #[.slice none 0 0, .slice none 0 0, .slice none 0 0] 50) (hlt : T.length < 1099511627776) :
  ∃ so sc W', (∀ ty, (Builtin.append_ #[23, 23] ty #[v, .slice (some ⟨b, 0, none⟩) 1 1]).run Tryd.prog w1 = .ok (.slice so (T.length + 1) sc) W') ∧ RfT B W' (.slice so (T.length + 1) sc) (T ++ [nulN]) ∧ Below B w1 W' := by
 obtain ⟨ln, vl, vv, h1, h2⟩ := h
 have hB1 := Nat.le_trans hB hb.size
 have hrow := (h2.kept hb).row
 obtain ⟨i0, hi, hz0, hz1, hz2⟩ := info_partsV infoNd
 obtain ⟨v', W', hr0, ho, hgg⟩ := appendV (P := Tryd.prog) (ty := 0) Tryd.underlying23 hi hz0 hz1 hz2 rfl (by decide) hrow ⟨b, 0, none⟩ 1 1 [.slice none 0 0, .slice none 0 0, .slice none 0 0] rfl (fun j u hj => by
  have e : (⟨b, 0, none⟩ : Addr).add j = ⟨b, j, none⟩ := by by_cases h : j = 0 <;> simp [Addr.add, h]
  rw [e, hC.cell j]
  simpa using hj) (by simp [Value.oneCell']) (by unfold maxLen; omega) (by omega) hB1
 have hg : w1.grownBy W' v.ownBlock := by
  rcases hgg with ⟨g, cap, rfl, rfl, hg⟩ | ⟨-, hg⟩
  ·exact hg
  ·exact grown_weaken hg
 have hr : ∀ ty, (Builtin.append_ #[23, 23] ty #[v, .slice (some ⟨b, 0, none⟩) 1 1]).run Tryd.prog w1 = .ok v' W' := fun ty => by rw [append_tyZ _ ty 0]; exact hr0
 obtain ⟨so, sc, rfl⟩ := own_shape ho
 refine ⟨so, sc, W', hr, ⟨ln, vl, vNil vv T.length, h1.add, ?_⟩, (Below.refl _ w1).grown hg hB1 (fun q hq => (hrow.lt q hq).1)⟩
 rw [List.length_append, List.length_singleton]
 exact h2.add hb ho hg (fun k hk => (h1.2 _ k (Nat.le_refl _) hk).1) (fun k hk => (h1.2 _ k (Nat.le_refl _) hk).2)
theorem RfT.one {b : Nat} (hC : At w b #[.slice none 0 0, .slice none 0 0, .slice none 0 0] 50) (hB : B ≤ b) : RfT B w (.slice (some ⟨b, 0, none⟩) 1 1) [nulN] := by
 refine ⟨fun _ _ => 0, fun _ _ => [], fun _ _ => .slice none 0 0, ⟨fun a n hn k hk => ?_, fun a k _ _ => ⟨rfl, rfl⟩⟩, ⟨⟨rfl, .inr ⟨b, 1, _, rfl, hB, hC, Nat.le_refl _, by decide, rfl, rfl⟩⟩, fun i k _ hk => World.ownsRow_nil _ _ _ _, fun i j k l _ _ _ _ _ g hg => by cases hg⟩⟩
 match a, hn with
 | 0, hn =>
  simp at hn
  subst hn
  match k, hk with
  | 0, _ => exact ⟨rfl, rfl⟩
  | 1, _ => exact ⟨rfl, rfl⟩
  | 2, _ => exact ⟨rfl, rfl⟩
 | a + 1, hn => simp at hn
end
def QsB (s : Stp) : Prop := s.name.size ≤ 1048576 ∧ i64B s.kind ∧ i64B s.place
theorem mid_qs {L : List (List Stp)} (hm : MidP L) : ∀ p ∈ L, ∀ s ∈ p, QsB s := fun p hp s hs => ⟨hm.2.1 p hp s hs, hm.2.2 p hp s hs⟩
/-- What is known of each node, so that it can be read. -/
theorem inv_good {T : List Nod} {k : Nat} (hI : Inv QsB T k) (hT : T.length ≤ 1073741824) (hk : k ≤ 1073741824) {c : Nat} {n : Nod} (hn : T[c]? = some n) : (∀ s ∈ n.steps, s.name.size ≤ capT) ∧ (∀ x ∈ n.tos, i64B x) ∧ (∀ x ∈ n.ends, i64B x) ∧ stpB n.steps ∧ n.steps.length ≤ T.length ∧ n.ends.length ≤ k := by
 have hm := List.mem_of_getElem? hn
 refine ⟨fun s hs => ?_, fun x hx => ?_, fun x hx => ?_, fun s hs => (hI.q n hm s hs).2, ?_, ?_⟩
 ·have := (hI.q n hm s hs).1
  unfold capT
  omega
 ·have := hI.ok c n hn x hx
  unfold i64B
  omega
 ·have h1 : x ∈ enA T := List.mem_flatMap.2 ⟨n, hm, hx⟩
  rw [hI.end_.mem_iff, List.mem_map] at h1
  obtain ⟨i, hi, rfl⟩ := h1
  have := List.mem_range.1 hi
  unfold i64B
  omega
 ·have h5 := (hI.nd n hm).1
  have h6 := (flat_pre Nod.tos hn n.tos.length).length_le
  rw [List.length_append, List.take_length] at h6
  have h7 := hI.len
  unfold toA at h7
  omega
 ·have h6 := (flat_pre Nod.ends hn n.ends.length).length_le
  rw [List.length_append, List.take_length] at h6
  have h7 := hI.end_.length_eq
  simp at h7
  unfold enA at h7
  omega
theorem RfT.nodes {B K cap : Nat} {w : World} {ro : Option Addr} {T : List Nod} {k : Nat} (h : RfT B w (.slice ro K cap) T) (hK : T.length = K) (h0 : 0 < K) (hI : Inv QsB T k) (hT : T.length ≤ 1073741824) (hk : k ≤ 1073741824) : NodesAt w ro T := by
 obtain ⟨g, cap', e⟩ := h.shape (by omega)
 cases e
 intro i n hn
 obtain ⟨g1, g2, g3, g4, -⟩ := inv_good hI hT hk hn
 obtain ⟨sa, sc, ta, tc, ea, ec, h1, h2, h3, h4, h5⟩ := h.node rfl hn g1 g2 g3
 exact ⟨g, 0, _, rfl, h5, by rw [Nat.zero_add]; exact h1, sa, sc, ta, tc, ea, ec, rfl, h2, g4, h3, h4⟩
set_option maxRecDepth 10000 in
set_option maxHeartbeats 8000000 in
theorem buildR23_calls (L : List (List Stp)) (ao : Option Addr) (N cap : Nat) (hN : Hid (L.length = N)) (hNb : N ≤ 1048576) (hm : Hid (MidP L)) (w : World) (hk : Hid (PthsAt w ao L)) :
  Calls Tryd.prog 14 #[.slice ao N cap] w fun e w' => (∃ ro rc T E, e = .returned (.tuple #[.slice ro (T : List Nod).length rc, .int .i64 E]) ∧ NodesAt w' ro T ∧ IsBld L T E) ∧ Below w.heap.size w w' := by
 have hNi : (N : Int) ≤ 1048576 := by omega
 have hplen := hid (fun (i : Nat) (p : List Stp) (hp : L[i]? = some p) => (show p.length ≤ 1048576 by
  have h1 := sum_take2 L (i + 1)
  have h2 := hm.out.1
  rw [List.take_add_one, hp] at h1
  simp at h1
  omega))
 go_enter Tryd.func14, Tryd.ntmps14
 by_cases h256 : 256 < N
 ·have f1 : decide ((256 : Int) < (N : Int)) = true := decide_eq_true (by omega)
  have f2 : decide (256 < N) = true := decide_eq_true h256
  have hb := hid (show 256 < L.length by rw [hN.out]; exact h256)
  go_wp2
  refine bodyPost_ret (v := .tuple #[.slice none 0 0, .int .i64 2]) (by simp [results, Tryd.results14, go_sem]) rfl ?_
  exact ⟨⟨none, 0, [], 2, rfl, fun i x h => by simp at h, .inl ⟨hb.out, rfl, rfl⟩⟩, Below.refl _ _⟩
 ·have f1 : decide ((256 : Int) < (N : Int)) = false := decide_eq_false (by omega)
  have f2 : decide (256 < N) = false := decide_eq_false h256
  have h256' := hid (show L.length ≤ 256 by have := hN.out; omega)
  go_wp2
  go_loopw [4] (fun ii wr => ∃ i : Nat, i ≤ N ∧ ii = .int .i64 (i : Int) ∧ Hid (∀ p ∈ L.take i, p.all fmS = true) ∧ Hid (Below w.heap.size w wr)) (fun ii _ => N - (intOf ii).toNat)
  case atStart => exact ⟨0, Nat.zero_le _, rfl, hid (by simp), hid (Below.refl _ _)⟩
  case round =>
   obtain ⟨i, hi, rfl, hall, hb⟩ := hrel
   by_cases hlt : i < N
   ·have hli : (i : Int) < (N : Int) := by omega
    have hi' := hid (show i + 1 ≤ N by omega)
    obtain ⟨p, hp⟩ : ∃ p, Hid (L[i]? = some p) := ⟨_, List.getElem?_eq_getElem (by rw [hN.out]; exact hlt)⟩
    obtain ⟨g, o, so, sc, rfl, hst, hcl⟩ := pths_at hk.out hp.out
    have cp := hcl wr hb.out
    have ad1 : (⟨g, o, none⟩ : Addr).add i = ⟨g, o + i, none⟩ := by by_cases h : i = 0 <;> simp [Addr.add, h]
    have hpl := hplen.out i p hp.out
    obtain ⟨M, hM⟩ : ∃ M, Hid (p.length = M) := ⟨_, rfl⟩
    rw [hM.out] at cp hpl
    have hf := hid (formedR22_calls p so M sc hM (by omega) (hid (fun s hs => by have := hm.out.2.1 p (List.mem_of_getElem? hp.out) s hs; omega)) wr (hid (hst.kept hb.out)))
    obtain ⟨F, hF⟩ : ∃ F, p.all fmS = F := ⟨_, rfl⟩
    rw [hF] at hf
    have hF' := hid hF
    have htk := hid (take_snoc hp.out)
    clear hst hcl hF hpl
    go_wp2_with fail
    refine Calls.mono hf.out ?_
    rintro e w2 ⟨rfl, b2⟩
    have B2 := hid (hb.out.trans (b2.mono hb.out.size))
    clear b2 hf
    cases F with
    | false =>
     have hbad := hid (show ∃ p ∈ L, p.all fmS = false from ⟨p, List.mem_of_getElem? hp.out, hF'.out⟩)
     go_wp2
     refine bodyPost_ret (v := .tuple #[.slice none 0 0, .int .i64 1]) (by simp [results, Tryd.results14, go_sem]) rfl ?_
     exact ⟨⟨none, 0, [], 1, rfl, fun i x h => by simp at h, .inr (.inl ⟨h256'.out, hbad.out, rfl, rfl⟩)⟩, B2.out⟩
    | true =>
     have hall2 : Hid (∀ p ∈ L.take (i + 1), p.all fmS = true) := hid (fun q hq => by
      rw [htk.out] at hq
      rcases List.mem_append.1 hq with h | h
      ·exact hall.out q h
      ·obtain rfl := List.mem_singleton.1 h; exact hF'.out)
     clear hall
     go_wp2
     go_roundw
     case rel => exact ⟨i + 1, hi'.out, by simp, hall2, B2⟩
     case measure => simp [intOf]; have := hi'.out; omega
   ·obtain rfl : N = i := by omega
    have hall2 : Hid (∀ p ∈ L, p.all fmS = true) := hid (by
     have h := hall.out
     rwa [List.take_of_length_le (by rw [hN.out]; exact Nat.le_refl _)] at h)
    clear hall
    obtain ⟨gb, hgb⟩ : ∃ gb, wr.heap.size = gb := ⟨_, rfl⟩
    obtain ⟨W1, hW1⟩ : ∃ W, wr.alloc (.cells #[.slice none 0 0, .slice none 0 0, .slice none 0 0] 50) = W := ⟨_, rfl⟩
    have b1 : Below wr.heap.size wr W1 := by rw [← hW1]; exact (Below.refl _ wr).alloc (Nat.le_refl _) _
    have A1 : At W1 gb #[.slice none 0 0, .slice none 0 0, .slice none 0 0] 50 := by rw [← hW1, ← hgb]; exact At.new _ _ _
    have B1 := hid (hb.out.trans (b1.mono hb.out.size))
    have hgw : Hid (w.heap.size ≤ gb) := hid (by rw [← hgb]; exact hb.out.size)
    have hgs1 : Hid (gb ≤ W1.heap.size) := hid (Nat.le_of_lt A1.lt)
    have R1 := hid (RfT.one A1 (Nat.le_refl gb))
    clear b1 A1 hb
    go_wp2
    clear hW1 hgb
    go_loopw [5, 6] (fun vv ii wr => ∃ (k : Nat) (v : Value) (T : List Nod), k ≤ N ∧ ii = .int .i64 (k : Int) ∧ v = vv ∧ Hid (BldT (L.take k) T) ∧ Hid (RfT gb wr v T) ∧ Hid (Below w.heap.size w wr) ∧ Hid (gb ≤ wr.heap.size)) (fun _ ii _ => N - (intOf ii).toNat)
    case atStart => exact ⟨0, _, [nulN], Nat.zero_le _, rfl, rfl, hid (by rw [List.take_zero]; exact .nil), R1, B1, hgs1⟩
    case round =>
     clear B1 hgs1
     obtain ⟨k, v, T, hkN, rfl, rfl, hBl, hR, hb, hgs⟩ := hrel
     have hInv := hid (hBl.out.inv (Q := QsB) (fun p hp s hs => mid_qs hm.out p (List.mem_of_mem_take hp) s hs))
     have hklen : Hid ((L.take k).length = k) := hid (by rw [List.length_take]; have := hN.out; omega)
     rw [hklen.out] at hInv
     by_cases hlt : k < N
     ·have hli : (k : Int) < (N : Int) := by omega
      have hk' := hid (show k + 1 ≤ N by omega)
      obtain ⟨p, hp⟩ : ∃ p, Hid (L[k]? = some p) := ⟨_, List.getElem?_eq_getElem (by rw [hN.out]; exact hlt)⟩
      obtain ⟨g4, o4, so5, sc5, rfl, hst, hcl⟩ := pths_at hk.out hp.out
      have hpl := hplen.out k p hp.out
      obtain ⟨M, hM⟩ : ∃ M, Hid (p.length = M) := ⟨_, rfl⟩
      rw [hM.out] at hcl hpl
      have hMi : (M : Int) ≤ 1048576 := by omega
      have hcl' := hid hcl
      have hst' := hid hst
      have hpq := hid (fun s hs => mid_qs hm.out p (List.mem_of_getElem? hp.out) s hs)
      have ad1 : (⟨g4, o4, none⟩ : Addr).add k = ⟨g4, o4 + k, none⟩ := by by_cases h : k = 0 <;> simp [Addr.add, h]
      have hTb := hid (show T.length + M ≤ 1048576 by
       have h1 := bld_len hBl.out
       have h2 := sum_take2 L (k + 1)
       rw [take_snoc hp.out, List.map_append, List.sum_append, List.map_cons, List.map_nil, List.sum_cons, List.sum_nil] at h2
       have h3 := hm.out.1
       have h4 := hM.out
       omega)
      clear hst hcl
      go_wp2
      go_loopw [5, 7, 8] (fun vv cc jj wr => ∃ (j c : Nat) (v : Value) (T1 : List Nod), j ≤ M ∧ jj = .int .i64 (j : Int) ∧ cc = .int .i64 (c : Int) ∧ v = vv ∧ Hid (InsS T (p.take j) T1 c) ∧ Hid (RfT gb wr v T1) ∧ Hid (Below w.heap.size w wr) ∧ Hid (gb ≤ wr.heap.size)) (fun _ _ jj _ => M - (intOf jj).toNat)
      case atStart => exact ⟨0, 0, v, T, Nat.zero_le _, rfl, rfl, rfl, hid (by rw [List.take_zero]; exact .nil), hR, hb, hgs⟩
      case round =>
       clear hb hgs hR
       obtain ⟨j, c, v1, T1, hj, rfl, rfl, rfl, hins, hR, hb, hgs⟩ := hrel
       have cp := hcl'.out wr hb.out
       have hpj : Hid (∀ s ∈ p.take j, QsB s) := hid (fun s hs => hpq.out s (List.mem_of_mem_take hs))
       have hI1 := hid (hInv.out.ins hins.out hpj.out)
       have hcT := hid (pth_lt hI1.out (ins_pth hInv.out hins.out hpj.out))
       obtain ⟨KT, hKT⟩ : ∃ KT, Hid (T1.length = KT) := ⟨_, rfl⟩
       have hKb : KT ≤ 1048576 := by
        have h1 := ins_len hins.out
        have h2 := hTb.out
        have h3 := hKT.out
        rw [List.length_take] at h1
        have h4 := hM.out
        omega
       have hKi : (KT : Int) ≤ 1048576 := by omega
       have hck : c < KT := by have := hcT.out; have := hKT.out; omega
       have hcki : (c : Int) < (KT : Int) := by omega
       obtain ⟨n, hn⟩ : ∃ n, Hid (T1[c]? = some n) := ⟨_, List.getElem?_eq_getElem hcT.out⟩
       obtain ⟨q1, q2, q3, q4, q5, q6⟩ := inv_good hI1.out (by have := hKT.out; omega) (by omega) hn.out
       obtain ⟨g, cp5, rfl⟩ : ∃ g cap, v1 = .slice (some ⟨g, 0, none⟩) KT cap := by
        obtain ⟨g, cap, e⟩ := hR.out.shape (by have := hKT.out; omega)
        exact ⟨g, cap, by rw [e, hKT.out]⟩
       obtain ⟨sa, sc, ta, tc, ea, ec, hrn, hSn, hTn, hEn, hgn⟩ := hR.out.node hKT.out hn.out q1 q2 q3
       obtain ⟨MS, hMS⟩ : ∃ MS, Hid (n.steps.length = MS) := ⟨_, rfl⟩
       have hMT : Hid (n.tos.length = MS) := hid (by rw [← hMS.out]; exact (hI1.out.nd n (List.mem_of_getElem? hn.out)).1.symm)
       obtain ⟨EL, hEL⟩ : ∃ EL, Hid (n.ends.length = EL) := ⟨_, rfl⟩
       rw [hMS.out, hMT.out, hEL.out] at hrn
       have hMSb : MS ≤ 1048576 := by have := hMS.out; have := hKT.out; omega
       have hELb : EL ≤ 1048576 := by have := hEL.out; omega
       have hrn' := hid hrn
       have hSn' := hid hSn
       have hTn' := hid hTn
       clear hrn hSn hTn hEn q1 q2 q3 q4 q5 q6
       have adG : (⟨g, 0, none⟩ : Addr).add (c * 3) = ⟨g, c * 3, none⟩ := by by_cases h : c * 3 = 0 <;> simp [Addr.add, h]
       have adG1 : (⟨g, c * 3, none⟩ : Addr).add 1 = ⟨g, c * 3 + 1, none⟩ := by simp [Addr.add]
       have adG2 : (⟨g, c * 3, none⟩ : Addr).add 2 = ⟨g, c * 3 + 2, none⟩ := by simp [Addr.add]
       by_cases hjl : j < M
       ·have hji : (j : Int) < (M : Int) := by omega
        have hj' := hid (show j + 1 ≤ M by omega)
        obtain ⟨s, hs⟩ : ∃ s, Hid (p[j]? = some s) := ⟨_, List.getElem?_eq_getElem (by rw [hM.out]; exact hjl)⟩
        obtain ⟨g5, o5, rfl, hg5, hrg5⟩ := steps_at hst'.out hs.out
        have htk := hid (take_snoc hs.out)
        have hsq := hid (hpq.out s (List.mem_of_getElem? hs.out))
        obtain ⟨sk, sn, sp⟩ := s
        dsimp only at hrg5
        have hSu := hid (fun (u : World) (hu : Below w.heap.size w u) => (show u.cell? ⟨g4, o4 + k, none⟩ = some (.slice (some ⟨g5, o5, none⟩) M sc5) ∧ u.rangeAt g5 (o5 + j * 3) [.int .i64 sk, .string sn, .int .i64 sp] from ⟨hcl'.out u hu, range_kept hrg5 hu⟩))
        have hwh := hid (fun (u : World) (hu : Below wr.heap.size wr u) => where23_calls n sa ta ea sc tc ec MS EL hMS hMT (by omega) ⟨sk, sn, sp⟩ u (hid (hSn'.out.kept hu)) (hid (hTn'.out.kept hu)))
        clear hg5 hrg5
        go_wp2
        clear cp
        rename_i Kr hKr
        refine wp_region_held_drew (S := fun u => ((u.cell? ⟨g4, o4 + k, none⟩ = some (.slice (some ⟨g5, o5, none⟩) M sc5) ∧ u.rangeAt g5 (o5 + j * 3) [.int .i64 sk, .string sn, .int .i64 sp]) ∧ u.rangeAt g (c * 3) [.slice sa MS sc, .slice ta MS tc, .slice ea EL ec]) ∧ Below wr.heap.size wr u) (by kernel_rfl) ⟨⟨hSu.out _ hb.out.drew, range_kept hrn'.out (Below.refl _ _).drew⟩, (Below.refl _ _).drew⟩ (fun hH => ?_)
        (refine' wpAnyH_take (i := 0) rfl (by kernel_rfl) (by kernel_rfl) (by kernel_rfl) (fun _ _ _ h => h) (Or.inl ⟨by rfl, ?_⟩) (by assumption) ?_; rotate_left; (· (intro wq hq; (try dsimp only at hq); go_simp; first | done | with_reducible rfl)); simp only [Act.put, List.getElem_toArray, List.getElem_cons_zero, List.setIfInBounds_toArray, List.set_cons_zero, List.set_cons_succ])
        (refine' wpAnyH_take (i := 1) rfl (by kernel_rfl) (by kernel_rfl) (by kernel_rfl) (fun _ _ _ h => h) (Or.inl ⟨by rfl, ?_⟩) (by assumption) ?_; rotate_left; (· (intro wq hq; (try dsimp only at hq); go_simp; first | done | with_reducible rfl)); simp only [Act.put, List.getElem_toArray, List.getElem_cons_zero, List.getElem_cons_succ, List.setIfInBounds_toArray, List.set_cons_zero, List.set_cons_succ])
        (refine' wpAnyH_take (i := 2) rfl (by kernel_rfl) (by kernel_rfl) (by kernel_rfl) (fun _ _ _ h => h) (Or.inl ⟨by rfl, ?_⟩) (by assumption) ?_; rotate_left; (· (intro wq hq; (try dsimp only at hq); go_simp; first | done | with_reducible rfl)); simp only [Act.put, List.getElem_toArray, List.getElem_cons_zero, List.getElem_cons_succ, List.setIfInBounds_toArray, List.set_cons_zero, List.set_cons_succ])
        (refine wpAnyH_take (i := 3) (v := .agg [.slice sa MS sc, .slice ta MS tc, .slice ea EL ec].toArray) rfl (by kernel_rfl) (by kernel_rfl) (by kernel_rfl) (fun _ _ _ h => h) (yieldsIf_load_mid (by rfl) 50 _ rfl (g) (c * 3) rfl [.slice sa MS sc, .slice ta MS tc, .slice ea EL ec] _ (fun wq hq => hq.1.2) Tryd.underlying50 rfl sizeNd) (by assumption) ?_; simp only [Act.put, List.getElem_toArray, List.getElem_cons_zero, List.getElem_cons_succ, List.setIfInBounds_toArray, List.set_cons_zero, List.set_cons_succ])
        (refine' wpAnyH_take (i := 4) rfl (by kernel_rfl) (by kernel_rfl) (by kernel_rfl) (fun _ _ _ h => h) (Or.inl ⟨by rfl, ?_⟩) (by assumption) ?_; rotate_left; (· (intro wq hq; (try dsimp only at hq); go_simp; first | done | with_reducible rfl)); simp only [Act.put, List.getElem_toArray, List.getElem_cons_zero, List.getElem_cons_succ, List.setIfInBounds_toArray, List.set_cons_zero, List.set_cons_succ])
        (refine' wpAnyH_take (i := 5) rfl (by kernel_rfl) (by kernel_rfl) (by kernel_rfl) (fun _ _ _ h => h) (Or.inl ⟨by rfl, ?_⟩) (by assumption) ?_; rotate_left; (· (intro wq hq; (try dsimp only at hq); go_simp; first | done | with_reducible rfl)); simp only [Act.put, List.getElem_toArray, List.getElem_cons_zero, List.getElem_cons_succ, List.setIfInBounds_toArray, List.set_cons_zero, List.set_cons_succ])
        (refine' wpAnyH_take (i := 6) rfl (by kernel_rfl) (by kernel_rfl) (by kernel_rfl) (fun _ _ _ h => h) (Or.inl ⟨by rfl, ?_⟩) (by assumption) ?_; rotate_left; (· (intro wq hq; (try dsimp only at hq); go_simp; first | done | with_reducible rfl)); simp only [Act.put, List.getElem_toArray, List.getElem_cons_zero, List.getElem_cons_succ, List.setIfInBounds_toArray, List.set_cons_zero, List.set_cons_succ])
        (refine' wpAnyH_take (i := 7) rfl (by kernel_rfl) (by kernel_rfl) (by kernel_rfl) (fun _ _ _ h => h) (Or.inl ⟨by rfl, ?_⟩) (by assumption) ?_; rotate_left; (· (intro wq hq; (try dsimp only at hq); go_simp; first | done | with_reducible rfl)); simp only [Act.put, List.getElem_toArray, List.getElem_cons_zero, List.getElem_cons_succ, List.setIfInBounds_toArray, List.set_cons_zero, List.set_cons_succ])
        (refine' wpAnyH_take (i := 8) rfl (by kernel_rfl) (by kernel_rfl) (by kernel_rfl) (fun _ _ _ h => h) (Or.inl ⟨by rfl, ?_⟩) (by assumption) ?_; rotate_left; (· (intro wq hq; (try dsimp only at hq); go_simp; first | done | with_reducible rfl)); simp only [Act.put, List.getElem_toArray, List.getElem_cons_zero, List.getElem_cons_succ, List.setIfInBounds_toArray, List.set_cons_zero, List.set_cons_succ])
        (refine' wpAnyH_take (i := 9) rfl (by kernel_rfl) (by kernel_rfl) (by kernel_rfl) (fun _ _ _ h => h) (Or.inl ⟨by rfl, ?_⟩) (by assumption) ?_; rotate_left; (· (intro wq hq; (try dsimp only at hq); go_simp; first | done | with_reducible rfl)); simp only [Act.put, List.getElem_toArray, List.getElem_cons_zero, List.getElem_cons_succ, List.setIfInBounds_toArray, List.set_cons_zero, List.set_cons_succ])
        (refine wpAnyH_take (i := 10) (v := .agg [.int .i64 sk, .string sn, .int .i64 sp].toArray) rfl (by kernel_rfl) (by kernel_rfl) (by kernel_rfl) (fun _ _ _ h => h) (yieldsIf_load_mid (by rfl) 53 _ rfl (g5) (o5 + j * 3) rfl [.int .i64 sk, .string sn, .int .i64 sp] _ (fun wq hq => hq.1.1.2) Tryd.underlying53 rfl sizeStp) (by assumption) ?_; simp only [Act.put, List.getElem_toArray, List.getElem_cons_zero, List.getElem_cons_succ, List.setIfInBounds_toArray, List.set_cons_zero, List.set_cons_succ])
        refine wpAnyH_ready (rs := [11]) (by kernel_rfl) (by simp) ?_
        refine AllReadyH.cons rfl (fun K hK => ?_) ?_
        rotate_left
        ·exact AllReadyH.nil
        rw [if_pos (by rfl)]
        go_simp
        refine Calls.mono (hwh.out _ (Below.refl _ _).drew) ?_
        rintro e w5 ⟨⟨r, rfl, hr⟩, b5⟩
        have b5' := hid (show Below wr.heap.size wr w5 from (Below.refl _ wr).drew.trans (b5.mono (Nat.le_refl _)))
        have B5 := hid (hb.out.trans (b5'.out.mono hb.out.size))
        have R5 := hid (hR.out.kept b5'.out)
        have gs5 := hid (Nat.le_trans hgs.out b5'.out.size)
        refine hK.out _ _ ⟨⟨hSu.out _ B5.out, range_kept hrn'.out b5'.out⟩, b5'.out⟩ (fun hH5 => ?_)
        clear hK K b5 hwh hR hgs hrn' hb
        (refine' wpAnyH_take (i := 12) rfl (by kernel_rfl) (by kernel_rfl) (by kernel_rfl) (fun _ _ _ h => h) (Or.inl ⟨by rfl, ?_⟩) (by assumption) ?_; rotate_left; (· (intro wq hq; (try dsimp only at hq); go_simp; first | done | with_reducible rfl)); simp only [Act.put, List.getElem_toArray, List.getElem_cons_zero, List.getElem_cons_succ, List.setIfInBounds_toArray, List.set_cons_zero, List.set_cons_succ])
        refine wpAnyH_done (by kernel_rfl) ?_ _
        refine hKr _ _ ?_
        clear hKr hH hH5 Kr
        rcases hr with ⟨j', hj1, hj2⟩ | ⟨hno, rfl⟩
        ·obtain ⟨r', rfl⟩ : ∃ r' : Nat, r = (r' : Int) := ⟨r.toNat, by have := hI1.out.ok c n hn.out r (List.mem_of_getElem? hj2); omega⟩
         have f0 : decide ((r' : Int) < 0) = false := decide_eq_false (by omega)
         have hins2 := hid (show InsS T (p.take (j + 1)) T1 r' by rw [htk.out]; exact .snoc hins.out (.inl ⟨n, j', hn.out, hj1, hj2, rfl⟩))
         clear hj1 hj2
         go_wp2
         go_roundw
         case rel => exact ⟨j + 1, r', _, T1, hj'.out, by simp, rfl, rfl, hins2, R5, B5, gs5⟩
         case measure => simp [intOf]; have := hj'.out; omega
        ·have hno' := hid hno
         obtain ⟨c6, hc6⟩ : ∃ c, w5.heap.size = c := ⟨_, rfl⟩
         obtain ⟨W6, hW6⟩ : ∃ W, (w5.alloc (.cells #[.int .i64 sk, .string sn, .int .i64 sp] 53)).drew = W := ⟨_, rfl⟩
         have b6 : Below w5.heap.size w5 W6 := by rw [← hW6]; exact ((Below.refl _ w5).alloc (Nat.le_refl _) _).drew
         have C6 : At W6 c6 #[.int .i64 sk, .string sn, .int .i64 sp] 53 := by rw [← hW6, ← hc6]; exact (At.new _ _ _).drew
         have hg5w : g < w5.heap.size := Nat.lt_of_lt_of_le hgn b5'.out.size
         obtain ⟨so, sc', so7, sc7, W7, k1, hr7, k7, ⟨cur7, hat7⟩, h8, x7, x8⟩ := R5.out.app hKT.out hn.out (k := 0) (by decide) b6 gs5.out (n' := ⟨n.steps ++ [⟨sk, sn, sp⟩], n.tos, n.ends⟩) (show Tryd.prog.underlying 45 = some (.slice (teR 0)) from Tryd.underlying45) infoSt3 rfl (by decide) (by decide) c6 (stC3 ⟨sk, sn, sp⟩) rfl (stO_src C6) (by simp [stC3, Value.oneCell']) (by show n.steps.length < _; rw [hMS.out]; omega) (fun l hl => by
          match l, hl with
          | 0, _ => simp [colL, colC]
          | 1, _ => simp [colL, colC]
          | 2, _ => simp [colL, colC])
         rw [show colL n 0 = MS from hMS.out] at k1 hr7 k7 h8 x8
         simp only [Nat.add_zero] at k1 k7 h8 x8
         have k0 := (b6.cell (p := ⟨g, c * 3, none⟩) hg5w).symm.trans k1
         have B6 := hid (B5.out.trans (b6.mono B5.out.size))
         have B7 := hid (B6.out.trans (x7.mono hgw.out))
         obtain ⟨W8, hW8⟩ : ∃ W, W7.setCell ⟨g, c * 3, none⟩ (.slice so7 (MS + 1) sc7) = W := ⟨_, rfl⟩
         rw [hW8] at h8 x8
         have B8w := hid (B5.out.trans (x8.mono hgw.out))
         have gs8 := Nat.le_trans gs5.out x8.size
         have k7' := hid k7
         have k7f := hid (hat7.frozen (c * 3))
         have hr7' := hid hr7
         have hg8 : g < W8.heap.size := Nat.lt_of_lt_of_le hg5w x8.size
         -- the numbers
         obtain ⟨c8, hc8⟩ : ∃ c, W8.heap.size = c := ⟨_, rfl⟩
         obtain ⟨W9, hW9⟩ : ∃ W, W8.alloc (.cells #[.int .i64 (KT : Int)] 3) = W := ⟨_, rfl⟩
         have b9 : Below W8.heap.size W8 W9 := by rw [← hW9]; exact (Below.refl _ W8).alloc (Nat.le_refl _) _
         have C9 : At W9 c8 #[.int .i64 (KT : Int)] 3 := by rw [← hW9, ← hc8]; exact At.new _ _ _
         obtain ⟨po, pc, po10, pc10, W10, m1, hr10, m10, ⟨cur10, hat10⟩, h11, x10, x11⟩ := h8.app (by rw [List.length_set]; exact hKT.out) (List.getElem?_set_self hcT.out) (k := 1) (by decide) b9 gs8 (n' := ⟨n.steps ++ [⟨sk, sn, sp⟩], n.tos ++ [(KT : Int)], n.ends⟩) (show Tryd.prog.underlying 36 = some (.slice (teR 1)) from Tryd.underlying36) infoIn rfl (by decide) (by decide) c8 [.int .i64 (KT : Int)] rfl (fun j u hj => by
          match j, hj with
          | 0, hj => simp at hj; subst hj; simpa [Addr.add] using C9.cell 0
          | j + 1, hj => simp at hj) (by simp [Value.oneCell']) (by show n.tos.length < _; rw [hMT.out]; omega) (fun l hl => by
          match l, hl with
          | 0, _ => simp [colL, colC]
          | 1, _ => simp [colL, colC, inC]
          | 2, _ => simp [colL, colC])
         rw [show colL (⟨n.steps ++ [⟨sk, sn, sp⟩], n.tos, n.ends⟩ : Nod) 1 = MS from hMT.out] at m1 hr10 m10 h11 x11
         have n81 := (b9.cell (p := ⟨g, c * 3 + 1, none⟩) hg8).symm.trans m1
         have m2 := hat10.frozen (c * 3 + 1)
         obtain ⟨W11, hW11⟩ : ∃ W, W10.setCell ⟨g, c * 3 + 1, none⟩ (.slice po10 (MS + 1) pc10) = W := ⟨_, rfl⟩
         rw [hW11] at h11 x11
         rw [List.set_set] at h11
         have gs11 := Nat.le_trans gs8 x11.size
         have hr10' := hid hr10
         -- the node
         obtain ⟨c11, hc11⟩ : ∃ c, W11.heap.size = c := ⟨_, rfl⟩
         obtain ⟨W12, hW12⟩ : ∃ W, W11.alloc (.cells #[.slice none 0 0, .slice none 0 0, .slice none 0 0] 50) = W := ⟨_, rfl⟩
         have b12 : Below W11.heap.size W11 W12 := by rw [← hW12]; exact (Below.refl _ W11).alloc (Nat.le_refl _) _
         have C12 : At W12 c11 #[.slice none 0 0, .slice none 0 0, .slice none 0 0] 50 := by rw [← hW12, ← hc11]; exact At.new _ _ _
         have hl11 : (T1.set c ⟨n.steps ++ [⟨sk, sn, sp⟩], n.tos ++ [(KT : Int)], n.ends⟩).length = KT := by rw [List.length_set]; exact hKT.out
         obtain ⟨so13, sc13, W13, hr13, h13, x13⟩ := h11.add b12 gs11 C12 (by rw [hl11]; omega)
         rw [hl11] at hr13 h13
         have hr13' := hid hr13
         have R13 := hid h13
         have x14 : Below gb w5 W13 := (x8.trans x11).trans ((b12.mono gs11).trans x13)
         have B13 := hid (B5.out.trans (x14.mono hgw.out))
         have gs13 := hid (Nat.le_trans gs5.out x14.size)
         have hins2 := hid (show InsS T (p.take (j + 1)) (T1.set c ⟨n.steps ++ [⟨sk, sn, sp⟩], n.tos ++ [(KT : Int)], n.ends⟩ ++ [nulN]) KT by
          rw [htk.out]
          exact .snoc hins.out (.inr ⟨n, hn.out, hno'.out, hKT.out.symm, by rw [hKT.out]⟩))
         have k0' := hid k0
         have k1' := hid k1
         clear hno b6 C6 hr7 k7 hat7 h8 x7 x8 b9 C9 m1 hr10 hat10 h11 x10 x11 b12 C12 hr13 h13 x13 x14 k0 k1 hl11 hg5w hg8 hgn gs8 gs11
         have n81' := hid n81
         have m10' := hid m10
         have m2' := hid m2
         go_wp2
         rename_i Kr hKr
         refine wp_region_held_drew (S := fun u => u.cell? ⟨g4, o4 + k, none⟩ = some (.slice (some ⟨g5, o5, none⟩) M sc5) ∧ u.rangeAt g5 (o5 + j * 3) [.int .i64 sk, .string sn, .int .i64 sp]) (by kernel_rfl) (hSu.out _ B5.out.drew) (fun hH => ?_)
         (refine' wpAnyH_take (i := 0) rfl (by kernel_rfl) (by kernel_rfl) (by kernel_rfl) (fun _ _ _ h => h) (Or.inl ⟨by rfl, ?_⟩) (by assumption) ?_; rotate_left; (· (intro wq hq; (try dsimp only at hq); go_simp; first | done | with_reducible rfl)); simp only [Act.put, List.getElem_toArray, List.getElem_cons_zero, List.setIfInBounds_toArray, List.set_cons_zero, List.set_cons_succ])
         (refine' wpAnyH_take (i := 1) rfl (by kernel_rfl) (by kernel_rfl) (by kernel_rfl) (fun _ _ _ h => h) (Or.inl ⟨by rfl, ?_⟩) (by assumption) ?_; rotate_left; (· (intro wq hq; (try dsimp only at hq); go_simp; first | done | with_reducible rfl)); simp only [Act.put, List.getElem_toArray, List.getElem_cons_zero, List.getElem_cons_succ, List.setIfInBounds_toArray, List.set_cons_zero, List.set_cons_succ])
         (refine' wpAnyH_take (i := 2) rfl (by kernel_rfl) (by kernel_rfl) (by kernel_rfl) (fun _ _ _ h => h) (Or.inl ⟨by rfl, ?_⟩) (by assumption) ?_; rotate_left; (· (intro wq hq; (try dsimp only at hq); go_simp; first | done | with_reducible rfl)); simp only [Act.put, List.getElem_toArray, List.getElem_cons_zero, List.getElem_cons_succ, List.setIfInBounds_toArray, List.set_cons_zero, List.set_cons_succ])
         (refine' wpAnyH_take (i := 3) rfl (by kernel_rfl) (by kernel_rfl) (by kernel_rfl) (fun _ _ _ h => h) (Or.inl ⟨by rfl, ?_⟩) (by assumption) ?_; rotate_left; (· (intro wq hq; (try dsimp only at hq); go_simp; first | done | with_reducible rfl)); simp only [Act.put, List.getElem_toArray, List.getElem_cons_zero, List.getElem_cons_succ, List.setIfInBounds_toArray, List.set_cons_zero, List.set_cons_succ])
         (refine' wpAnyH_take (i := 4) rfl (by kernel_rfl) (by kernel_rfl) (by kernel_rfl) (fun _ _ _ h => h) (Or.inl ⟨by rfl, ?_⟩) (by assumption) ?_; rotate_left; (· (intro wq hq; (try dsimp only at hq); go_simp; first | done | with_reducible rfl)); simp only [Act.put, List.getElem_toArray, List.getElem_cons_zero, List.getElem_cons_succ, List.setIfInBounds_toArray, List.set_cons_zero, List.set_cons_succ])
         (refine' wpAnyH_take (i := 5) rfl (by kernel_rfl) (by kernel_rfl) (by kernel_rfl) (fun _ _ _ h => h) (Or.inl ⟨by rfl, ?_⟩) (by assumption) ?_; rotate_left; (· (intro wq hq; (try dsimp only at hq); go_simp; first | done | with_reducible rfl)); simp only [Act.put, List.getElem_toArray, List.getElem_cons_zero, List.getElem_cons_succ, List.setIfInBounds_toArray, List.set_cons_zero, List.set_cons_succ])
         (refine' wpAnyH_take (i := 7) rfl (by kernel_rfl) (by kernel_rfl) (by kernel_rfl) (fun _ _ _ h => h) (Or.inl ⟨by rfl, ?_⟩) (by assumption) ?_; rotate_left; (· (intro wq hq; (try dsimp only at hq); go_simp; first | done | with_reducible rfl)); simp only [Act.put, List.getElem_toArray, List.getElem_cons_zero, List.getElem_cons_succ, List.setIfInBounds_toArray, List.set_cons_zero, List.set_cons_succ])
         (refine' wpAnyH_take (i := 8) rfl (by kernel_rfl) (by kernel_rfl) (by kernel_rfl) (fun _ _ _ h => h) (Or.inl ⟨by rfl, ?_⟩) (by assumption) ?_; rotate_left; (· (intro wq hq; (try dsimp only at hq); go_simp; first | done | with_reducible rfl)); simp only [Act.put, List.getElem_toArray, List.getElem_cons_zero, List.getElem_cons_succ, List.setIfInBounds_toArray, List.set_cons_zero, List.set_cons_succ])
         (refine' wpAnyH_take (i := 9) rfl (by kernel_rfl) (by kernel_rfl) (by kernel_rfl) (fun _ _ _ h => h) (Or.inl ⟨by rfl, ?_⟩) (by assumption) ?_; rotate_left; (· (intro wq hq; (try dsimp only at hq); go_simp; first | done | with_reducible rfl)); simp only [Act.put, List.getElem_toArray, List.getElem_cons_zero, List.getElem_cons_succ, List.setIfInBounds_toArray, List.set_cons_zero, List.set_cons_succ])
         (refine' wpAnyH_take (i := 10) rfl (by kernel_rfl) (by kernel_rfl) (by kernel_rfl) (fun _ _ _ h => h) (Or.inl ⟨by rfl, ?_⟩) (by assumption) ?_; rotate_left; (· (intro wq hq; (try dsimp only at hq); go_simp; first | done | with_reducible rfl)); simp only [Act.put, List.getElem_toArray, List.getElem_cons_zero, List.getElem_cons_succ, List.setIfInBounds_toArray, List.set_cons_zero, List.set_cons_succ])
         (refine' wpAnyH_take (i := 11) rfl (by kernel_rfl) (by kernel_rfl) (by kernel_rfl) (fun _ _ _ h => h) (Or.inl ⟨by rfl, ?_⟩) (by assumption) ?_; rotate_left; (· (intro wq hq; (try dsimp only at hq); go_simp; first | done | with_reducible rfl)); simp only [Act.put, List.getElem_toArray, List.getElem_cons_zero, List.getElem_cons_succ, List.setIfInBounds_toArray, List.set_cons_zero, List.set_cons_succ])
         (refine' wpAnyH_take (i := 12) rfl (by kernel_rfl) (by kernel_rfl) (by kernel_rfl) (fun _ _ _ h => h) (Or.inl ⟨by rfl, ?_⟩) (by assumption) ?_; rotate_left; (· (intro wq hq; (try dsimp only at hq); go_simp; first | done | with_reducible rfl)); simp only [Act.put, List.getElem_toArray, List.getElem_cons_zero, List.getElem_cons_succ, List.setIfInBounds_toArray, List.set_cons_zero, List.set_cons_succ])
         (refine wpAnyH_take (i := 13) (v := .agg [.int .i64 sk, .string sn, .int .i64 sp].toArray) rfl (by kernel_rfl) (by kernel_rfl) (by kernel_rfl) (fun _ _ _ h => h) (yieldsIf_load_mid (by rfl) 53 _ rfl (g5) (o5 + j * 3) rfl [.int .i64 sk, .string sn, .int .i64 sp] _ (fun wq hq => hq.2) Tryd.underlying53 rfl sizeStp) (by assumption) ?_; simp only [Act.put, List.getElem_toArray, List.getElem_cons_zero, List.getElem_cons_succ, List.setIfInBounds_toArray, List.set_cons_zero, List.set_cons_succ])
         refine wpAnyH_ready (rs := [6, 14]) (by kernel_rfl) (by simp) ?_
         refine AllReadyH.cons rfl (fun K hK => ?_) ?_
         ·rw [if_pos (by rfl)]
          have k0 := k0'.out
          go_simp
          clear k0
          refine hK.out _ _ (hSu.out _ B5.out.drew) (fun hH4 => ?_)
          clear hK hH4
          refine wpAnyH_ready (rs := [14]) (by kernel_rfl) (by simp) ?_
          refine AllReadyH.cons rfl (fun K hK => ?_) ?_
          rotate_left
          ·exact AllReadyH.nil
          ·rw [if_pos (by rfl)]
           go_simp
           refine hK.out _ _ (hSu.out _ B6.out) (fun hH6 => ?_)
           clear hK
           refine wpAnyH_ready (rs := [15]) (by kernel_rfl) (by simp) ?_
           refine AllReadyH.cons rfl (fun K hK => ?_) ?_
           rotate_left
           ·exact AllReadyH.nil
           ·rw [if_pos (by rfl)]
            refine wp_append_stO rfl rfl rfl hr7'.out ?_
            refine hK.out _ _ (hSu.out _ B7.out) (fun hH7 => ?_)
            clear hK
            (refine' wpAnyH_take (i := 16) rfl (by kernel_rfl) (by kernel_rfl) (by kernel_rfl) (fun _ _ _ h => h) (Or.inl ⟨by rfl, ?_⟩) (by assumption) ?_; rotate_left; (· (intro wq hq; (try dsimp only at hq); go_simp; first | done | with_reducible rfl)); simp only [Act.put, List.getElem_toArray, List.getElem_cons_zero, List.getElem_cons_succ, List.setIfInBounds_toArray, List.set_cons_zero, List.set_cons_succ])
            (refine' wpAnyH_take (i := 17) rfl (by kernel_rfl) (by kernel_rfl) (by kernel_rfl) (fun _ _ _ h => h) (Or.inl ⟨by rfl, ?_⟩) (by assumption) ?_; rotate_left; (· (intro wq hq; (try dsimp only at hq); go_simp; first | done | with_reducible rfl)); simp only [Act.put, List.getElem_toArray, List.getElem_cons_zero, List.getElem_cons_succ, List.setIfInBounds_toArray, List.set_cons_zero, List.set_cons_succ])
            refine wpAnyH_ready (rs := [18]) (by kernel_rfl) (by simp) ?_
            refine AllReadyH.cons rfl (fun K hK => ?_) ?_
            rotate_left
            ·exact AllReadyH.nil
            ·rw [if_pos (by rfl)]
             have k70 := k7'.out
             have k71 := k7f.out
             go_simp
             clear k70 k71
             refine hK.out _ _ (hSu.out _ B8w.out) (fun hH8 => ?_)
             clear hK
             refine wpAnyH_done (by kernel_rfl) ?_ _
             refine hKr _ _ ?_
             clear hKr
             go_wp2_with (first | (at_builtin; refine wpList_append_run rfl _ _ 36 rfl (.slice po MS pc) (.slice (some ⟨c8, 0, none⟩) 1 1) (.slice po10 (MS + 1) pc10) W10 rfl rfl hr10'.out ?_) | (at_builtin; refine wpList_append_run rfl _ _ 23 rfl (.slice (some ⟨g, 0, none⟩) KT cp5) (.slice (some ⟨c11, 0, none⟩) 1 1) (.slice so13 (KT + 1) sc13) W13 rfl rfl hr13'.out ?_) | fail)
             go_wp2
             go_roundw
             case rel => exact ⟨j + 1, KT, _, _, hj'.out, by simp, rfl, rfl, hins2, R13, B13, gs13⟩
             case measure => simp [intOf]; have := hj'.out; omega
         refine AllReadyH.cons rfl (fun K hK => ?_) ?_
         ·rw [if_pos (by rfl)]
          go_simp
          refine hK.out _ _ (hSu.out _ B6.out) (fun hH6 => ?_)
          clear hK
          have k1 := k1'.out
          refine wpAnyH_ready (rs := [6]) (by kernel_rfl) (by simp) ?_
          refine AllReadyH.cons rfl (fun K hK => ?_) ?_
          rotate_left
          ·exact AllReadyH.nil
          ·rw [if_pos (by rfl)]
           go_simp
           refine hK.out _ _ (hSu.out _ B6.out) (fun hH4 => ?_)
           clear hK k1 hH4
           refine wpAnyH_ready (rs := [15]) (by kernel_rfl) (by simp) ?_
           refine AllReadyH.cons rfl (fun K hK => ?_) ?_
           rotate_left
           ·exact AllReadyH.nil
           ·rw [if_pos (by rfl)]
            refine wp_append_stO rfl rfl rfl hr7'.out ?_
            refine hK.out _ _ (hSu.out _ B7.out) (fun hH7 => ?_)
            clear hK
            (refine' wpAnyH_take (i := 16) rfl (by kernel_rfl) (by kernel_rfl) (by kernel_rfl) (fun _ _ _ h => h) (Or.inl ⟨by rfl, ?_⟩) (by assumption) ?_; rotate_left; (· (intro wq hq; (try dsimp only at hq); go_simp; first | done | with_reducible rfl)); simp only [Act.put, List.getElem_toArray, List.getElem_cons_zero, List.getElem_cons_succ, List.setIfInBounds_toArray, List.set_cons_zero, List.set_cons_succ])
            (refine' wpAnyH_take (i := 17) rfl (by kernel_rfl) (by kernel_rfl) (by kernel_rfl) (fun _ _ _ h => h) (Or.inl ⟨by rfl, ?_⟩) (by assumption) ?_; rotate_left; (· (intro wq hq; (try dsimp only at hq); go_simp; first | done | with_reducible rfl)); simp only [Act.put, List.getElem_toArray, List.getElem_cons_zero, List.getElem_cons_succ, List.setIfInBounds_toArray, List.set_cons_zero, List.set_cons_succ])
            refine wpAnyH_ready (rs := [18]) (by kernel_rfl) (by simp) ?_
            refine AllReadyH.cons rfl (fun K hK => ?_) ?_
            rotate_left
            ·exact AllReadyH.nil
            ·rw [if_pos (by rfl)]
             have k70 := k7'.out
             have k71 := k7f.out
             go_simp
             clear k70 k71
             refine hK.out _ _ (hSu.out _ B8w.out) (fun hH8 => ?_)
             clear hK
             refine wpAnyH_done (by kernel_rfl) ?_ _
             refine hKr _ _ ?_
             clear hKr
             go_wp2_with (first | (at_builtin; refine wpList_append_run rfl _ _ 36 rfl (.slice po MS pc) (.slice (some ⟨c8, 0, none⟩) 1 1) (.slice po10 (MS + 1) pc10) W10 rfl rfl hr10'.out ?_) | (at_builtin; refine wpList_append_run rfl _ _ 23 rfl (.slice (some ⟨g, 0, none⟩) KT cp5) (.slice (some ⟨c11, 0, none⟩) 1 1) (.slice so13 (KT + 1) sc13) W13 rfl rfl hr13'.out ?_) | fail)
             go_wp2
             go_roundw
             case rel => exact ⟨j + 1, KT, _, _, hj'.out, by simp, rfl, rfl, hins2, R13, B13, gs13⟩
             case measure => simp [intOf]; have := hj'.out; omega
         exact AllReadyH.nil
       ·obtain rfl : M = j := by omega
        obtain ⟨c6, hc6⟩ : ∃ c, wr.heap.size = c := ⟨_, rfl⟩
        obtain ⟨W6, hW6⟩ : ∃ W, wr.alloc (.cells #[.int .i64 (k : Int)] 3) = W := ⟨_, rfl⟩
        have b6 : Below wr.heap.size wr W6 := by rw [← hW6]; exact (Below.refl _ wr).alloc (Nat.le_refl _) _
        have C6 : At W6 c6 #[.int .i64 (k : Int)] 3 := by rw [← hW6, ← hc6]; exact At.new _ _ _
        obtain ⟨so, sc', so7, sc7, W7, k1, hr7, k7, ⟨cur7, hat7⟩, h8, x7, x8⟩ := hR.out.app hKT.out hn.out (k := 2) (by decide) b6 hgs.out (n' := ⟨n.steps, n.tos, n.ends ++ [(k : Int)]⟩) (show Tryd.prog.underlying 36 = some (.slice (teR 2)) from Tryd.underlying36) infoIn rfl (by decide) (by decide) c6 [.int .i64 (k : Int)] rfl (fun j u hj => by
         match j, hj with
         | 0, hj => simp at hj; subst hj; simpa [Addr.add] using C6.cell 0
         | j + 1, hj => simp at hj) (by simp [Value.oneCell']) (by show n.ends.length < _; rw [hEL.out]; omega) (fun l hl => by
         match l, hl with
         | 0, _ => simp [colL, colC]
         | 1, _ => simp [colL, colC]
         | 2, _ => simp [colL, colC, inC])
        rw [show colL n 2 = EL from hEL.out] at k1 hr7 k7 h8 x8
        have k0 := (b6.cell (p := ⟨g, c * 3 + 2, none⟩) hgn).symm.trans k1
        have m2 := hat7.frozen (c * 3 + 2)
        have hr7' := hid hr7
        have B8 := hid (hb.out.trans (x8.mono hgw.out))
        have gs8 := hid (Nat.le_trans hgs.out x8.size)
        have R8 := hid h8
        have hpf : p.take M = p := List.take_of_length_le (by rw [hM.out]; exact Nat.le_refl _)
        have hB2 := hid (show BldT (L.take (k + 1)) (T1.set c ⟨n.steps, n.tos, n.ends ++ [(k : Int)]⟩) by
         have h1 := hins.out
         rw [hpf] at h1
         have h2 := BldT.snoc hBl.out h1 hn.out
         rw [hklen.out] at h2
         rw [take_snoc hp.out]
         exact h2)
        clear b6 C6 hr7 hat7 h8 x7 x8 k1 hpf hR hgs hb
        go_wp2_with (first | (at_builtin; refine wpList_append_run rfl _ _ 36 rfl (.slice so EL sc') (.slice (some ⟨c6, 0, none⟩) 1 1) (.slice so7 (EL + 1) sc7) W7 rfl rfl hr7'.out ?_) | fail)
        go_wp2
        go_roundw
        case rel => exact ⟨k + 1, _, _, hk'.out, by simp, rfl, hB2, R8, B8, gs8⟩
        case measure => simp [intOf]; have := hk'.out; omega
     ·obtain rfl : N = k := by omega
      have hB2 : Hid (BldT L T) := hid (by have h := hBl.out; rwa [List.take_of_length_le (by rw [hN.out]; exact Nat.le_refl _)] at h)
      have hTb : T.length ≤ 1048576 := by
       have h1 := bld_len hB2.out
       have h2 := hm.out.1
       omega
      have hT0 : 0 < T.length := by have := hInv.out.len; omega
      obtain ⟨g, cp5, rfl⟩ := hR.out.shape hT0
      have hnd := hid (hR.out.nodes rfl hT0 hInv.out (by omega) (by omega))
      clear hBl hR
      go_wp2
      refine bodyPost_ret (v := .tuple #[.slice (some ⟨g, 0, none⟩) T.length cp5, .int .i64 0]) (by simp [results, Tryd.results14, go_sem]) rfl ?_
      exact ⟨⟨some ⟨g, 0, none⟩, cp5, T, 0, rfl, hnd.out, .inr (.inr ⟨h256'.out, hall2.out, hB2.out, rfl⟩)⟩, hb.out⟩
end Go.Proofs.YtbabdhepnjacdaaDoor
