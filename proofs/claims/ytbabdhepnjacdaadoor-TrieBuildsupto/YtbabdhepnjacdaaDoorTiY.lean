/-
  trie's growth: next.
-/
import Derived.Test.YtbabdhepnjacdaaDoorTiX
namespace Go.Proofs.YtbabdhepnjacdaaDoor
open Go.RowKit Go.Shelf
def GrS (B : Nat) (w : World) (gb K : Nat) (ln : Nat → Nat → Nat) (vl : Nat → Nat → List Value) (nb : Nat → Nat) : Prop := ∃ v vv num, GrX B w gb K ln vl nb v vv num
theorem GrS.kept {B gb K : Nat} {w w' : World} {ln : Nat → Nat → Nat} {vl : Nat → Nat → List Value} {nb : Nat → Nat} (h : GrS B w gb K ln vl nb) (hb : Below w.heap.size w w') : GrS B w' gb K ln vl nb := by
  obtain ⟨v, vv, num, h⟩ := h
  exact ⟨v, vv, num, h.kept hb⟩
theorem pt_cell {w : World} {B : Nat} {so : Option Addr} {n sc : Nat} {tos : List Nat} (h : w.ownsRow B 59 1 (.slice so n sc) tos.length (tos.map ptrV)) {j r : Nat} (hj : tos[j]? = some r) : ∃ g, so = some ⟨g, 0, none⟩ ∧ g < w.heap.size ∧ w.cell? ⟨g, j, none⟩ = some (.pointer (some ⟨r, 0, none⟩)) := by
  have hl := (List.getElem?_eq_some_iff.1 hj).1
  rcases h.2 with ⟨e, h0⟩ | ⟨g, cap, cur, e, hb, hg, -⟩
  · omega
  · cases e
    refine ⟨g, rfl, (h.lt g rfl).2, ?_⟩
    have := h.cellAt j (by omega)
    rw [this]
    simp [hj, ptrV]
set_option maxRecDepth 10000 in
set_option maxHeartbeats 8000000 in
theorem next23_calls (B gb K : Nat) (ln : Nat → Nat → Nat) (vl : Nat → Nat → List Value) (nb : Nat → Nat) (hK : K ≤ 1048576) (i : Nat) (hi : i < K) (s : Stp) (hs : s.name.size ≤ 1048576) (ss : List Stp) (tos : List Nat) (M : Nat) (hM : Hid (ss.length = M)) (hMt : Hid (tos.length = M)) (hMb : M ≤ 1048576)
    (h1 : Hid (ln i 0 = M ∧ vl i 0 = ss.flatMap stC3)) (h2 : Hid (ln i 1 = M ∧ vl i 1 = tos.map ptrV)) (hnm : Hid (∀ u ∈ ss, u.name.size ≤ capT)) (w : World) (h : Hid (GrS B w gb K ln vl nb)) (hBw : B ≤ w.heap.size) (hln : Hid (∀ k, k < 3 → ln K k = 0)) (hvl : Hid (∀ k, k < 3 → vl K k = [])) :
    Calls Tryd.prog 31 #[.pointer (some ⟨gb, 0, none⟩), .pointer (some ⟨nb i, 0, none⟩), .agg #[.int .i64 s.kind, .string s.name, .int .i64 s.place]] w fun e w' => (∃ r : Nat, e = .returned (.pointer (some ⟨r, 0, none⟩)) ∧
      ((∃ j : Nat, ss[j]? = some s ∧ tos[j]? = some r ∧ GrS B w' gb K ln vl nb) ∨
       (s ∉ ss ∧ w.heap.size ≤ r ∧ GrS B w' gb (K + 1) (updF (updF ln i 0 (M + 1)) i 1 (M + 1)) (updF (updF vl i 0 (ss.flatMap stC3 ++ stC3 s)) i 1 (tos.map ptrV ++ [ptrV r])) (fun x => if x = K then r else nb x)))) ∧ Below B w w' ∧ w.heap.size ≤ w'.heap.size := by
  obtain ⟨v, vv, num, hX⟩ := h.out
  have hMi : (M : Int) ≤ 1048576 := by omega
  obtain ⟨sk, sn, sp⟩ := s
  dsimp only at hs
  obtain ⟨sb, hsb⟩ : ∃ sb, w.heap.size = sb := ⟨_, rfl⟩
  obtain ⟨W1, hW1⟩ : ∃ W, w.alloc (.cells #[.int .i64 sk, .string sn, .int .i64 sp] 53) = W := ⟨_, rfl⟩
  have b1 : Below w.heap.size w W1 := by rw [← hW1]; exact (Below.refl _ w).alloc (Nat.le_refl _) _
  have A1 : At W1 sb #[.int .i64 sk, .string sn, .int .i64 sp] 53 := by rw [← hW1, ← hsb]; exact At.new _ _ _
  have g1 := hX.kept b1
  have hst : StO B W1 (vv i 0) ss := ⟨by have := g1.own i 0 hi (by decide); rw [h1.out.1, h1.out.2] at this; rw [hM.out]; exact this, fun q u hq => hnm.out u (List.mem_of_getElem? hq)⟩
  have hpt0 : W1.ownsRow B 59 1 (vv i 1) tos.length (tos.map ptrV) := by have := g1.own i 1 hi (by decide); rw [h2.out.1, h2.out.2] at this; rw [hMt.out]; exact this
  obtain ⟨so, sc, hv0⟩ := hst.shape
  obtain ⟨po, tc, hv1⟩ := own_shape hpt0
  rw [hM.out] at hv0
  rw [hMt.out] at hv1
  rw [hv0] at hst
  rw [hv1] at hpt0
  have hsr := hid hst.row.2
  have hpt := hid hpt0
  have g1' := hid g1
  have hnode := hid (fun (u : World) (hu : Below W1.heap.size W1 u) => (show u.cell? ⟨nb i, 0, none⟩ = some (.slice so M sc) ∧ u.cell? ⟨nb i, 1, none⟩ = some (.slice po M tc) from by
    have hn := (g1'.out.node i hi).keptAll hu
    have e0 := hn.cell 0
    have e1 := hn.cell 1
    simp only [List.getElem?_toArray, List.getElem?_cons_zero, List.getElem?_cons_succ] at e0 e1
    rw [hv0] at e0
    rw [hv1] at e1
    exact ⟨e0, e1⟩))
  have B1 := hid (b1.mono hBw)
  have hBW1 := hid (show B ≤ W1.heap.size from Nat.le_trans hBw b1.size)
  have A1' := hid A1
  have hX' := hid hX
  have b1w := hid b1
  rw [hsb] at b1w
  have d0 := (hnode.out W1 (Below.refl _ _)).1
  have hszW1 := hid (show sb < W1.heap.size from A1.lt)
  clear b1 A1 g1 hst hpt0 hX
  rw [hsb]
  go_enter Tryd.func31, Tryd.ntmps31
  go_wp2
  clear d0
  go_loopw [15] (fun jj wr => ∃ j : Nat, j ≤ M ∧ jj = .int .i64 (j : Int) ∧ Hid ((⟨sk, sn, sp⟩ : Stp) ∉ ss.take j) ∧ Hid (Below W1.heap.size W1 wr)) (fun jj _ => M - (intOf jj).toNat)
  case atStart => exact ⟨0, Nat.zero_le _, rfl, hid (by simp), hid (Below.refl _ _)⟩
  case round =>
    obtain ⟨j, hj, rfl, hno, hb⟩ := hrel
    have hbx := A1'.out.keptAll hb.out
    by_cases hjl : j < M
    · have hji : (j : Int) < (M : Int) := by omega
      have hj' := hid (show j + 1 ≤ M by omega)
      obtain ⟨u, hu⟩ : ∃ u, Hid (ss[j]? = some u) := ⟨_, List.getElem?_eq_getElem (by rw [hM.out]; exact hjl)⟩
      obtain ⟨r, hr⟩ : ∃ r, Hid (tos[j]? = some r) := ⟨_, List.getElem?_eq_getElem (by rw [hMt.out]; exact hjl)⟩
      obtain ⟨g2, o2, rfl, hg2, hrg2⟩ := steps_at (hsr.out.kept hb.out) hu.out
      have htk := hid (take_snoc hu.out)
      obtain ⟨uk, un, up⟩ := u
      dsimp only at hrg2
      have hrg3 := hid hrg2
      have hbr := hid (hbx.range (L := [.int .i64 sk, .string sn, .int .i64 sp]) rfl)
      have eqs := fun x => eqStp uk sk up sp un sn x
      have hdec : Hid ((uk == sk && (un.toList == sn.toList && up == sp)) = decide ((⟨uk, un, up⟩ : Stp) = ⟨sk, sn, sp⟩)) := hid (by
        rw [eq_str, Bool.eq_iff_iff]
        simp)
      rw [hdec.out] at eqs
      have z1 : (Tryd.prog.info? 53).map (·.size) = some ([.int .i64 uk, .string un, .int .i64 up] : List Value).length := sizeStp
      have z2 : (Tryd.prog.info? 53).map (·.size) = some ([.int .i64 sk, .string sn, .int .i64 sp] : List Value).length := sizeStp
      obtain ⟨W2, hW2⟩ : ∃ W, wr.alloc (.cells #[.int .i64 uk, .string un, .int .i64 up] 53) = W := ⟨_, rfl⟩
      have b2 : Below wr.heap.size wr W2 := by rw [← hW2]; exact (Below.refl _ wr).alloc (Nat.le_refl _) _
      have A2 := hid (show At W2 wr.heap.size #[.int .i64 uk, .string un, .int .i64 up] 53 by rw [← hW2]; exact At.new _ _ _)
      have B2 := hid (hb.out.trans (b2.mono hb.out.size))
      have hbr2 := hid (range_kept hbr.out b2)
      clear hrg2 hg2 b2 hbx hbr
      by_cases hus : (⟨uk, un, up⟩ : Stp) = ⟨sk, sn, sp⟩
      · rw [decide_eq_true hus] at eqs
        have hus' := hid hus
        have e1 := (hnode.out W2 B2.out).2
        obtain ⟨g3, rfl, hg3, hc3⟩ := pt_cell hpt.out hr.out
        have cr := (B2.out.cell (p := ⟨g3, j, none⟩) hg3).trans hc3
        have ad3 : (⟨g3, 0, none⟩ : Addr).add j = ⟨g3, j, none⟩ := by by_cases h : j = 0 <;> simp [Addr.add, h]
        clear hus hdec hc3
        go_wp2_with (first | refine wpList_load_want 53 _ g2 (o2 + j * 3) [.int .i64 uk, .string un, .int .i64 up] _ hrg3.out Tryd.underlying53 z1 rfl rfl rfl (by rfl) ?_ | refine wpList_load_want 53 _ wr.heap.size 0 [.int .i64 uk, .string un, .int .i64 up] _ (A2.out.range rfl) Tryd.underlying53 z1 rfl rfl rfl (by rfl) ?_ | refine wpList_load_want 53 _ sb 0 [.int .i64 sk, .string sn, .int .i64 sp] _ hbr2.out Tryd.underlying53 z2 rfl rfl rfl (by rfl) ?_ | fail)
        go_ret
        exact ⟨⟨r, rfl, .inl ⟨j, by rw [hu.out, hus'.out], hr.out, ⟨v, vv, num, g1'.out.kept B2.out⟩⟩⟩, B1.out.trans (B2.out.mono hBW1.out), by have := B2.out.size; have := hszW1.out; omega⟩
      · rw [decide_eq_false hus] at eqs
        have hno2 : Hid ((⟨sk, sn, sp⟩ : Stp) ∉ ss.take (j + 1)) := hid (by
          rw [htk.out]
          intro hh
          rcases List.mem_append.1 hh with h | h
          · exact hno.out h
          · exact hus (List.mem_singleton.1 h).symm)
        clear hus hdec hno
        go_wp2_with (first | refine wpList_load_want 53 _ g2 (o2 + j * 3) [.int .i64 uk, .string un, .int .i64 up] _ hrg3.out Tryd.underlying53 z1 rfl rfl rfl (by rfl) ?_ | refine wpList_load_want 53 _ wr.heap.size 0 [.int .i64 uk, .string un, .int .i64 up] _ (A2.out.range rfl) Tryd.underlying53 z1 rfl rfl rfl (by rfl) ?_ | refine wpList_load_want 53 _ sb 0 [.int .i64 sk, .string sn, .int .i64 sp] _ hbr2.out Tryd.underlying53 z2 rfl rfl rfl (by rfl) ?_ | fail)
        go_roundw
        case rel => exact ⟨j + 1, hj'.out, by simp, hno2, B2⟩
        case measure => simp [intOf]; have := hj'.out; omega
    · obtain rfl : M = j := by omega
      have hnot : Hid ((⟨sk, sn, sp⟩ : Stp) ∉ ss) := hid (by have := hno.out; rwa [List.take_of_length_le (by rw [hM.out]; exact Nat.le_refl _)] at this)
      have c1 := hbx.cell 1
      simp only [List.getElem?_toArray, List.getElem?_cons_zero, List.getElem?_cons_succ] at c1
      have hcl := hid (fun u => cloneT_calls sn (by omega) u)
      have hbx' := hid hbx
      clear hno hbx
      go_wp2_with fail
      refine Calls.mono (hcl.out _) ?_
      rintro e w3 ⟨rfl, b3⟩
      have A3 := hbx'.out.keptAll b3
      have B3 := hid (hb.out.trans (b3.mono hb.out.size))
      have fr3 := A3.frozen 1
      have d1 := A3.cell 1
      simp only [List.getElem?_toArray, List.getElem?_cons_zero, List.getElem?_cons_succ] at d1
      obtain ⟨W4, hW4⟩ : ∃ W, w3.setCell ⟨sb, 1, none⟩ (.string sn) = W := ⟨_, rfl⟩
      have A4 : At W4 sb #[.int .i64 sk, .string sn, .int .i64 sp] 53 := by
        have h := A3.set 1 (.string sn)
        rw [hW4] at h
        exact h
      have B4w : Hid (Below sb w W4) := hid (by rw [← hW4]; exact (b1w.out.trans (B3.out.mono (Nat.le_of_lt hszW1.out))).setCell (p := ⟨sb, 1, none⟩) (Nat.le_refl _) _)
      have G4 : Hid (GrX B W4 gb K ln vl nb v vv num) := hid (hX'.out.kept (by rw [hsb]; exact B4w.out))
      have hs4 : Hid (sb ≤ W4.heap.size ∧ B ≤ W4.heap.size) := hid (by
        have h1 := B4w.out.size
        rw [hsb] at h1 hBw
        exact ⟨h1, Nat.le_trans hBw h1⟩)
      have A4' := hid A4
      have hgrn := hid (grown23_calls B gb K ln vl nb v vv num (by omega) W4 G4 hs4.out.2 hln hvl)
      have z2 : (Tryd.prog.info? 53).map (·.size) = some ([.int .i64 sk, .string sn, .int .i64 sp] : List Value).length := sizeStp
      obtain ⟨b, hbb⟩ : ∃ b, W4.heap.size = b := ⟨_, rfl⟩
      rw [hbb] at hgrn
      have hbb' := hid hbb
      clear A3 b3 A4 hcl c1 hbb
      go_wp2_with fail
      refine Calls.mono hgrn.out ?_
      rintro e w5 ⟨rfl, ⟨v5, g5⟩, ⟨b5, s5⟩, hoth5⟩
      have A5 := hid (hoth5 _ _ _ A4'.out (by decide) (by decide))
      have B5 := hid (B4w.out.mono (show B ≤ sb by rw [← hsb]; exact hBw) |>.trans b5)
      have s5' := hid (show w.heap.size ≤ w5.heap.size from by have := hs4.out.1; have := hbb'.out; omega)
      have hiK1 : i < K + 1 := by omega
      have hiK : ¬ i = K := by omega
      have hv50 : (if i = K then Value.slice none 0 0 else vv i 0) = .slice so M sc := by rw [if_neg hiK, hv0]
      have hv51 : (if i = K then Value.slice none 0 0 else vv i 1) = .slice po M tc := by rw [if_neg hiK, hv1]
      generalize hvv5 : (fun i k => if i = K then Value.slice none 0 0 else vv i k) = vv5 at g5
      generalize hnum5 : (fun i => if i = K then (0 : Int) else num i) = num5 at g5
      have hw50 : vv5 i 0 = .slice so M sc := by rw [← hvv5]; exact hv50
      have hw51 : vv5 i 1 = .slice po M tc := by rw [← hvv5]; exact hv51
      have hg5 := hid g5
      have hlow := hid (fun g (hg : (Value.slice so M sc).ownBlock = some g) => (show g < sb from by
        have h1 := (hX'.out.own i 0 hi (by decide)).lt g (by rw [hv0]; exact hg)
        rw [hsb] at h1
        exact h1.2))
      have n50 := g5.node i hiK1
      simp only [if_neg hiK] at n50
      rw [hw50, hw51] at n50
      have n5 := hid n50
      clear g5 b5 s5 hoth5 hvv5 hnum5 hv50 hv51 hgrn d1 fr3
      have hBw5 : B ≤ w5.heap.size := Nat.le_trans hBw s5'.out
      -- the step's row
      obtain ⟨c5, hc5⟩ : ∃ c, w5.heap.size = c := ⟨_, rfl⟩
      obtain ⟨W6, hW6⟩ : ∃ W, (w5.alloc (.cells #[.int .i64 sk, .string sn, .int .i64 sp] 53)).drew = W := ⟨_, rfl⟩
      have b6 : Below w5.heap.size w5 W6 := by rw [← hW6]; exact ((Below.refl _ w5).alloc (Nat.le_refl _) _).drew
      have C6 : At W6 c5 #[.int .i64 sk, .string sn, .int .i64 sp] 53 := by rw [← hW6, ← hc5]; exact (At.new _ _ _).drew
      have g6 := hg5.out.kept b6
      have o60 : W6.ownsRow B 53 3 (.slice so M sc) M (ss.flatMap stC3) := by
        have h3 := g6.own i 0 hiK1 (by decide)
        rw [h1.out.1, h1.out.2, hw50] at h3
        exact h3
      obtain ⟨v7, W7, hr7, ho7, hg7, hv7⟩ := app_gen (B := B) Tryd.underlying45 infoSt3 rfl (by decide) o60 ⟨c5, 0, none⟩ 1 (stC3 ⟨sk, sn, sp⟩) rfl (stO_src C6) (by simp [stC3, Value.oneCell']) (by omega) (by decide) (Nat.le_trans hBw5 b6.size)
      obtain ⟨so7, sc7, rfl⟩ := own_shape ho7
      have g8 := hg5.out.upd (i := i) (k := 0) (m := 1) hiK1 (by decide) b6 (v' := .slice so7 (M + 1) sc7) (news := stC3 ⟨sk, sn, sp⟩) (by rw [h1.out.1, h1.out.2]; exact ho7) (by rw [hw50]; exact hg7) (by rw [hw50]; exact hv7)
      simp only [if_neg hiK] at g8
      have A6 := hid (A5.out.keptAll b6)
      have n6 := n5.out.keptAll b6
      have n6' := hid n6
      have n7 := hid (at_grown n6 o60 hg7 (by decide))
      have A7 := hid (show At W7 sb #[.int .i64 sk, .string sn, .int .i64 sp] 53 from (hg7.block sb A6.out.lt (fun e => by have := hlow.out sb e.symm; omega)).trans A6.out)
      have A8 := hid (A7.out.other (p := ⟨nb i, 0, none⟩) (at_ne A7.out n7.out (by decide)) (.slice so7 (M + 1) sc7))
      have B7 : Below B w5 W7 := (b6.mono hBw5).grown hg7 (Nat.le_trans hBw5 b6.size) (fun k hk => (o60.lt k hk).1)
      have hnbB : B ≤ nb i := by have := hX'.out.nodeB i hi; exact this
      have B8 := hid (B7.setCell (p := ⟨nb i, 0, none⟩) hnbB (.slice so7 (M + 1) sc7))
      obtain ⟨W8, hW8⟩ : ∃ W, W7.setCell ⟨nb i, 0, none⟩ (.slice so7 (M + 1) sc7) = W := ⟨_, rfl⟩
      rw [hW8] at g8 A8 B8
      have n80 := g8.node i hiK1
      simp only [if_neg hiK] at n80
      rw [updF_ne (f := vv5) (a := i) (b := 1) (by omega), hw51] at n80
      have n81 := n80.cell 1
      simp only [List.getElem?_toArray, List.getElem?_cons_zero, List.getElem?_cons_succ] at n81
      -- the node's own row
      obtain ⟨c8, hc8⟩ : ∃ c, W8.heap.size = c := ⟨_, rfl⟩
      obtain ⟨W9, hW9⟩ : ∃ W, W8.alloc (.cells #[.pointer (some ⟨b, 0, none⟩)] 59) = W := ⟨_, rfl⟩
      have b9 : Below W8.heap.size W8 W9 := by rw [← hW9]; exact (Below.refl _ W8).alloc (Nat.le_refl _) _
      have C9 : At W9 c8 #[.pointer (some ⟨b, 0, none⟩)] 59 := by rw [← hW9, ← hc8]; exact At.new _ _ _
      have o91 : W9.ownsRow B 59 1 (.slice po M tc) M (tos.map ptrV) := by
        have h3 := (g8.kept b9).own i 1 hiK1 (by decide)
        rw [updF_ne (f := ln) (a := i) (b := 1) (by omega), updF_ne (f := vl) (a := i) (b := 1) (by omega), updF_ne (f := vv5) (a := i) (b := 1) (by omega), h2.out.1, h2.out.2, hw51] at h3
        exact h3
      have hB8s : B ≤ W8.heap.size := Nat.le_trans hBw5 B8.out.size
      obtain ⟨v10, W10, hr10, ho10, hg10, hv10⟩ := app_gen (B := B) Tryd.underlying56 infoPt rfl (by decide) o91 ⟨c8, 0, none⟩ 1 [.pointer (some ⟨b, 0, none⟩)] rfl (fun j u hj => by
        match j, hj with
        | 0, hj => simp at hj; subst hj; simpa [Addr.add] using C9.cell 0
        | j + 1, hj => simp at hj) (by simp [Value.oneCell']) (by omega) (by decide) (Nat.le_trans hB8s b9.size)
      obtain ⟨po10, pc10, rfl⟩ := own_shape ho10
      have g11 := g8.upd (i := i) (k := 1) (m := 1) hiK1 (by decide) b9 (v' := .slice po10 (M + 1) pc10) (news := [.pointer (some ⟨b, 0, none⟩)]) (by rw [updF_ne (f := ln) (a := i) (b := 1) (by omega), updF_ne (f := vl) (a := i) (b := 1) (by omega), h2.out.1, h2.out.2]; exact ho10) (by rw [updF_ne (f := vv5) (a := i) (b := 1) (by omega), hw51]; exact hg10) (by rw [updF_ne (f := vv5) (a := i) (b := 1) (by omega), hw51]; exact hv10)
      simp only [if_neg hiK] at g11
      rw [updF_ne (f := ln) (a := i) (b := 1) (by omega), updF_ne (f := vl) (a := i) (b := 1) (by omega), h1.out.1, h1.out.2, h2.out.1, h2.out.2] at g11
      have G11 := hid g11
      have n10 := at_grown (n80.keptAll b9) o91 hg10 (by decide)
      have m1 := n10.cell 1
      simp only [List.getElem?_toArray, List.getElem?_cons_zero, List.getElem?_cons_succ] at m1
      have m2 := n10.frozen 1
      have B11 := hid (show Below B w (W10.setCell ⟨nb i, 1, none⟩ (.slice po10 (M + 1) pc10)) ∧ sb ≤ (W10.setCell ⟨nb i, 1, none⟩ (.slice po10 (M + 1) pc10)).heap.size from by
        have x1 : Below B W8 W10 := (b9.mono hB8s).grown hg10 (Nat.le_trans hB8s b9.size) (fun k hk => (o91.lt k hk).1)
        have x2 := x1.setCell (p := ⟨nb i, 1, none⟩) hnbB (.slice po10 (M + 1) pc10)
        have x3 := B5.out.trans (B8.out.trans x2)
        exact ⟨x3, by rw [← hsb]; exact x3.size⟩)
      have hr7' := hid hr7
      have hr10' := hid hr10
      have e50 := n5.out.cell 0
      simp only [List.getElem?_toArray, List.getElem?_cons_zero] at e50
      have hr5 := hid (A5.out.range (L := [.int .i64 sk, .string sn, .int .i64 sp]) rfl)
      clear b6 C6 g6 o60 hr7 ho7 hg7 hv7 g8 n6 B7 n80 b9 C9 o91 hr10 ho10 hg10 hv10 g11 n10 hnode hsr hpt
      go_wp2
      rename_i Kr hKr
      refine wp_region_held_drew (S := fun u => u.rangeAt sb 0 [.int .i64 sk, .string sn, .int .i64 sp]) (by kernel_rfl) hr5.out (fun hH => ?_)
      (refine' wpAnyH_take (i := 0) rfl (by kernel_rfl) (by kernel_rfl) (by kernel_rfl) (fun _ _ _ h => h) (Or.inl ⟨by rfl, ?_⟩) (by assumption) ?_; rotate_left; (· (intro wq hq; (try dsimp only at hq); go_simp; first | done | with_reducible rfl)); simp only [Act.put, List.getElem_toArray, List.getElem_cons_zero, List.setIfInBounds_toArray, List.set_cons_zero, List.set_cons_succ])
      (refine' wpAnyH_take (i := 1) rfl (by kernel_rfl) (by kernel_rfl) (by kernel_rfl) (fun _ _ _ h => h) (Or.inl ⟨by rfl, ?_⟩) (by assumption) ?_; rotate_left; (· (intro wq hq; (try dsimp only at hq); go_simp; first | done | with_reducible rfl)); simp only [Act.put, List.getElem_toArray, List.getElem_cons_zero, List.getElem_cons_succ, List.setIfInBounds_toArray, List.set_cons_zero, List.set_cons_succ])
      (refine' wpAnyH_take (i := 2) rfl (by kernel_rfl) (by kernel_rfl) (by kernel_rfl) (fun _ _ _ h => h) (Or.inl ⟨by rfl, ?_⟩) (by assumption) ?_; rotate_left; (· (intro wq hq; (try dsimp only at hq); go_simp; first | done | with_reducible rfl)); simp only [Act.put, List.getElem_toArray, List.getElem_cons_zero, List.getElem_cons_succ, List.setIfInBounds_toArray, List.set_cons_zero, List.set_cons_succ])
      (refine' wpAnyH_take (i := 3) rfl (by kernel_rfl) (by kernel_rfl) (by kernel_rfl) (fun _ _ _ h => h) (Or.inl ⟨by rfl, ?_⟩) (by assumption) ?_; rotate_left; (· (intro wq hq; (try dsimp only at hq); go_simp; first | done | with_reducible rfl)); simp only [Act.put, List.getElem_toArray, List.getElem_cons_zero, List.getElem_cons_succ, List.setIfInBounds_toArray, List.set_cons_zero, List.set_cons_succ])
      (refine wpAnyH_take (i := 5) (v := .agg [.int .i64 sk, .string sn, .int .i64 sp].toArray) rfl (by kernel_rfl) (by kernel_rfl) (by kernel_rfl) (fun _ _ _ h => h) (yieldsIf_load_mid (by rfl) 53 _ rfl (sb) 0 rfl [.int .i64 sk, .string sn, .int .i64 sp] _ (fun wq hq => hq) Tryd.underlying53 rfl sizeStp) (by assumption) ?_; simp only [Act.put, List.getElem_toArray, List.getElem_cons_zero, List.getElem_cons_succ, List.setIfInBounds_toArray, List.set_cons_zero, List.set_cons_succ])
      refine wpAnyH_ready (rs := [4, 6]) (by kernel_rfl) (by simp) ?_
      refine AllReadyH.cons rfl (fun K hK => ?_) ?_
      · rw [if_pos (by rfl)]
        go_simp
        refine hK.out _ _ hr5.out (fun hH4 => ?_)
        clear hK hH4
        refine wpAnyH_ready (rs := [6]) (by kernel_rfl) (by simp) ?_
        refine AllReadyH.cons rfl (fun K hK => ?_) ?_
        · rw [if_pos (by rfl)]
          go_simp
          refine hK.out _ _ (A6.out.range rfl) (fun hH6 => ?_)
          clear hK
          refine wpAnyH_ready (rs := [7]) (by kernel_rfl) (by simp) ?_
          refine AllReadyH.cons rfl (fun K hK => ?_) ?_
          · rw [if_pos (by rfl)]
            refine wp_append_stO rfl rfl rfl hr7'.out ?_
            refine hK.out _ _ (A7.out.range rfl) (fun hH7 => ?_)
            clear hK
            (refine' wpAnyH_take (i := 8) rfl (by kernel_rfl) (by kernel_rfl) (by kernel_rfl) (fun _ _ _ h => h) (Or.inl ⟨by rfl, ?_⟩) (by assumption) ?_; rotate_left; (· (intro wq hq; (try dsimp only at hq); go_simp; first | done | with_reducible rfl)); simp only [Act.put, List.getElem_toArray, List.getElem_cons_zero, List.getElem_cons_succ, List.setIfInBounds_toArray, List.set_cons_zero, List.set_cons_succ])
            (refine' wpAnyH_take (i := 9) rfl (by kernel_rfl) (by kernel_rfl) (by kernel_rfl) (fun _ _ _ h => h) (Or.inl ⟨by rfl, ?_⟩) (by assumption) ?_; rotate_left; (· (intro wq hq; (try dsimp only at hq); go_simp; first | done | with_reducible rfl)); simp only [Act.put, List.getElem_toArray, List.getElem_cons_zero, List.getElem_cons_succ, List.setIfInBounds_toArray, List.set_cons_zero, List.set_cons_succ])
            refine wpAnyH_ready (rs := [10]) (by kernel_rfl) (by simp) ?_
            refine AllReadyH.cons rfl (fun K hK => ?_) ?_
            · rw [if_pos (by rfl)]
              have k0 := n7.out.cell 0
              simp only [List.getElem?_toArray, List.getElem?_cons_zero] at k0
              have k1 := n7.out.frozen 0
              go_simp
              clear k0 k1
              refine hK.out _ _ (A8.out.range rfl) (fun hH8 => ?_)
              clear hK hH8 hH7 hH6 hH
              refine wpAnyH_done (by kernel_rfl) ?_ _
              refine hKr _ _ ?_
              clear hKr
              go_wp2_with (first | (at_builtin; refine wpList_append_run rfl _ _ 56 rfl (.slice po M tc) (.slice (some ⟨c8, 0, none⟩) 1 1) (.slice po10 (M + 1) pc10) W10 rfl rfl hr10'.out ?_) | fail)
              go_ret
              exact ⟨⟨b, rfl, .inr ⟨hnot.out, by have := hs4.out.1; have := hbb'.out; omega, ⟨_, _, _, G11.out⟩⟩⟩, B11.out.1, B11.out.2⟩
            · exact AllReadyH.nil
          · exact AllReadyH.nil
        · exact AllReadyH.nil
      refine AllReadyH.cons rfl (fun K hK => ?_) ?_
      · rw [if_pos (by rfl)]
        go_simp
        refine hK.out _ _ (A6.out.range rfl) (fun hH6 => ?_)
        clear hK
        have k4 := n6'.out.cell 0
        simp only [List.getElem?_toArray, List.getElem?_cons_zero] at k4
        refine wpAnyH_ready (rs := [4]) (by kernel_rfl) (by simp) ?_
        refine AllReadyH.cons rfl (fun K hK => ?_) ?_
        · rw [if_pos (by rfl)]
          go_simp
          refine hK.out _ _ (A6.out.range rfl) (fun hH4 => ?_)
          clear hK k4 hH4
          refine wpAnyH_ready (rs := [7]) (by kernel_rfl) (by simp) ?_
          refine AllReadyH.cons rfl (fun K hK => ?_) ?_
          · rw [if_pos (by rfl)]
            refine wp_append_stO rfl rfl rfl hr7'.out ?_
            refine hK.out _ _ (A7.out.range rfl) (fun hH7 => ?_)
            clear hK
            (refine' wpAnyH_take (i := 8) rfl (by kernel_rfl) (by kernel_rfl) (by kernel_rfl) (fun _ _ _ h => h) (Or.inl ⟨by rfl, ?_⟩) (by assumption) ?_; rotate_left; (· (intro wq hq; (try dsimp only at hq); go_simp; first | done | with_reducible rfl)); simp only [Act.put, List.getElem_toArray, List.getElem_cons_zero, List.getElem_cons_succ, List.setIfInBounds_toArray, List.set_cons_zero, List.set_cons_succ])
            (refine' wpAnyH_take (i := 9) rfl (by kernel_rfl) (by kernel_rfl) (by kernel_rfl) (fun _ _ _ h => h) (Or.inl ⟨by rfl, ?_⟩) (by assumption) ?_; rotate_left; (· (intro wq hq; (try dsimp only at hq); go_simp; first | done | with_reducible rfl)); simp only [Act.put, List.getElem_toArray, List.getElem_cons_zero, List.getElem_cons_succ, List.setIfInBounds_toArray, List.set_cons_zero, List.set_cons_succ])
            refine wpAnyH_ready (rs := [10]) (by kernel_rfl) (by simp) ?_
            refine AllReadyH.cons rfl (fun K hK => ?_) ?_
            · rw [if_pos (by rfl)]
              have k0 := n7.out.cell 0
              simp only [List.getElem?_toArray, List.getElem?_cons_zero] at k0
              have k1 := n7.out.frozen 0
              go_simp
              clear k0 k1
              refine hK.out _ _ (A8.out.range rfl) (fun hH8 => ?_)
              clear hK hH8 hH7 hH6 hH
              refine wpAnyH_done (by kernel_rfl) ?_ _
              refine hKr _ _ ?_
              clear hKr
              go_wp2_with (first | (at_builtin; refine wpList_append_run rfl _ _ 56 rfl (.slice po M tc) (.slice (some ⟨c8, 0, none⟩) 1 1) (.slice po10 (M + 1) pc10) W10 rfl rfl hr10'.out ?_) | fail)
              go_ret
              exact ⟨⟨b, rfl, .inr ⟨hnot.out, by have := hs4.out.1; have := hbb'.out; omega, ⟨_, _, _, G11.out⟩⟩⟩, B11.out.1, B11.out.2⟩
            · exact AllReadyH.nil
          · exact AllReadyH.nil
        · exact AllReadyH.nil
      exact AllReadyH.nil
end Go.Proofs.YtbabdhepnjacdaaDoor
