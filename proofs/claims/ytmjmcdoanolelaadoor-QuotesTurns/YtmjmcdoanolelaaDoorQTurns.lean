/-
  The walk of quarrylaw07.QuotesTurns.
-/
import Derived.Test.YtmjmcdoanolelaaDoorQuoAwake
import Derived.Test.YtmjmcdoanolelaaDoorRowVar
import Derived.SizedLaws
namespace Go.Proofs.YtmjmcdoanolelaaDoor
open Go.RowKit Go.Shelf

/-- The three rows. -/
def TuC (w : World) (s : ByteArray) (b1 b2 b3 g1 g2 g3 : Nat) (W : World) : Prop := RV W b1 g1 s.size (markS s) ∧ RV W b2 g2 s.size (inS s) ∧ RV W b3 g3 s.size (escS s) ∧ Below w.heap.size w W
section
variable {w W Z : World} {s : ByteArray} {b1 b2 b3 g1 g2 g3 : Nat}
theorem TuC.kept (h : TuC w s b1 b2 b3 g1 g2 g3 W) (hb : Below W.heap.size W Z) : TuC w s b1 b2 b3 g1 g2 g3 Z := ⟨h.1.kept hb, h.2.1.kept hb, h.2.2.1.kept hb, h.2.2.2.trans (hb.mono h.2.2.2.size)⟩
theorem TuC.drew (h : TuC w s b1 b2 b3 g1 g2 g3 W) : TuC w s b1 b2 b3 g1 g2 g3 W.drew := h.kept (Below.refl _ _).drew
theorem TuC.m (h : TuC w s b1 b2 b3 g1 g2 g3 W) : RV W b1 g1 s.size (markS s) := h.1
theorem TuC.i (h : TuC w s b1 b2 b3 g1 g2 g3 W) : RV W b2 g2 s.size (inS s) := h.2.1
theorem TuC.e (h : TuC w s b1 b2 b3 g1 g2 g3 W) : RV W b3 g3 s.size (escS s) := h.2.2.1
theorem TuC.b (h : TuC w s b1 b2 b3 g1 g2 g3 W) : Below w.heap.size w W := h.2.2.2
end
/-- What is found so far. -/
def CtlTo (s : ByteArray) (i : Nat) (c : Int) : Prop := (c = -1 ∧ ∀ j, j < i → (inS s j && ctlB s j) = false) ∨ (0 ≤ c ∧ IsCtl s c)

set_option maxRecDepth 10000 in
set_option maxHeartbeats 4000000 in
theorem quotesTurns_walk (s : ByteArray) (hs : s.size ≤ reachBytes) (w : World) (hT : Tab w) (h0 : 0 < w.heap.size) :
    Calls Tryd.prog 6 #[.string s] w fun e w' => e = .returned (.bool true) ∧ Below w.heap.size w w' := by
  have hs1 : s.size ≤ 140737488351232 := hs
  have hsi : (s.size : Int) ≤ 140737488351232 := by omega
  have hT' := hid hT
  clear hs hT
  go_enter Tryd.func6, Tryd.ntmps6
  go_wp2_with fail
  refine Calls.mono (awake7_calls w hT'.out h0) ?_
  rintro e w1 ⟨rfl, hb1⟩
  have hB1 := hid hb1
  clear hb1
  go_wp2_with fail
  refine Calls.mono (marksQ_calls s (by omega) w1 (hT'.out.below hB1.out h0) (Nat.lt_of_lt_of_le h0 hB1.out.size)) ?_
  rintro e w2 ⟨g1, -, rfl, hA1, hb2⟩
  have hB2 := hid (hB1.out.trans (hb2.mono hB1.out.size))
  clear hb2 hB1
  go_wp2_with fail
  refine Calls.mono (insideQ_calls s (by omega) w2 (hT'.out.below hB2.out h0) (Nat.lt_of_lt_of_le h0 hB2.out.size)) ?_
  rintro e w3 ⟨g2, -, rfl, hA2, hb3⟩
  replace hA1 := hA1.keptAll hb3
  have hB3 := hid (hB2.out.trans (hb3.mono hB2.out.size))
  clear hb3 hB2
  go_wp2_with fail
  refine Calls.mono (escapedS_calls s (by omega) w3 (hT'.out.below hB3.out h0) (Nat.lt_of_lt_of_le h0 hB3.out.size)) ?_
  rintro e w4 ⟨g3, -, rfl, hA3, hb4⟩
  replace hA1 := hA1.keptAll hb4
  replace hA2 := hA2.keptAll hb4
  have hB4 := hid (hB3.out.trans (hb4.mono hB3.out.size))
  clear hb4 hB3
  have hC0 : TuC w s w4.heap.size (w4.heap.size + 1) (w4.heap.size + 1 + 1) g1 g2 g3 (((w4.alloc (.cells #[.int .i64 (s.size : Int), .slice (some ⟨g1, 0, none⟩) (need s.size) (need s.size)] 25)).alloc (.cells #[.int .i64 (s.size : Int), .slice (some ⟨g2, 0, none⟩) (need s.size) (need s.size)] 25)).alloc (.cells #[.int .i64 (s.size : Int), .slice (some ⟨g3, 0, none⟩) (need s.size) (need s.size)] 25)) := by
    have e2 := RV.of (w4.alloc (.cells #[.int .i64 (s.size : Int), .slice (some ⟨g1, 0, none⟩) (need s.size) (need s.size)] 25)) g2 s.size (inS s) (hA2.alloc _)
    have e3 := RV.of ((w4.alloc (.cells #[.int .i64 (s.size : Int), .slice (some ⟨g1, 0, none⟩) (need s.size) (need s.size)] 25)).alloc (.cells #[.int .i64 (s.size : Int), .slice (some ⟨g2, 0, none⟩) (need s.size) (need s.size)] 25)) g3 s.size (escS s) ((hA3.alloc _).alloc _)
    simp only [World.size_alloc] at e2 e3
    refine ⟨((RV.of w4 g1 s.size (markS s) hA1).alloc _).alloc _, e2.alloc _, e3, ?_⟩
    exact ((hB4.out.alloc hB4.out.size _).alloc (by simp; have := hB4.out.size; omega) _).alloc (by simp; have := hB4.out.size; omega) _
  obtain ⟨m1, hm1⟩ : ∃ m1, Hid (w4.heap.size = m1) := ⟨_, rfl⟩
  have hz5 : (((w4.alloc (.cells #[.int .i64 (s.size : Int), .slice (some ⟨g1, 0, none⟩) (need s.size) (need s.size)] 25)).alloc (.cells #[.int .i64 (s.size : Int), .slice (some ⟨g2, 0, none⟩) (need s.size) (need s.size)] 25)).alloc (.cells #[.int .i64 (s.size : Int), .slice (some ⟨g3, 0, none⟩) (need s.size) (need s.size)] 25)).heap.size = w4.heap.size + 3 := by simp
  obtain ⟨E, q, r, hE⟩ : ∃ E q r, Hid (turnE (s.size : Int) (need s.size) (rowOf (markS s) s.size) E q r) := by
    obtain ⟨E, q, r, h⟩ := turnE_ex (s.size : Int) (need s.size) (rowOf (markS s) s.size)
    exact ⟨E, q, r, h⟩
  obtain ⟨rfl, rfl, rfl⟩ : E = 0 ∧ q = (s.size : Int) ∧ r = need s.size := by
    rcases hE.out with h | h
    · exact (h.1 (rowOf_formed _ _)).elim
    · exact ⟨h.2.1, h.2.2.1, h.2.2.2⟩
  have hpf := hid (fun (u : World) (h : Wds u (some ⟨g1, 0, none⟩) (need s.size) (rowOf (markS s) s.size)) => prefixB_calls (s.size : Int) (some ⟨g1, 0, none⟩) (need s.size) (need s.size) (rowOf (markS s) s.size) 0 (s.size : Int) (need s.size) (wf_size (by omega)) (need_le (by omega)) hE u h)
  unfold bv at hpf
  have hC0' := hid hC0
  clear hA1 hA2 hA3 hB4 hC0
  go_wp2_with fail
  refine Calls.mono (hpf.out _ hC0'.out.m.wds) ?_
  rintro e w5 ⟨hb5, so, hown, rfl⟩
  have hwd : Wds w5 so (need s.size) (rowOf (inS s) s.size) := by
    rcases hown with ⟨rfl, h⟩ | ⟨g4, rfl, -, hA4⟩
    · rw [h]; exact wds_none _ _ _
    · rw [Int.toNat_natCast, show rowCells (need s.size) (rowOf (fun i => oddB (rowOf (markS s) s.size) (i + 1)) s.size) = rowCells (need s.size) (rowOf (inS s) s.size) from rowCells_congr (fun j _ => inS_row s j)] at hA4
      exact hA4.row6
  have hC1 := hC0'.out.kept hb5
  obtain ⟨b6, hb6⟩ : ∃ b6, Hid (w5.heap.size = b6) := ⟨_, rfl⟩
  have hp6 := At.new w5 #[.int .i64 (s.size : Int), .slice so (need s.size) (need s.size)] 25
  have hwd6 := hwd.kept ((Below.refl w5.heap.size w5).alloc (Nat.le_refl _) (.cells #[.int .i64 (s.size : Int), .slice so (need s.size) (need s.size)] 25))
  have hC2 := hC1.kept ((Below.refl w5.heap.size w5).alloc (Nat.le_refl _) (.cells #[.int .i64 (s.size : Int), .slice so (need s.size) (need s.size)] 25))
  obtain ⟨k0, k1⟩ := hC2.m.facts
  obtain ⟨l0, l1⟩ := hC2.i.facts
  have hwd6' := hid hwd6
  have hC2' := hid hC2
  have e0 : ((s.size : Int) != (s.size : Int)) = false := by simp
  clear hwd hC0' hC1 hown hb5 hwd6 hC2 hp6 hpf hE
  unfold bv
  go_wp2_with fail
  refine Calls.mono (same6 (by omega) _ _ _ _ _ hwd6'.out hC2'.out.i.wds) ?_
  rintro e w6 ⟨rfl, hb7⟩
  have hC3 := hid (hC2'.out.kept hb7)
  clear hb7 hC2' hwd6' k0 k1 l0 l1 hb6 hz5
  obtain ⟨m2, hm2⟩ : ∃ m2, Hid (w4.heap.size + 1 = m2) := ⟨_, rfl⟩
  obtain ⟨m3, hm3⟩ : ∃ m3, Hid (w4.heap.size + 1 + 1 = m3) := ⟨_, rfl⟩
  rw [hm3.out, hm2.out, hm1.out] at hC3
  go_wp2_with fail
  rw [hm3.out, hm2.out, hm1.out]
  clear hm1 hm2 hm3
  go_loopw [8, 9] (fun cc ii wr => ∃ (i : Nat) (c : Int), i ≤ s.size ∧ ii = .int .i64 (i : Int) ∧ cc = .int .i64 c ∧ Hid (CtlTo s i c) ∧ TuC w s m1 m2 m3 g1 g2 g3 wr) (fun _ ii _ => s.size - (intOf ii).toNat)
  case atStart => exact ⟨0, -1, Nat.zero_le _, rfl, rfl, .inl ⟨rfl, fun j hj => by omega⟩, hC3.out⟩
  case round =>
    obtain ⟨i, c, hi, rfl, rfl, hc, hJ⟩ := hrel
    clear hC3
    have hJ' := hid hJ
    clear hJ
    by_cases hlt : i < s.size
    · have hli : (i : Int) < (s.size : Int) := by omega
      obtain ⟨x, hxe⟩ : ∃ x, s[i].toNat = x := ⟨_, rfl⟩
      have h34 := quoB_at s i hlt
      have hct := ctlB_at s i hlt
      rw [hxe] at h34 hct
      obtain ⟨B, hBm⟩ : ∃ B, Hid (markS s i = B) := ⟨_, rfl⟩
      obtain ⟨Q, hBe⟩ : ∃ Q, Hid (escS s i = Q) := ⟨_, rfl⟩
      obtain ⟨Y, hBi⟩ : ∃ Y, Hid (inS s i = Y) := ⟨_, rfl⟩
      have hBQ : Hid (B = (decide (x = 34) && !Q)) := by show _ = _; rw [← hBm.out, markS, h34, hBe.out]
      have hct' := hid hct
      have hm6 := hid (fun (u : World) (h : TuC w s m1 m2 m3 g1 g2 g3 u) => get6 (G := markS s) (by omega) i hlt B hBm (some ⟨g1, 0, none⟩) (need s.size) u h.m.wds)
      have he6 := hid (fun (u : World) (h : TuC w s m1 m2 m3 g1 g2 g3 u) => get6 (G := escS s) (by omega) i hlt Q hBe (some ⟨g3, 0, none⟩) (need s.size) u h.e.wds)
      have hi6 := hid (fun (u : World) (h : TuC w s m1 m2 m3 g1 g2 g3 u) => get6 (G := inS s) (by omega) i hlt Y hBi (some ⟨g2, 0, none⟩) (need s.size) u h.i.wds)
      clear h34 hct hBm hBe
      -- behind the first look
      have next : ∀ c', Hid (CtlTo s (i + 1) c') → True := fun _ _ => trivial
      clear next
      by_cases x34 : x = 34
      · subst x34
        obtain rfl : B = !Q := by rw [hBQ.out]; simp
        have eb : ((!Q) != (!Q)) = false := by simp
        clear hBQ
        go_wp2_with fail
        refine wp_region_quiet (C := (fun w' => TuC w s m1 m2 m3 g1 g2 g3 w')) (by kernel_rfl) (by kernel_rfl) (TuC.drew hJ'.out) ?_
        dsimp only
        repeat (first
          | (refine wpQuiet_skip (by rfl) ?_; simp only [Act.put, List.setIfInBounds_toArray, List.set_cons_zero, List.set_cons_succ])
          | (refine wpQuiet_load 25 _ (m1) (0) [.int .i64 (s.size : Int), .slice (some ⟨g1, 0, none⟩) (need s.size) (need s.size)] _ (fun wq hq => (TuC.m hq).range) Tryd.underlying25 sizeBits rfl rfl rfl (by rfl) ?_; simp only [Act.put, List.setIfInBounds_toArray, List.set_cons_zero, List.set_cons_succ])
          | (refine wpQuiet_load 25 _ (m3) (0) [.int .i64 (s.size : Int), .slice (some ⟨g3, 0, none⟩) (need s.size) (need s.size)] _ (fun wq hq => (TuC.e hq).range) Tryd.underlying25 sizeBits rfl rfl rfl (by rfl) ?_; simp only [Act.put, List.setIfInBounds_toArray, List.set_cons_zero, List.set_cons_succ])
          | (refine' wpQuiet_take (by rfl) ?_ ?_
             rotate_left
             · (intro wq hq; (try dsimp only at hq); go_simp
                first
                  | done
                  | with_reducible rfl
                  | (go_at_call 24; have hzz := hm6.out _ hq; with_reducible refine hzz.mono ?_; clear hzz; rintro e wz ⟨rfl, hb⟩; exact ⟨rfl, TuC.kept hq hb⟩)
                  | (go_at_call 24; have hzz := he6.out _ hq; with_reducible refine hzz.mono ?_; clear hzz; rintro e wz ⟨rfl, hb⟩; exact ⟨rfl, TuC.kept hq hb⟩)
               )
             simp only [Act.put, List.setIfInBounds_toArray, List.set_cons_zero, List.set_cons_succ]))
        refine wpQuiet_nil ?_
        intro wz hz
        have hz' := hid hz
        clear hz hJ'
        rcases hc.out with ⟨rfl, hz⟩ | ⟨hc0, hcc⟩
        · have hst : Hid (CtlTo s (i + 1) (-1)) := .inl ⟨rfl, fun j hj => by
            by_cases he : j = i
            · rw [he, hct'.out, decide_eq_false (by omega)]; simp
            · exact hz j (by omega)⟩
          clear hz hc hm6 he6 hi6 hct' hBi
          go_wp2
          go_roundw
          case rel => exact ⟨i + 1, -1, by omega, by simp, rfl, hst, hz'.out⟩
          case measure => simp [intOf]; omega
        · have hst : Hid (CtlTo s (i + 1) c) := .inr ⟨hc0, hcc⟩
          have ec : ¬ c < 0 := by omega
          clear hcc hc hm6 he6 hi6 hct' hBi hc0
          go_wp2
          go_roundw
          case rel => exact ⟨i + 1, c, by omega, by simp, rfl, hst, hz'.out⟩
          case measure => simp [intOf]; omega
      · obtain rfl : B = false := by rw [hBQ.out]; simp [x34]
        have x34i : ((x : Int) == 34) = false := by simp; omega
        clear hBQ
        go_wp2_with fail
        refine wp_region_quiet (C := (fun w' => TuC w s m1 m2 m3 g1 g2 g3 w')) (by kernel_rfl) (by kernel_rfl) (TuC.drew hJ'.out) ?_
        dsimp only
        repeat (first
          | (refine wpQuiet_skip (by rfl) ?_; simp only [Act.put, List.setIfInBounds_toArray, List.set_cons_zero, List.set_cons_succ])
          | (refine wpQuiet_load 25 _ (m1) (0) [.int .i64 (s.size : Int), .slice (some ⟨g1, 0, none⟩) (need s.size) (need s.size)] _ (fun wq hq => (TuC.m hq).range) Tryd.underlying25 sizeBits rfl rfl rfl (by rfl) ?_; simp only [Act.put, List.setIfInBounds_toArray, List.set_cons_zero, List.set_cons_succ])
          | (refine' wpQuiet_take (by rfl) ?_ ?_
             rotate_left
             · (intro wq hq; (try dsimp only at hq); go_simp
                first
                  | done
                  | with_reducible rfl
                  | (go_at_call 24; have hzz := hm6.out _ hq; with_reducible refine hzz.mono ?_; clear hzz; rintro e wz ⟨rfl, hb⟩; exact ⟨rfl, TuC.kept hq hb⟩)
               )
             simp only [Act.put, List.setIfInBounds_toArray, List.set_cons_zero, List.set_cons_succ]))
        refine wpQuiet_nil ?_
        intro wz hz
        have hz' := hid hz
        clear hz hJ'
        by_cases x32 : x < 32
        · have x32i : (x : Int) < 32 := by omega
          rcases hc.out with ⟨rfl, hz⟩ | ⟨hc0, hcc⟩
          · have hst : Hid (CtlTo s (i + 1) (if Y then (i : Int) else -1)) := by
              cases Y with
              | true => exact .inr ⟨by simp, .inl ⟨i, rfl, hlt, hBi.out, by rw [hct'.out]; simpa using x32, hz⟩⟩
              | false => exact .inl ⟨rfl, fun j hj => by
                  by_cases he : j = i
                  · rw [he, hBi.out]; rfl
                  · exact hz j (by omega)⟩
            obtain ⟨l0, l1⟩ := hz'.out.i.facts
            clear hz hc hm6 he6 hct' hBi
            go_wp2_with fail
            refine Calls.mono (hi6.out _ hz'.out) ?_
            rintro e wy ⟨rfl, hby⟩
            have hy' := hid (hz'.out.kept hby)
            clear hby hz' hi6 l0 l1
            cases Y with
            | true =>
              go_wp2
              go_roundw
              case rel => exact ⟨i + 1, (i : Int), by omega, by simp, rfl, hst, hy'.out⟩
              case measure => simp [intOf]; omega
            | false =>
              go_wp2
              go_roundw
              case rel => exact ⟨i + 1, -1, by omega, by simp, rfl, hst, hy'.out⟩
              case measure => simp [intOf]; omega
          · have hst : Hid (CtlTo s (i + 1) c) := .inr ⟨hc0, hcc⟩
            have ec : ¬ c < 0 := by omega
            clear hcc hc hm6 he6 hi6 hct' hBi hc0
            go_wp2
            go_roundw
            case rel => exact ⟨i + 1, c, by omega, by simp, rfl, hst, hz'.out⟩
            case measure => simp [intOf]; omega
        · rcases hc.out with ⟨rfl, hz⟩ | ⟨hc0, hcc⟩
          · have hst : Hid (CtlTo s (i + 1) (-1)) := .inl ⟨rfl, fun j hj => by
              by_cases he : j = i
              · rw [he, hct'.out, decide_eq_false (by omega)]; simp
              · exact hz j (by omega)⟩
            have x32i : ¬ (x : Int) < 32 := by omega
            clear hz hc hm6 he6 hi6 hct' hBi
            go_wp2
            go_roundw
            case rel => exact ⟨i + 1, -1, by omega, by simp, rfl, hst, hz'.out⟩
            case measure => simp [intOf]; omega
          · have hst : Hid (CtlTo s (i + 1) c) := .inr ⟨hc0, hcc⟩
            have ec : ¬ c < 0 := by omega
            clear hcc hc hm6 he6 hi6 hct' hBi hc0
            go_wp2
            go_roundw
            case rel => exact ⟨i + 1, c, by omega, by simp, rfl, hst, hz'.out⟩
            case measure => simp [intOf]; omega
    · obtain rfl : i = s.size := by omega
      obtain ⟨O, hO⟩ : ∃ O, Hid (openS s = O) := ⟨_, rfl⟩
      have hOg : Hid (getB (rowOf (inS s) s.size) s.size ((s.size : Int) - 1) = O) := by
        show _ = _
        by_cases hn : s.size = 0
        · rw [getB_lo (by omega), ← hO.out, openS, hn]; rfl
        · rw [show (s.size : Int) - 1 = ((s.size - 1 : Nat) : Int) by omega, getB_nat (by omega), rowOf_bit, decide_eq_true (by omega), Bool.true_and, ← hO.out, openS, inS]
          congr 1; omega
      have hcc : Hid (IsCtl s c) := by
        rcases hc.out with ⟨rfl, hz⟩ | ⟨-, h⟩
        · exact .inr ⟨rfl, hz⟩
        · exact h
      have ho6 := hid (fun (u : World) (h : TuC w s m1 m2 m3 g1 g2 g3 u) => openQ_calls s (by omega) O hO u (hT'.out.below h.b h0) (Nat.lt_of_lt_of_le h0 h.b.size))
      obtain ⟨L, hL⟩ : ∃ L : Int, Hid ((s.size : Int) - 1 = L) := ⟨_, rfl⟩
      have eL : (s.size : Int) - 1 = L := hL.out
      have hL1 : -1 ≤ L := by omega
      have hL2 : L ≤ 140737488351232 := by omega
      have hwL : IntKind.i64.wrap L = L := by rw [IntKind.wrap_i64]; omega
      rw [eL] at hOg
      have hg6 := hid (fun (u : World) (h : TuC w s m1 m2 m3 g1 g2 g3 u) => getI (G := inS s) (by omega) L (by omega) (by omega) O hOg (some ⟨g2, 0, none⟩) (need s.size) u h.i.wds)
      have hc6 := hid (fun (u : World) (h : TuC w s m1 m2 m3 g1 g2 g3 u) => controlQ_calls s (by omega) c hcc u (hT'.out.below h.b h0) (Nat.lt_of_lt_of_le h0 h.b.size))
      have eO : (O == O) = true := by simp
      clear hO hOg hcc hc hi
      go_wp2_with fail
      refine wp_region_quiet (C := (fun w' => TuC w s m1 m2 m3 g1 g2 g3 w')) (by kernel_rfl) (by kernel_rfl) (TuC.drew hJ'.out) ?_
      dsimp only
      repeat (first
        | (refine wpQuiet_skip (by rfl) ?_; simp only [Act.put, List.setIfInBounds_toArray, List.set_cons_zero, List.set_cons_succ])
        | (refine wpQuiet_load 25 _ (m2) (0) [.int .i64 (s.size : Int), .slice (some ⟨g2, 0, none⟩) (need s.size) (need s.size)] _ (fun wq hq => (TuC.i hq).range) Tryd.underlying25 sizeBits rfl rfl rfl (by rfl) ?_; simp only [Act.put, List.setIfInBounds_toArray, List.set_cons_zero, List.set_cons_succ])
        | (refine' wpQuiet_take (by rfl) ?_ ?_
           rotate_left
           · (intro wq hq; (try dsimp only at hq); go_simp
              first
                | done
                | with_reducible rfl
                | (go_at_call 14; have hzz := ho6.out _ hq; with_reducible refine hzz.mono ?_; clear hzz; rintro e wz ⟨rfl, hb⟩; exact ⟨rfl, TuC.kept hq hb⟩)
                | (go_at_call 24; have hzz := hg6.out _ hq; with_reducible refine hzz.mono ?_; clear hzz; rintro e wz ⟨rfl, hb⟩; exact ⟨rfl, TuC.kept hq hb⟩)
                | (go_at_call 17; have hzz := hc6.out _ hq; with_reducible refine hzz.mono ?_; clear hzz; rintro e wz ⟨rfl, hb⟩; exact ⟨rfl, TuC.kept hq hb⟩)
             )
           simp only [Act.put, List.setIfInBounds_toArray, List.set_cons_zero, List.set_cons_succ]))
      refine wpQuiet_nil ?_
      intro wz hz
      have hz' := hid hz
      clear hz hJ'
      go_wp2
      go_ret
      exact ⟨rfl, hz'.out.b⟩
end Go.Proofs.YtmjmcdoanolelaaDoor
