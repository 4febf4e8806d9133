/-
  What quarryref08.Blanks answers.
-/
import Derived.Test.YtmgbgphlkhkldaaDoorRefM2
import Derived.Test.YtmgbgphlkhkldaaDoorBitsC
import Derived.Deep.DeepCutAuto
namespace Go.Proofs.YtmgbgphlkhkldaaDoor
open Go.RowKit Go.Shelf

/-! The row of the first i bits, word by word. -/
theorem row_grow {G : Nat → Bool} {i : Nat} (h : i % 64 = 0) : wl (rowOf G i) (need i) ++ [.int .u64 0] = wl (rowOf G i) (need (i + 1)) := by
  have e : need (i + 1) = need i + 1 := by unfold need; omega
  have h0 : rowOf G i (need i) = 0 := by
    refine (rowOf_eq (by decide) fun r hr => ?_).symm
    rw [decide_eq_false (by unfold need; omega)]
    simp
  rw [e, ← wl_succ, h0]
  rfl
theorem need_same {i : Nat} (h : i % 64 ≠ 0) : need (i + 1) = need i := by unfold need; omega
theorem row_f {G : Nat → Bool} {i : Nat} (h : G i = false) (k : Nat) : wl (rowOf G i) k = wl (rowOf G (i + 1)) k := by
  unfold wl
  refine List.map_congr_left fun j _ => ?_
  have e : rowOf G i j = rowOf G (i + 1) j := rowOf_eq (rowOf_lt _ _ _) fun r hr => by
    rw [← bitAt_word _ _ _ hr, rowOf_bit]
    by_cases he : 64 * j + r = i
    · rw [he, h]; simp
    · by_cases hl : 64 * j + r < i
      · rw [decide_eq_true hl, decide_eq_true (by omega)]
      · rw [decide_eq_false hl, decide_eq_false (by omega)]
  rw [e]
theorem wl_get {Y : Nat → Nat} {k j : Nat} (h : j < k) : (wl Y k)[j]? = some (.int .u64 ((Y j : Nat) : Int)) := by simp [wl, h]
theorem row_t {G : Nat → Bool} {i : Nat} (h : G i = true) (k x : Nat) (hx : rowOf G i (i / 64) = x) : (wl (rowOf G i) k).set (i / 64) (.int .u64 ((x ||| 2 ^ (i % 64) : Nat) : Int)) = wl (rowOf G (i + 1)) k := by
  apply List.ext_getElem?
  intro j
  by_cases hj : j < k
  · rw [wl_get hj]
    by_cases he : i / 64 = j
    · subst he
      rw [List.getElem?_set_self (by simpa [wl] using hj)]
      have e : x ||| 2 ^ (i % 64) = rowOf G (i + 1) (i / 64) := rowOf_eq (Nat.or_lt_two_pow (n := 64) (hx ▸ rowOf_lt _ _ _) (Nat.pow_lt_pow_right (by decide) (Nat.mod_lt _ (by decide)))) fun r hr => by
        rw [Nat.testBit_or, ← hx, ← bitAt_word _ _ _ hr, rowOf_bit, Nat.testBit_two_pow]
        by_cases hr' : i % 64 = r
        · rw [decide_eq_true hr', show 64 * (i / 64) + r = i by omega, h]; simp
        · rw [decide_eq_false hr', Bool.or_false]
          by_cases hl : 64 * (i / 64) + r < i
          · rw [decide_eq_true hl, decide_eq_true (by omega)]
          · rw [decide_eq_false hl, decide_eq_false (by omega)]
      rw [e]
    · rw [List.getElem?_set_ne he, wl_get hj]
      have e : rowOf G i j = rowOf G (i + 1) j := rowOf_eq (rowOf_lt _ _ _) fun r hr => by
        rw [← bitAt_word _ _ _ hr, rowOf_bit]
        by_cases hl : 64 * j + r < i
        · rw [decide_eq_true hl, decide_eq_true (by omega)]
        · rw [decide_eq_false hl, decide_eq_false (by omega)]
      rw [e]
  · rw [List.getElem?_eq_none (by simp [wl]; omega), List.getElem?_eq_none (by simp [wl]; omega)]

set_option maxRecDepth 10000 in
set_option maxHeartbeats 4000000 in
theorem refBlanks_calls (s : ByteArray) (hs : s.size ≤ 1048576) (w : World) :
    Calls Tryd.prog 14 #[.string s] w fun e w' => ∃ v, e = .returned (.agg #[.int .i64 (s.size : Int), v]) ∧ w'.ownsRow w.heap.size 30 1 v (need s.size) (wl (rowOf (blankS s) s.size) (need s.size)) ∧ Below w.heap.size w w' := by
  obtain ⟨i0, hi0, hz0, hz1, hz2⟩ := info_parts infoW
  have hby := hid (fun (w1 : World) => bytes8_calls s hs w1)
  have hsi : (s.size : Int) ≤ 1048576 := by omega
  go_enter Tryd.func14, Tryd.ntmps14
  go_wp2_with fail
  refine Calls.mono (hby.out _) ?_
  rintro e V ⟨v0, rfl, hr, hbV⟩
  obtain ⟨ao, cap, rfl, hK⟩ := kd_row hr
  have hK' := hid hK
  have hB1 : Below w.heap.size w V := Below.trans (by repeat (first | with_reducible exact Below.refl _ _ | with_reducible refine Below.setCell ?_ (by first | (simp; done) | (simp; omega)) _ | with_reducible refine below_drewN ?_ _ | with_reducible refine Below.alloc ?_ (by first | (simp; done) | (simp; omega)) _ | with_reducible refine Below.drew ?_)) (hbV.mono (by simp))
  have hr0 := hid ((At.new w #[.int .i64 0, .slice none 0 0] 28).keptAll hbV)
  have hlt0 := hr0.out.lt
  clear hr hK hbV hby
  go_wp2
  go_loopw [5] (fun ii wr => ∃ (i : Nat) (v : Value), i ≤ s.size ∧ ii = .int .i64 (i : Int) ∧ At wr w.heap.size #[.int .i64 0, .slice none 0 0] 28 ∧ At wr V.heap.size #[.int .i64 (s.size : Int), v] 28 ∧ wr.ownsRow (V.heap.size + 1) 30 1 v (need i) (wl (rowOf (blankS s) i) (need i)) ∧ Below V.heap.size V wr) (fun ii _ => s.size - (intOf ii).toNat)
  case atStart => exact ⟨0, .slice none 0 0, Nat.zero_le _, rfl, hr0.out.alloc _, At.new V _ _, World.ownsRow_nil _ _ _ _, by repeat (first | with_reducible exact Below.refl _ _ | with_reducible refine Below.setCell ?_ (by first | (simp; done) | (simp; omega)) _ | with_reducible refine below_drewN ?_ _ | with_reducible refine Below.alloc ?_ (by first | (simp; done) | (simp; omega)) _ | with_reducible refine Below.drew ?_)⟩
  case round =>
    obtain ⟨i, v, hi, rfl, a1, a2, hown, hb⟩ := hrel
    obtain ⟨c2, c3, f2, f3⟩ := a2.facts
    have hsz := a2.lt
    have t1 := hid a1
    have t2 := hid a2
    have hrow := hid hown
    clear a1 a2 hown
    by_cases hlt : i < s.size
    · have hii : (i : Int) < (s.size : Int) := by omega
      obtain ⟨q, hq⟩ : ∃ q, Hid (i / 64 = q) := ⟨_, rfl⟩
      obtain ⟨r, hr⟩ : ∃ r, Hid (i % 64 = r) := ⟨_, rfl⟩
      have hr64 : r < 64 := by have := hr.out; omega
      have eq1 : (i : Int) / 64 = (q : Int) := by have := hq.out; omega
      have er1 : (i : Int) % 64 = (r : Int) := by have := hr.out; omega
      have hKb := hid (hK'.out.kept (Nat.le_refl _) hb)
      by_cases hm : r = 0
      · subst hm
        have hgrow := hid (row_grow (G := blankS s) hr.out)
        go_wp2_with (first
          | (at_builtin; refine wpList_append_own _ rfl _ _ 26 rfl (V.heap.size + 1) 30 i0 (.int .u64 0) 1 8 Tryd.underlying26 hi0 hz0 hz1 hz2 rfl (by decide) _ _ _ rfl (World.ownsRow.alloc hrow.out _) ⟨wr.heap.size, 0, none⟩ 1 1 [.int .u64 0] rfl rfl (fun j u hj => by match j, hj with | 0, hj => simp at hj; subst hj; simp [Addr.add]) (fun u hu => by simp at hu; subst hu; rfl) (by unfold maxLen need; omega) (by unfold need; omega) (by simp; omega) ?_)
          | go_in)
        intro v' w1 hown1 hgr _
        have hlt' : ∀ r, v.ownBlock = some r → V.heap.size + 1 ≤ r := fun r e => (hrow.out.lt r e).1
        have b1 := t1.out.grown hgr hlt' (by omega)
        have b2 := t2.out.grown hgr hlt' (by omega)
        have hb' : Below V.heap.size V w1 := (hb.alloc hb.size _).grown hgr (by simp; omega) (fun b e => by have := hlt' b e; omega)
        rw [hgrow.out, show need i + 1 = need (i + 1) by have := hr.out; unfold need; omega] at hown1
        obtain ⟨M, hM⟩ : ∃ M, Hid (need (i + 1) = M) := ⟨_, rfl⟩
        have hqM : q < M := by have := hM.out; have := hq.out; unfold need at *; omega
        rw [hM.out] at hown1
        obtain ⟨g', cap', rfl⟩ : ∃ g cap, v' = .slice (some ⟨g, 0, none⟩) M cap := by
          obtain ⟨M', rfl⟩ : ∃ M', M = M' + 1 := ⟨M - 1, by omega⟩
          exact row_succ hown1
        obtain ⟨c2, c3, f2, f3⟩ := b2.facts
        have t1 := hid b1
        have t2 := hid b2
        have hrow := hid hown1
        have hb1 := hid hb'
        have hsz1 := b2.lt
        clear hgr hown1 b1 b2 hlt' hgrow hb'
        obtain ⟨X, hX⟩ : ∃ X, X = w1.setCell ⟨V.heap.size, 1, none⟩ (.slice (some ⟨g', 0, none⟩) M cap') := ⟨_, rfl⟩
        have s1 := hid (show At X w.heap.size #[.int .i64 0, .slice none 0 0] 28 by rw [hX]; exact t1.out.other (p := ⟨V.heap.size, 1, none⟩) (by show w.heap.size ≠ V.heap.size; omega) _)
        have s2 := hid (show At X V.heap.size #[.int .i64 (s.size : Int), .slice (some ⟨g', 0, none⟩) M cap'] 28 by rw [hX]; have := t2.out.set 1 (.slice (some ⟨g', 0, none⟩) M cap'); simpa using this)
        have s3 := hid (show X.ownsRow (V.heap.size + 1) 30 1 (.slice (some ⟨g', 0, none⟩) M cap') M (wl (rowOf (blankS s) i) M) by rw [hX]; exact row_other hrow.out (p := ⟨V.heap.size, 1, none⟩) (by show V.heap.size < V.heap.size + 1; omega) _)
        have hbX : Below V.heap.size V X := by rw [hX]; exact hb1.out.setCell (p := ⟨V.heap.size, 1, none⟩) (Nat.le_refl _) _
        go_upto_region 8 with fail
        rw [← hX]
        clear hX t1 t2 hrow c2 c3 f2 f3 hb1 hKb hsz hsz1
        obtain ⟨d2, d3, n2, n3⟩ := s2.out.facts
        obtain ⟨gk, rfl, hgk, hkc⟩ := (hK'.out.kept (Nat.le_refl _) hbX) i hlt
        obtain ⟨k, hk⟩ : ∃ k, Hid (kdS s i = k) := ⟨_, rfl⟩
        rw [hk.out] at hkc
        have hqMi : (q : Int) < (M : Int) := by omega
        have r0 := s3.out.cellAt q (by omega)
        have r1 := s3.out.frozenAt q
        rw [wl_get hqM] at r0
        obtain ⟨x, hx⟩ : ∃ x, Hid (rowOf (blankS s) i q = x) := ⟨_, rfl⟩
        rw [hx.out] at r0
        have hxl : x < 18446744073709551616 := hx.out ▸ rowOf_lt _ _ _
        have hbl := kd_blank hlt
        rw [hk.out] at hbl
        have hgg : V.heap.size + 1 ≤ g' := (s3.out.lt g' rfl).1
        have hgl := (s3.out.lt g' rfl).2
        have hgkl : gk < X.heap.size := hgk
        by_cases k2 : k = 2
        · subst k2
          have hrt := hid (row_t (G := blankS s) (hbl.1 rfl) M x (by rw [hq.out]; exact hx.out))
          rw [hq.out, hr.out, Nat.pow_zero] at hrt
          have eor : bits BinOp.or IntKind.u64 (x : Int) 1 = ((x ||| 1 : Nat) : Int) := u64_or_nat x 1 hxl (by decide)
          clear hk hbl hx
          go_wp2
          go_region
          go_wp2
          go_roundw
          case rel =>
            refine ⟨i + 1, .slice (some ⟨g', 0, none⟩) M cap', by omega, by go_num, s1.out.other (p := ⟨g', q, none⟩) (by show w.heap.size ≠ g'; have := hB1.size; omega) _, s2.out.other (p := ⟨g', q, none⟩) (by show V.heap.size ≠ g'; omega) _, ?_, (hbX.setCell (p := ⟨g', q, none⟩) (by show V.heap.size ≤ g'; omega) _).drew⟩
            have h := s3.out.stored q (.int .u64 ((x ||| 1 : Nat) : Int))
            rw [hrt.out] at h
            rw [hM.out]
            exact h.1.drew
          case measure => simp [intOf]; omega
        · have k2' : ((k : Int) == 2) = false := by simp; omega
          have hbf : blankS s i = false := by
            cases hh : blankS s i
            · rfl
            · exact absurd (hbl.2 hh) k2
          have hrf := hid (row_f (G := blankS s) hbf M)
          clear hk hbl hx
          go_wp2
          go_roundw
          case rel =>
            refine ⟨i + 1, .slice (some ⟨g', 0, none⟩) M cap', by omega, by go_num, s1.out, s2.out, ?_, hbX⟩
            rw [hM.out, ← hrf.out]
            exact s3.out
          case measure => simp [intOf]; omega
      · have hmi : ((r : Int) == 0) = false := by simp; omega
        have hne : Hid (need (i + 1) = need i) := need_same (by have := hr.out; omega)
        obtain ⟨M, hM⟩ : ∃ M, Hid (need (i + 1) = M) := ⟨_, rfl⟩
        have hqM : q < M := by have := hM.out; have := hq.out; unfold need at *; omega
        rw [← hne.out, hM.out] at hrow
        obtain ⟨g', cap', rfl⟩ : ∃ g cap, v = .slice (some ⟨g, 0, none⟩) M cap := by
          have hown1 := hrow.out
          obtain ⟨M', rfl⟩ : ∃ M', M = M' + 1 := ⟨M - 1, by omega⟩
          exact row_succ hown1
        have hb1 := hid hb
        have s1 := t1
        have s2 := t2
        have s3 := hrow
        have hbX := hb
        clear t1 t2 hrow c2 c3 f2 f3 hKb hb1
        obtain ⟨d2, d3, n2, n3⟩ := s2.out.facts
        obtain ⟨gk, rfl, hgk, hkc⟩ := (hK'.out.kept (Nat.le_refl _) hbX) i hlt
        obtain ⟨k, hk⟩ : ∃ k, Hid (kdS s i = k) := ⟨_, rfl⟩
        rw [hk.out] at hkc
        have hqMi : (q : Int) < (M : Int) := by omega
        have r0 := s3.out.cellAt q (by omega)
        have r1 := s3.out.frozenAt q
        rw [wl_get hqM] at r0
        obtain ⟨x, hx⟩ : ∃ x, Hid (rowOf (blankS s) i q = x) := ⟨_, rfl⟩
        rw [hx.out] at r0
        have hxl : x < 18446744073709551616 := hx.out ▸ rowOf_lt _ _ _
        have hbl := kd_blank hlt
        rw [hk.out] at hbl
        have hgg : V.heap.size + 1 ≤ g' := (s3.out.lt g' rfl).1
        have hgl := (s3.out.lt g' rfl).2
        have hgkl : gk < wr.heap.size := hgk
        by_cases k2 : k = 2
        · subst k2
          have hrt := hid (row_t (G := blankS s) (hbl.1 rfl) M x (by rw [hq.out]; exact hx.out))
          rw [hq.out, hr.out] at hrt
          have eor := or_pow hxl hr64
          have hwr : IntKind.u64.wrap (r : Int) = (r : Int) := by rw [IntKind.wrap_u64]; omega
          clear hk hbl hx
          go_wp2
          go_region
          go_wp2
          go_roundw
          case rel =>
            refine ⟨i + 1, .slice (some ⟨g', 0, none⟩) M cap', by omega, by go_num, s1.out.other (p := ⟨g', q, none⟩) (by show w.heap.size ≠ g'; have := hB1.size; omega) _, s2.out.other (p := ⟨g', q, none⟩) (by show V.heap.size ≠ g'; omega) _, ?_, (hbX.setCell (p := ⟨g', q, none⟩) (by show V.heap.size ≤ g'; omega) _).drew⟩
            have h := s3.out.stored q (.int .u64 ((x ||| 2 ^ r : Nat) : Int))
            rw [hrt.out] at h
            rw [hM.out]
            exact h.1.drew
          case measure => simp [intOf]; omega
        · have k2' : ((k : Int) == 2) = false := by simp; omega
          have hbf : blankS s i = false := by
            cases hh : blankS s i
            · rfl
            · exact absurd (hbl.2 hh) k2
          have hrf := hid (row_f (G := blankS s) hbf M)
          clear hk hbl hx
          go_wp2
          go_roundw
          case rel =>
            refine ⟨i + 1, .slice (some ⟨g', 0, none⟩) M cap', by omega, by go_num, s1.out, s2.out, ?_, hbX⟩
            rw [hM.out, ← hrf.out]
            exact s3.out
          case measure => simp [intOf]; omega
    · obtain rfl : i = s.size := by omega
      obtain ⟨vo, vc, rfl⟩ := row_slice hrow.out
      obtain ⟨c0, c1, f0, f1⟩ := t1.out.facts
      have hs1 := hB1.size
      go_wp2
      refine ret_bits1 rfl rfl t1.out.two rfl ⟨_, rfl, ?_, ((hB1.trans (hb.mono hB1.size)).setCell (p := ⟨w.heap.size, 0, none⟩) (Nat.le_refl _) _).setCell (p := ⟨w.heap.size, 1, none⟩) (Nat.le_refl _) _⟩
      exact row_base (row_other (row_other hrow.out (p := ⟨w.heap.size, 0, none⟩) (by show w.heap.size < V.heap.size + 1; omega) _) (p := ⟨w.heap.size, 1, none⟩) (by show w.heap.size < V.heap.size + 1; omega) _) (by omega)
end Go.Proofs.YtmgbgphlkhkldaaDoor
