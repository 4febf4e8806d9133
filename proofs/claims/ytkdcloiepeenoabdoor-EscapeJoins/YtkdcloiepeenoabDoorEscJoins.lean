/-
  The walk of quarrylaw06.EscapeJoins.
-/
import Derived.Test.YtkdcloiepeenoabDoorEscRows
namespace Go.Proofs.YtkdcloiepeenoabDoor
open Go.RowKit Go.Shelf

theorem size_join (s t : ByteArray) : (s ++ t).size = s.size + t.size := ByteArray.size_append
theorem slash_join (s t : ByteArray) (i : Nat) : slash (s ++ t) i = if i < s.size then slash s i else slash t (i - s.size) := by
  unfold slash
  rw [ByteArray.data_append, Array.getElem?_append]
  show decide (((if i < s.size then s.data[i]? else t.data[i - s.size]?).getD 0).toNat = 92) = _
  split <;> rfl
theorem esc_first (s t : ByteArray) (c : Bool) (i : Nat) (hi : i ≤ s.size) : escG (slash (s ++ t)) c i = escG (slash s) c i :=
  escG_congr c fun j hj => by rw [slash_join, if_pos (by omega)]
theorem esc_second (s t : ByteArray) (c : Bool) (i : Nat) : escG (slash (s ++ t)) c (s.size + i) = escG (slash t) (behindS s c) i := by
  rw [escG_add, esc_first s t c s.size (Nat.le_refl _)]
  exact escG_congr _ fun j _ => by rw [slash_join, if_neg (by omega), Nat.add_sub_cancel_left]
theorem behind_join (s t : ByteArray) (c : Bool) : behindS (s ++ t) c = behindS t (behindS s c) := by
  unfold behindS
  rw [size_join, esc_second]
  rfl

set_option maxRecDepth 10000 in
set_option maxHeartbeats 4000000 in
theorem escapeJoins_walk (s : ByteArray) (hs : s.size ≤ reachBytes) (t : ByteArray) (ht : t.size ≤ reachBytes) (c : Bool) (w : World) (hT : Tab w) (h0 : 0 < w.heap.size) :
    Calls Tryd.prog 3 #[.string s, .string t, .bool c] w fun e w' => e = .returned (.bool true) ∧ Below w.heap.size w w' := by
  have hs1 : s.size ≤ 140737488351232 := hs
  have ht1 : t.size ≤ 140737488351232 := ht
  have hsi : (s.size : Int) ≤ 140737488351232 := by omega
  have hti : (t.size : Int) ≤ 140737488351232 := by omega
  have hT' := hid hT
  have h0' := hid h0
  clear hs ht hT h0
  obtain ⟨m, hm⟩ : ∃ m, Hid (behindS s c = m) := ⟨_, rfl⟩
  obtain ⟨e, he⟩ : ∃ e, Hid (behindS t m = e) := ⟨_, rfl⟩
  obtain ⟨u, hu⟩ : ∃ u, Hid (s ++ t = u) := ⟨_, rfl⟩
  have huz : Hid (u.size = s.size + t.size) := by show _ = _; rw [← hu.out]; exact size_join s t
  have hul : u.size ≤ 281474976702464 := by rw [huz.out]; omega
  have he2 : Hid (behindS u c = e) := by show _ = _; rw [← hu.out, behind_join, hm.out]; exact he.out
  have hcat : s ++ t = u := hu.out
  go_enter Tryd.func3, Tryd.ntmps3
  go_wp2_with fail
  refine Calls.mono (behind_calls s c m (by omega) hm _) ?_
  rintro e1 w1 ⟨rfl, rfl⟩
  go_wp2_with fail
  refine Calls.mono (behind_calls u c e (by omega) he2 _) ?_
  rintro e1 w2 ⟨rfl, rfl⟩
  go_wp2_with fail
  refine Calls.mono (behind_calls t m e (by omega) he _) ?_
  rintro e1 w3 ⟨rfl, rfl⟩
  have e0 : (e != e) = false := by simp
  clear hm he he2
  go_wp2_with fail
  refine Calls.mono (escapedS_calls s (by omega) _ hT'.out h0'.out) ?_
  rintro e1 w4 ⟨ga, hga, rfl, hA, hb⟩
  have hAv := At.new w4 #[.int .i64 (s.size : Int), .slice (some ⟨ga, 0, none⟩) (need s.size) (need s.size)] 25
  have hAr := hA.alloc (.cells #[.int .i64 (s.size : Int), .slice (some ⟨ga, 0, none⟩) (need s.size) (need s.size)] 25)
  have hB := hb.alloc hb.size (.cells #[.int .i64 (s.size : Int), .slice (some ⟨ga, 0, none⟩) (need s.size) (need s.size)] 25)
  clear hA hb hga
  go_wp2_with fail
  refine Calls.mono (escapedS_calls u (by omega) _ (hT'.out.below hB h0'.out) (by simp)) ?_
  rintro e1 w5 ⟨gb, hgb, rfl, hA5, hb5⟩
  replace hAv := (hAv.keptAll hb5).alloc (.cells #[.int .i64 (u.size : Int), .slice (some ⟨gb, 0, none⟩) (need u.size) (need u.size)] 25)
  replace hAr := (hAr.keptAll hb5).alloc (.cells #[.int .i64 (u.size : Int), .slice (some ⟨gb, 0, none⟩) (need u.size) (need u.size)] 25)
  have hBv := At.new w5 #[.int .i64 (u.size : Int), .slice (some ⟨gb, 0, none⟩) (need u.size) (need u.size)] 25
  have hBr := hA5.alloc (.cells #[.int .i64 (u.size : Int), .slice (some ⟨gb, 0, none⟩) (need u.size) (need u.size)] 25)
  have hB5 := hB.trans (hb5.mono hB.size)
  replace hB := hB5.alloc hB5.size (.cells #[.int .i64 (u.size : Int), .slice (some ⟨gb, 0, none⟩) (need u.size) (need u.size)] 25)
  clear hA5 hb5 hB5 hgb
  obtain ⟨b8, hb8⟩ : ∃ b8, Hid (w4.heap.size = b8) := ⟨_, rfl⟩
  obtain ⟨b9, hb9⟩ : ∃ b9, Hid (w5.heap.size = b9) := ⟨_, rfl⟩
  rw [hb8.out] at hAv
  rw [hb9.out] at hBv
  have hI := hid (show (At (w5.alloc (.cells #[.int .i64 (u.size : Int), .slice (some ⟨gb, 0, none⟩) (need u.size) (need u.size)] 25)) b8 #[.int .i64 (s.size : Int), .slice (some ⟨ga, 0, none⟩) (need s.size) (need s.size)] 25 ∧ At (w5.alloc (.cells #[.int .i64 (u.size : Int), .slice (some ⟨gb, 0, none⟩) (need u.size) (need u.size)] 25)) b9 #[.int .i64 (u.size : Int), .slice (some ⟨gb, 0, none⟩) (need u.size) (need u.size)] 25) ∧ (At (w5.alloc (.cells #[.int .i64 (u.size : Int), .slice (some ⟨gb, 0, none⟩) (need u.size) (need u.size)] 25)) ga (rowCells (need s.size) (rowOf (escS s) s.size)) 35 ∧ At (w5.alloc (.cells #[.int .i64 (u.size : Int), .slice (some ⟨gb, 0, none⟩) (need u.size) (need u.size)] 25)) gb (rowCells (need u.size) (rowOf (escS u) u.size)) 35) ∧ Below w3.heap.size w3 (w5.alloc (.cells #[.int .i64 (u.size : Int), .slice (some ⟨gb, 0, none⟩) (need u.size) (need u.size)] 25)) from ⟨⟨hAv, hBv⟩, ⟨hAr, hBr⟩, hB⟩)
  clear hAv hAr hBv hBr hB
  go_wp2_with fail
  rw [hb8.out, hb9.out]
  clear hb8 hb9
  go_loopw [10] (fun ii wr => ∃ i : Nat, i ≤ s.size ∧ ii = .int .i64 (i : Int) ∧ (At wr b8 #[.int .i64 (s.size : Int), .slice (some ⟨ga, 0, none⟩) (need s.size) (need s.size)] 25 ∧ At wr b9 #[.int .i64 (u.size : Int), .slice (some ⟨gb, 0, none⟩) (need u.size) (need u.size)] 25) ∧ (At wr ga (rowCells (need s.size) (rowOf (escS s) s.size)) 35 ∧ At wr gb (rowCells (need u.size) (rowOf (escS u) u.size)) 35) ∧ Below w3.heap.size w3 wr) (fun ii _ => s.size - (intOf ii).toNat)
  case atStart => exact ⟨0, Nat.zero_le _, rfl, hI.out⟩
  case round =>
    obtain ⟨i, hi, rfl, hJ⟩ := hrel
    clear hI
    by_cases hlt : i < s.size
    · obtain ⟨q, hqs⟩ : ∃ q, Hid (escS s i = q) := ⟨_, rfl⟩
      have hqu : Hid (escS u i = q) := by show _ = _; rw [← hu.out, escS, esc_first s t false i (by omega)]; exact hqs.out
      have hlu : i < u.size := by rw [huz.out]; omega
      have eq0 : (q != q) = false := by simp
      have hJ' := hid hJ
      clear hJ
      go_wp2_with fail
      refine wp_region_quiet (C := (fun w' => (At w' b8 #[.int .i64 (s.size : Int), .slice (some ⟨ga, 0, none⟩) (need s.size) (need s.size)] 25 ∧ At w' b9 #[.int .i64 (u.size : Int), .slice (some ⟨gb, 0, none⟩) (need u.size) (need u.size)] 25) ∧ (At w' ga (rowCells (need s.size) (rowOf (escS s) s.size)) 35 ∧ At w' gb (rowCells (need u.size) (rowOf (escS u) u.size)) 35) ∧ Below w3.heap.size w3 w')) (by kernel_rfl) (by kernel_rfl) (⟨⟨hJ'.out.1.1.drew, hJ'.out.1.2.drew⟩, ⟨hJ'.out.2.1.1.drew, hJ'.out.2.1.2.drew⟩, hJ'.out.2.2.drew⟩) ?_
      dsimp only
      repeat (first
        | (refine wpQuiet_skip (by rfl) ?_; simp only [Act.put, List.setIfInBounds_toArray, List.set_cons_zero, List.set_cons_succ])
        | (refine wpQuiet_load 25 _ (b8) (0) [.int .i64 (s.size : Int), .slice (some ⟨ga, 0, none⟩) (need s.size) (need s.size)] _ (fun wq hq => hq.1.1.range rfl) Tryd.underlying25 sizeBits rfl rfl rfl (by rfl) ?_; simp only [Act.put, List.setIfInBounds_toArray, List.set_cons_zero, List.set_cons_succ])
        | (refine wpQuiet_load 25 _ (b9) (0) [.int .i64 (u.size : Int), .slice (some ⟨gb, 0, none⟩) (need u.size) (need u.size)] _ (fun wq hq => hq.1.2.range rfl) Tryd.underlying25 sizeBits rfl rfl rfl (by rfl) ?_; simp only [Act.put, List.setIfInBounds_toArray, List.set_cons_zero, List.set_cons_succ])
        | (refine' wpQuiet_take (by rfl) ?_ ?_
           rotate_left
           · (intro wq hq; (try dsimp only at hq); go_simp
              first
                | done
                | with_reducible rfl
                | (go_at_call 6; with_reducible refine (get6 (G := escS s) (by omega) i hlt q hqs _ _ _ hq.2.1.1.row6).mono ?_; rintro e wz ⟨rfl, hb⟩; exact ⟨rfl, ⟨hq.1.1.keptAll hb, hq.1.2.keptAll hb⟩, ⟨hq.2.1.1.keptAll hb, hq.2.1.2.keptAll hb⟩, hq.2.2.trans (hb.mono hq.2.2.size)⟩)
                | (go_at_call 6; with_reducible refine (get6 (G := escS u) (by omega) i hlu q hqu _ _ _ hq.2.1.2.row6).mono ?_; rintro e wz ⟨rfl, hb⟩; exact ⟨rfl, ⟨hq.1.1.keptAll hb, hq.1.2.keptAll hb⟩, ⟨hq.2.1.1.keptAll hb, hq.2.1.2.keptAll hb⟩, hq.2.2.trans (hb.mono hq.2.2.size)⟩)
             )
           simp only [Act.put, List.setIfInBounds_toArray, List.set_cons_zero, List.set_cons_succ]))
      refine wpQuiet_nil ?_
      intro wz hz
      have hz' := hid hz
      clear hz hJ'
      go_wp2
      go_roundw
      case rel => exact ⟨i + 1, by omega, by simp, hz'.out⟩
      case measure => simp [intOf]; omega
    · obtain rfl : i = s.size := by omega
      obtain ⟨k0, hk0⟩ : ∃ k0, Hid (behindS s false = k0) := ⟨_, rfl⟩
      have hJ' := hid hJ
      clear hJ
      go_wp2_with fail
      refine Calls.mono (behind_calls s false k0 (by omega) hk0 _) ?_
      rintro e1 wr' ⟨rfl, rfl⟩
      go_wp2_with fail
      go_loopw [11, 12] (fun bb ii wr => ∃ (j : Nat) (b : Bool), j ≤ t.size ∧ ii = .int .i64 (j : Int) ∧ bb = .bool b ∧ Hid (escG (slash t) k0 j = b) ∧ (At wr b8 #[.int .i64 (s.size : Int), .slice (some ⟨ga, 0, none⟩) (need s.size) (need s.size)] 25 ∧ At wr b9 #[.int .i64 (u.size : Int), .slice (some ⟨gb, 0, none⟩) (need u.size) (need u.size)] 25) ∧ (At wr ga (rowCells (need s.size) (rowOf (escS s) s.size)) 35 ∧ At wr gb (rowCells (need u.size) (rowOf (escS u) u.size)) 35) ∧ Below w3.heap.size w3 wr) (fun _ ii _ => t.size - (intOf ii).toNat)
      case atStart => exact ⟨0, k0, Nat.zero_le _, rfl, rfl, rfl, hJ'.out⟩
      case round =>
        obtain ⟨j, b, hj, rfl, rfl, hbj, hL⟩ := hrel
        clear hJ'
        have hL' := hid hL
        obtain ⟨c0, c1, -, -⟩ := hL.1.2.facts
        clear hL
        by_cases hlt : j < t.size
        · have hsum : (s.size : Int) + (j : Int) = ((s.size + j : Nat) : Int) := by omega
          obtain ⟨P, hP⟩ : ∃ P, Hid (s.size + j = P) := ⟨_, rfl⟩
          rw [hP.out] at hsum
          have hPl : P < u.size := by rw [huz.out, ← hP.out]; omega
          have hPe : Hid (escS u P = b) := by show _ = _; rw [← hu.out, ← hP.out, escS, esc_second, hk0.out]; exact hbj.out
          have eb : (b != b) = false := by simp
          have hjt : (j : Int) < (t.size : Int) := by omega
          go_wp2_with fail
          refine Calls.mono (get6 (G := escS u) (by omega) P hPl b hPe _ _ _ hL'.out.2.1.2.row6) ?_
          rintro e1 wy ⟨rfl, hb⟩
          have hM := hid (show (At wy b8 #[.int .i64 (s.size : Int), .slice (some ⟨ga, 0, none⟩) (need s.size) (need s.size)] 25 ∧ At wy b9 #[.int .i64 (u.size : Int), .slice (some ⟨gb, 0, none⟩) (need u.size) (need u.size)] 25) ∧ (At wy ga (rowCells (need s.size) (rowOf (escS s) s.size)) 35 ∧ At wy gb (rowCells (need u.size) (rowOf (escS u) u.size)) 35) ∧ Below w3.heap.size w3 wy from ⟨⟨hL'.out.1.1.keptAll hb, hL'.out.1.2.keptAll hb⟩, ⟨hL'.out.2.1.1.keptAll hb, hL'.out.2.1.2.keptAll hb⟩, hL'.out.2.2.trans (hb.mono hL'.out.2.2.size)⟩)
          clear hL' hb c0 c1
          have hx := slash_at t j hlt
          obtain ⟨x, hxe⟩ : ∃ x, t[j].toNat = x := ⟨_, rfl⟩
          rw [hxe] at hx
          by_cases h92 : x = 92
          · subst h92
            have hnx : Hid (escG (slash t) k0 (j + 1) = !b) := by show _ = _; rw [escG_succ, hbj.out, hx]; simp
            clear hx
            go_wp2
            go_roundw
            case rel => exact ⟨j + 1, !b, by omega, by simp, rfl, hnx, hM.out⟩
            case measure => simp [intOf]; omega
          · have hnx : Hid (escG (slash t) k0 (j + 1) = false) := by show _ = _; rw [escG_succ, hx, decide_eq_false h92]; rfl
            have hne : ((x : Int) == 92) = false := by simp; omega
            clear hx
            go_wp2
            go_roundw
            case rel => exact ⟨j + 1, false, by omega, by simp, rfl, hnx, hM.out⟩
            case measure => simp [intOf]; omega
        · obtain rfl : j = t.size := by omega
          have hsum : (s.size : Int) + (t.size : Int) = (u.size : Int) := by have := huz.out; omega
          have eu : ((u.size : Int) == (u.size : Int)) = true := by simp
          go_wp2_with fail
          refine Calls.mono (behind_calls ⟨#[92]⟩ false true (by decide) (hid (by decide)) _) ?_
          rintro e1 wy ⟨rfl, rfl⟩
          go_wp2_with fail
          refine Calls.mono (behind_calls ⟨#[97]⟩ true false (by decide) (hid (by decide)) _) ?_
          rintro e1 wz ⟨rfl, rfl⟩
          go_wp2
          go_ret
          exact ⟨rfl, hL'.out.2.2⟩
end Go.Proofs.YtkdcloiepeenoabDoor
