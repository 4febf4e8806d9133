/-
  What quarryref03.Runs answers: where rows of set bits begin, and how long they are.
-/
import Derived.Test.YtkoillfkillohaaDoorPairKit
import Derived.Test.YtkoillfkillohaaDoorWordsRunLists
namespace Go.Proofs.YtkoillfkillohaaDoor
open Go.RowKit Go.Shelf

/-- What the two lists hold. -/
structure RunsAt (w : World) (v u : Value) (A M : List Nat) (C : Nat) (W : World) : Prop where
  la : A.length = C
  lm : M.length = C
  ra : W.ownsRow w.heap.size 3 1 v C (ints A)
  rm : W.ownsRow w.heap.size 3 1 u C (ints M)
  ap : Apart v u
  bl : Below w.heap.size w W

theorem grownBy_setCell_at (w : World) (g j : Nat) (v : Value) : w.grownBy (w.setCell ⟨g, j, none⟩ v) (some g) :=
  ⟨rfl, rfl, rfl, by simp, fun k _ hne => Below.heap_setCell w ⟨g, j, none⟩ v k (by intro e; exact hne (by rw [e]))⟩

set_option maxRecDepth 100000 in
set_option maxHeartbeats 4000000 in
theorem refRuns_calls (x : Nat) (hx : x < 18446744073709551616) (w : World) :
    Calls Tryd.prog 16 #[.int .u64 (x : Int)] w fun e w' => ∃ v u C, e = .returned (.tuple #[v, u]) ∧ RunsAt w v u (starts x) ((starts x).map (runLen x)) C w' := by
  go_enter Tryd.func16, Tryd.ntmps16
  go_wp2
  go_loopw [4, 5, 6] (fun v u i wr => ∃ (n C : Nat) (A M : List Nat), Hid (A = firstsTo x n ∧ M = manyTo x n) ∧ C ≤ n ∧ n ≤ 64 ∧ i = .int .i64 (n : Int) ∧ RunsAt w v u A M C wr) (fun _ _ i _ => 64 - (intOf i).toNat)
  case atStart => exact ⟨0, 0, [], [], ⟨rfl, rfl⟩, Nat.le_refl _, by decide, rfl, ⟨rfl, rfl, World.ownsRow_nil _ _ _ _, World.ownsRow_nil _ _ _ _, (by intro g h; cases h), Below.refl _ _⟩⟩
  case round =>
    obtain ⟨n, C, A, M, hAM, hC, hn, rfl, hR⟩ := hrel
    by_cases hlt : n < 64
    · go_wp2_with fail
      refine (has_calls x n hx hlt _).mono ?_
      rintro e w' ⟨rfl, rfl⟩
      have hsz := hR.bl.size
      cases hbit : x.testBit n
      · obtain ⟨q1, q2⟩ := many_unset hx hlt hbit
        have hAM' : Hid (A = firstsTo x (n + 1) ∧ M = manyTo x (n + 1)) := ⟨by rw [q1]; exact hAM.out.1, by rw [q2]; exact hAM.out.2⟩
        clear q1 q2
        go_wp2
        go_roundw
        case rel => exact ⟨n + 1, C, A, M, hAM', by omega, by omega, by simp, hR⟩
        case measure => simp [intOf]; omega
      · by_cases h0 : n = 0
        · have hb : n = 0 ∨ x.testBit (n - 1) = false := .inl h0
          have hz : ¬ (0 : Int) < (n : Int) := by omega
          obtain ⟨q1, q2⟩ := many_begin hx hlt hbit hb
          have hAM' : Hid (A ++ [n] = firstsTo x (n + 1) ∧ M ++ [1] = manyTo x (n + 1)) := ⟨by rw [q1, hAM.out.1], by rw [q2, hAM.out.2]⟩
          clear q1 q2 hb
          go_wp2_with (first
            | (at_builtin; refine wpList_append_int rfl _ _ rfl w.heap.size _ (.int .i64 (n : Int)) C (ints A) rfl (hR.ra.alloc _) ⟨w'.heap.size, 0, none⟩ 1 rfl ?c1 rfl (by omega) ?c2 ?_)
            | go_in)
          case c1 => first | (simp [Addr.add]; done) | (simp [Addr.add]; omega)
          case c2 => simp; omega
          intro v1 w1 hown1 hgrow1 hnew1
          have rm1 := hR.ap.kept (hR.rm.alloc (.cells #[.int .i64 (n : Int)] 3)) (by first | exact hgrow1 | (rw [h0] at *; exact hgrow1))
          have ap1 : Apart v1 u5 := hR.ap.next (hR.rm.alloc (.cells #[.int .i64 (n : Int)] 3)) (by simpa using hnew1)
          have bl1 : Below w.heap.size w w1 := (hR.bl.alloc hsz _).grown hgrow1 (by simp; omega) (fun k e => (hR.ra.lt k e).1)
          have hla := hR.la
          have hlm := hR.lm
          have hsz1 := bl1.size
          clear hgrow1 hnew1 hR
          go_wp2_with (first
            | (at_builtin; refine wpList_append_int rfl _ _ rfl w.heap.size _ (.int .i64 1) C (ints M) rfl (rm1.alloc _) ⟨w1.heap.size, 0, none⟩ 1 rfl ?c1 rfl (by omega) ?c2 ?_)
            | go_in)
          case c1 => first | (simp [Addr.add]; done) | (simp [Addr.add]; omega)
          case c2 => simp; omega
          intro u1 w2 hown2 hgrow2 hnew2
          have ra2 := ap1.symm.kept (hown1.alloc _) hgrow2
          have ap2 : Apart v1 u1 := (ap1.symm.next (hown1.alloc (.cells #[.int .i64 1] 3)) (by simpa using hnew2)).symm
          have bl2 : Below w.heap.size w w2 := (bl1.alloc hsz1 _).grown hgrow2 (by simp; omega) (fun k e => (rm1.lt k e).1)
          have hR2 : RunsAt w v1 u1 (A ++ [n]) (M ++ [1]) (C + 1) w2 := ⟨by simp [hla], by simp [hlm], by rw [ints_snoc]; first | exact ra2 | (rw [h0]; exact ra2), by rw [ints_snoc]; exact hown2, ap2, bl2⟩
          clear hown1 hown2 hgrow2 hnew2 ra2 ap2 bl2 rm1 ap1 bl1
          go_wp2
          go_roundw
          case rel => exact ⟨n + 1, C + 1, A ++ [n], M ++ [1], hAM', by omega, by omega, by first | (simp; done) | (simp; omega), hR2⟩
          case measure => simp [intOf]; omega
        · have hn1 : ((n : Int) - 1) = ((n - 1 : Nat) : Int) := by omega
          have hpos : (0 : Int) < (n : Int) := by omega
          go_wp2_with fail
          refine (has_calls x (n - 1) hx (by omega) _).mono ?_
          rintro e w'' ⟨rfl, rfl⟩
          cases hbit1 : x.testBit (n - 1)
          · have hb : n = 0 ∨ x.testBit (n - 1) = false := .inr hbit1
            obtain ⟨q1, q2⟩ := many_begin hx hlt hbit hb
            have hAM' : Hid (A ++ [n] = firstsTo x (n + 1) ∧ M ++ [1] = manyTo x (n + 1)) := ⟨by rw [q1, hAM.out.1], by rw [q2, hAM.out.2]⟩
            clear q1 q2 hb
            go_wp2_with (first
              | (at_builtin; refine wpList_append_int rfl _ _ rfl w.heap.size _ (.int .i64 (n : Int)) C (ints A) rfl (hR.ra.alloc _) ⟨w''.heap.size, 0, none⟩ 1 rfl ?c1 rfl (by omega) ?c2 ?_)
              | go_in)
            case c1 => first | (simp [Addr.add]; done) | (simp [Addr.add]; omega)
            case c2 => simp; omega
            intro v1 w1 hown1 hgrow1 hnew1
            have rm1 := hR.ap.kept (hR.rm.alloc (.cells #[.int .i64 (n : Int)] 3)) (by first | exact hgrow1 | (rw [h0] at *; exact hgrow1))
            have ap1 : Apart v1 u5 := hR.ap.next (hR.rm.alloc (.cells #[.int .i64 (n : Int)] 3)) (by simpa using hnew1)
            have bl1 : Below w.heap.size w w1 := (hR.bl.alloc hsz _).grown hgrow1 (by simp; omega) (fun k e => (hR.ra.lt k e).1)
            have hla := hR.la
            have hlm := hR.lm
            have hsz1 := bl1.size
            clear hgrow1 hnew1 hR
            go_wp2_with (first
              | (at_builtin; refine wpList_append_int rfl _ _ rfl w.heap.size _ (.int .i64 1) C (ints M) rfl (rm1.alloc _) ⟨w1.heap.size, 0, none⟩ 1 rfl ?c1 rfl (by omega) ?c2 ?_)
              | go_in)
            case c1 => first | (simp [Addr.add]; done) | (simp [Addr.add]; omega)
            case c2 => simp; omega
            intro u1 w2 hown2 hgrow2 hnew2
            have ra2 := ap1.symm.kept (hown1.alloc _) hgrow2
            have ap2 : Apart v1 u1 := (ap1.symm.next (hown1.alloc (.cells #[.int .i64 1] 3)) (by simpa using hnew2)).symm
            have bl2 : Below w.heap.size w w2 := (bl1.alloc hsz1 _).grown hgrow2 (by simp; omega) (fun k e => (rm1.lt k e).1)
            have hR2 : RunsAt w v1 u1 (A ++ [n]) (M ++ [1]) (C + 1) w2 := ⟨by simp [hla], by simp [hlm], by rw [ints_snoc]; first | exact ra2 | (rw [h0]; exact ra2), by rw [ints_snoc]; exact hown2, ap2, bl2⟩
            clear hown1 hown2 hgrow2 hnew2 ra2 ap2 bl2 rm1 ap1 bl1
            go_wp2
            go_roundw
            case rel => exact ⟨n + 1, C + 1, A ++ [n], M ++ [1], hAM', by omega, by omega, by first | (simp; done) | (simp; omega), hR2⟩
            case measure => simp [intOf]; omega
          · obtain ⟨q1, M', m, hM, hm, q2⟩ := many_on hx hlt (by omega) hbit hbit1
            have hMe : M = M' ++ [m] := hAM.out.2.trans hM
            have hAM' : Hid (A = firstsTo x (n + 1) ∧ M' ++ [m + 1] = manyTo x (n + 1)) := ⟨by rw [q1]; exact hAM.out.1, q2.symm⟩
            have hCm : C = M'.length + 1 := by rw [← hR.lm, hMe]; simp
            clear q1 q2 hM
            subst hMe
            rcases hR.rm.2 with ⟨-, h⟩ | ⟨g, cap, cur, hu, hgb, hg, -⟩
            · omega
            · subst hu
              have hat : At w'' g cur 3 := hg
              have hcm := hR.rm.cells (g := g) rfl (C - 1) (.int .i64 ((m : Nat) : Int)) (by rw [hCm]; simp [ints])
              rw [show (⟨g, 0, none⟩ : Addr).add (C - 1) = ⟨g, C - 1, none⟩ by by_cases h : C - 1 = 0 <;> simp [Addr.add, h]] at hcm
              have hfm := hat.frozen (C - 1)
              have hC1 : ((C : Int) - 1) = ((C - 1 : Nat) : Int) := by omega
              have hC2 : C - 1 < C := by omega
              have hset := row_set (j := C - 1) hR.rm (.int .i64 (((m + 1 : Nat)) : Int))
              have hR2 : RunsAt w u4 (.slice (some ⟨g, 0, none⟩) C cap) A (M' ++ [m + 1]) C (w''.setCell ⟨g, C - 1, none⟩ (.int .i64 ((m + 1 : Nat) : Int))) := by
                refine ⟨hR.la, by simp [hCm], ?_, ?_, hR.ap, hR.bl.setCell (p := ⟨g, C - 1, none⟩) hgb _⟩
                · exact hR.ra.kept (grownBy_setCell_at w'' g (C - 1) _) (by
                    cases hv : u4.ownBlock with
                    | none => exact .inl rfl
                    | some g' => exact .inr (fun e => hR.ap g' hv (by rw [e]; rfl)))
                · have e : (ints (M' ++ [m])).set (C - 1) (.int .i64 ((m + 1 : Nat) : Int)) = ints (M' ++ [m + 1]) := by
                    rw [ints_snoc, ints_snoc, hCm, Nat.add_sub_cancel, List.set_append_right _ _ (by rw [ints_len]; exact Nat.le_refl _), ints_len, Nat.sub_self]; rfl
                  rw [← e]
                  exact hset
              obtain ⟨C1, hC1d⟩ : ∃ C1, C - 1 = C1 := ⟨_, rfl⟩
              rw [hC1d] at hcm hfm hC1 hC2 hR2
              clear hset hat hg hR hC1d hCm
              go_wp2
              go_roundw
              case rel => exact ⟨n + 1, C, A, M' ++ [m + 1], hAM', by omega, by omega, by simp, hR2⟩
              case measure => simp [intOf]; omega
    · obtain rfl : n = 64 := by omega
      have e1 : A = starts x := hAM.out.1.trans (firstsTo_all hx)
      have e2 : M = (starts x).map (runLen x) := hAM.out.2.trans (manyTo_all hx)
      have hR' : RunsAt w u4 u5 (starts x) ((starts x).map (runLen x)) C wr := by rw [← e2, ← e1]; exact hR
      clear hR e1 e2 hAM
      go_wp2
      go_ret2
      exact ⟨_, _, C, rfl, hR'⟩
end Go.Proofs.YtkoillfkillohaaDoor
