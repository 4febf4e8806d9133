/-
  What quarryref04.Of answers; rows of truths.
-/
import Derived.Test.YtjccgiadmnogeaaDoorRefFormed
import Derived.Test.YtjccgiadmnogeaaDoorBitsB
namespace Go.Proofs.YtjccgiadmnogeaaDoor
open Go.RowKit

theorem hiB_step (g : Nat → Bool) (t : Nat) (ht : t < 64) : 2 * hiB g t < 18446744073709551616 ∧ 2 * hiB g t + 1 < 18446744073709551616 := by
  have h1 := hiB_lt g t
  have h2 : 2 ^ t ≤ 2 ^ 63 := Nat.pow_le_pow_right (by decide) (by omega)
  omega

set_option maxRecDepth 10000 in
set_option maxHeartbeats 4000000 in
theorem of_calls (ao : Option Addr) (N cap : Nat) (G : Nat → Bool) (hN : N ≤ 140737488355328) (w : World) (hW : Bls w ao N G) :
    Calls Tryd.prog 36 #[.slice ao N cap] w fun e w' => ∃ v, e = .returned (.agg #[.int .i64 (N : Int), v]) ∧ w'.ownsRow w.heap.size 22 1 v (need N) (wl (rowOf G N) (need N)) ∧ Below w.heap.size w w' := by
  obtain ⟨i0, hi, hz0, hz1, hz2⟩ := info_parts infoW
  obtain ⟨M, hM⟩ : ∃ M, Hid (need N = M) := ⟨_, rfl⟩
  have hMl : 64 * M ≤ N + 63 ∧ N ≤ 64 * M := by have := hM.out; unfold need at this; omega
  have hneed : Hid _ := fun w => refNeed_calls N M (by omega) hM w
  rw [hM.out]
  go_enter Tryd.func36, Tryd.ntmps36
  go_wp2
  go_loopw [4, 5, 6] (fun ii _ _ wr => ∃ (i : Nat) (v : Value), i ≤ M ∧ ii = .int .i64 (i : Int) ∧ At wr w.heap.size #[.int .i64 0, .slice none 0 0] 43 ∧ At wr (w.heap.size + 1) #[.int .i64 (N : Int), v] 43 ∧ wr.ownsRow (w.heap.size + 2) 22 1 v i (wl (rowOf G N) i) ∧ Below w.heap.size w wr) (fun ii _ _ _ => M - (intOf ii).toNat)
  case atStart =>
    refine ⟨0, .slice none 0 0, Nat.zero_le _, rfl, (At.new w _ _).alloc _, ?_, World.ownsRow_nil _ _ _ _, by repeat (first | with_reducible exact Below.refl _ _ | with_reducible refine Below.setCell ?_ (by first | (simp; done) | (simp; omega)) _ | with_reducible refine below_drewN ?_ _ | with_reducible refine Below.alloc ?_ (by first | (simp; done) | (simp; omega)) _ | with_reducible refine Below.drew ?_)⟩
    have := At.new (w.alloc (.cells #[.int .i64 0, .slice none 0 0] 43)) #[.int .i64 (N : Int), .slice none 0 0] 43
    simpa using this
  case round =>
    obtain ⟨i, v, hiM, rfl, a1, a2, hown, hb⟩ := hrel
    obtain ⟨c0, c1, f0, f1⟩ := a1.facts
    obtain ⟨c2, c3, f2, f3⟩ := a2.facts
    have a1' : Hid (At wr w.heap.size #[.int .i64 0, .slice none 0 0] 43) := a1
    have a2' : Hid (At wr (w.heap.size + 1) #[.int .i64 (N : Int), v] 43) := a2
    have hown' : Hid (wr.ownsRow (w.heap.size + 2) 22 1 v i (wl (rowOf G N) i)) := hown
    clear a1 a2 hown
    go_wp2_with fail
    refine (hneed.out _).mono ?_
    rintro e w' ⟨rfl, hw'⟩
    obtain rfl := hw'.symm
    by_cases hlt : i < M
    · have hW' : Hid (Bls w ao N G) := hW
      clear hW
      go_wp2
      obtain ⟨gf, hgf⟩ : ∃ gf : Nat → Bool, gf = fun r => decide (64 * i + r < N) && G (64 * i + r) := ⟨_, rfl⟩
      have hgf' : Hid _ := hgf
      clear hgf
      go_loop [5, 6] (fun xx kk => ∃ t x : Nat, t ≤ 64 ∧ Hid (hiB gf t = x) ∧ xx = .int .u64 (x : Int) ∧ kk = .int .i64 (63 - (t : Int))) (fun _ kk => ((intOf kk) + 1).toNat)
      case atStart => exact ⟨0, 0, by decide, rfl, rfl, by simp⟩
      case round =>
        obtain ⟨t, x, ht, hx, rfl, rfl⟩ := hrel
        by_cases ht64 : t < 64
        · have hst := hiB_step gf t ht64
          rw [hx.out] at hst
          have e1 : decide ((0 : Int) ≤ 63 - (t : Int)) = true := by simp; omega
          have e2 : 64 * (i : Int) + (63 - (t : Int)) = ((64 * i + (63 - t) : Nat) : Int) := by omega
          obtain ⟨P, hP⟩ : ∃ P, Hid (64 * i + (63 - t) = P) := ⟨_, rfl⟩
          rw [hP.out] at e2
          have hnx : Hid (hiB gf (t + 1) = 2 * x + (gf (63 - t)).toNat) := by show _ = _; rw [hiB, hx.out]
          have e5 : IntKind.u64.wrap (2 * (x : Int)) = ((2 * x : Nat) : Int) := by rw [IntKind.wrap_u64]; omega
          by_cases hPN : P < N
          · obtain ⟨g, off, rfl, hcell⟩ := hW'.out P hPN
            have d1 := (hb.cell (p := ⟨g, off + P, none⟩) (cell_block hcell)).trans hcell
            have hgP : Hid (gf (63 - t) = G P) := by show _ = _; rw [hgf'.out]; simp only; rw [hP.out, decide_eq_true hPN]; rfl
            obtain ⟨q, hq⟩ : ∃ q, Hid (G P = q) := ⟨_, rfl⟩
            rw [hq.out] at d1
            have hPk : decide ((P : Int) < (N : Int)) = true := by simp; omega
            clear hcell
            cases q
            · go_wp2
              go_round
              case rel => exact ⟨t + 1, 2 * x, by omega, by show _ = _; rw [hnx.out, hgP.out, hq.out]; rfl, by simp, by simp; omega⟩
              case measure => simp [intOf]; omega
            · have e6 : IntKind.u64.wrap (((2 * x : Nat) : Int) + 1) = ((2 * x + 1 : Nat) : Int) := by rw [IntKind.wrap_u64]; omega
              go_wp2
              go_round
              case rel => exact ⟨t + 1, 2 * x + 1, by omega, by show _ = _; rw [hnx.out, hgP.out, hq.out]; rfl, by simp, by simp; omega⟩
              case measure => simp [intOf]; omega
          · have hgP : Hid (gf (63 - t) = false) := by show _ = _; rw [hgf'.out]; simp only; rw [hP.out, decide_eq_false hPN]; rfl
            have hPk : decide ((P : Int) < (N : Int)) = false := by simp; omega
            go_wp2
            go_round
            case rel => exact ⟨t + 1, 2 * x, by omega, by show _ = _; rw [hnx.out, hgP.out]; rfl, by simp, by simp; omega⟩
            case measure => simp [intOf]; omega
        · obtain rfl : t = 64 := by omega
          have hxr : Hid (x = rowOf G N i) := by show _ = _; rw [← hx.out, hiB_all, hgf'.out]; rfl
          have hsz := a2'.out.lt
          clear c0 c1 f0 f1 hx hgf' hW'
          go_wp2_with (first
            | (at_builtin; refine wpList_append_own _ rfl _ _ 41 rfl (w.heap.size + 2) 22 i0 (.int .u64 0) 1 8 Tryd.underlying41 hi hz0 hz1 hz2 rfl (by decide) _ _ _ rfl (World.ownsRow.alloc hown'.out _) ⟨wr.heap.size, 0, none⟩ 1 1 [.int .u64 (x : Int)] rfl rfl (fun j u hj => by match j, hj with | 0, hj => simp at hj; subst hj; simp [Addr.add]) (fun u hu => by simp at hu; subst hu; rfl) (by unfold maxLen; omega) (by omega) (by simp; omega) ?_)
            | go_in)
          intro v' w1 hown1 hgrow _
          have hlt' : ∀ r, v.ownBlock = some r → w.heap.size + 2 ≤ r := fun r e => (hown'.out.lt r e).1
          have b1 := a1'.out.grown hgrow hlt' (by omega)
          have b2 := a2'.out.grown hgrow hlt' (by omega)
          have hb' : Below w.heap.size w w1 := (hb.alloc hb.size _).grown hgrow (by simp; omega) (fun b e => by have := hlt' b e; omega)
          rw [hxr.out, wl_succ] at hown1
          obtain ⟨g', cap', rfl⟩ := row_succ hown1
          obtain ⟨c2, c3, f2, f3⟩ := b2.facts
          have b1' : Hid (At w1 w.heap.size #[.int .i64 0, .slice none 0 0] 43) := b1
          have b2' : Hid (At w1 (w.heap.size + 1) #[.int .i64 (N : Int), v] 43) := b2
          have hown1' : Hid (w1.ownsRow (w.heap.size + 2) 22 1 (.slice (some ⟨g', 0, none⟩) (i + 1) cap') (i + 1) (wl (rowOf G N) (i + 1))) := hown1
          clear hgrow hown1 b1 b2 hlt'
          go_wp2
          go_roundw
          case rel =>
            refine ⟨i + 1, .slice (some ⟨g', 0, none⟩) (i + 1) cap', by omega, by simp, b1'.out.other (p := ⟨w.heap.size + 1, 1, none⟩) (by show w.heap.size ≠ w.heap.size + 1; omega) _, ?_, ?_, hb'.setCell (p := ⟨w.heap.size + 1, 1, none⟩) (by show w.heap.size ≤ w.heap.size + 1; omega) _⟩
            · have := b2'.out.set 1 (.slice (some ⟨g', 0, none⟩) (i + 1) cap')
              simpa using this
            · exact row_other hown1'.out (p := ⟨w.heap.size + 1, 1, none⟩) (by show w.heap.size + 1 < w.heap.size + 2; omega) _
          case measure => simp [intOf]; omega
    · obtain rfl : i = M := by omega
      clear hW
      obtain ⟨vo, vc, rfl⟩ := row_slice hown'.out
      go_wp2
      refine ret_bits1 rfl rfl a1'.out.two rfl ⟨_, rfl, ?_, (hb.setCell (p := ⟨w.heap.size, 0, none⟩) (Nat.le_refl _) _).setCell (p := ⟨w.heap.size, 1, none⟩) (Nat.le_refl _) _⟩
      exact row_base (row_other (row_other hown'.out (p := ⟨w.heap.size, 0, none⟩) (by show w.heap.size < w.heap.size + 2; omega) _) (p := ⟨w.heap.size, 1, none⟩) (by show w.heap.size < w.heap.size + 2; omega) _) (by omega)
end Go.Proofs.YtjccgiadmnogeaaDoor
