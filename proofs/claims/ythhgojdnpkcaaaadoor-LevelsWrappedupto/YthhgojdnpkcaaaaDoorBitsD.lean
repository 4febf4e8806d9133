/-
  GetWalk, CountWalk, NextWalk.
-/
import Derived.Test.YthhgojdnpkcaaaaDoorBitsC
import Derived.Test.YthhgojdnpkcaaaaDoorBitsA
/-
  What bitmap.Get answers.
-/
namespace Go.Proofs.YthhgojdnpkcaaaaDoor
open Go.RowKit Go.Shelf

set_option maxRecDepth 10000 in
set_option maxHeartbeats 4000000 in
theorem get_calls (n i : Int) (ao : Option Addr) (k cap : Nat) (X : Nat → Nat) (N : Nat) (B : Bool) (hn : (Lit.int .i64 n).wf = true) (hi : (Lit.int .i64 i).wf = true) (hk : k ≤ 17592186044416) (hE : Hid (Eff n k X N)) (hB : Hid (getB X N i = B)) (w : World) (hW : Wds w ao k X) :
    Calls Tryd.prog 32 #[bv n ao k cap, .int .i64 i] w fun e w' => e = .returned (.bool B) ∧ Below w.heap.size w w' := by
  obtain ⟨i1, i2⟩ := wf_i64 hi
  obtain ⟨FA, hFA⟩ := formedB n k X
  have hfc : Hid _ := fun (w1 : World) (hb : Below w.heap.size w w1) => formed_calls n ao k cap X FA hn hk hFA w1 (hW.kept hb)
  clear hi hn
  go_enter Tryd.func32, Tryd.ntmps32
  go_wp2_with fail
  refine Calls.mono (hfc.out _ (by repeat (first | with_reducible exact Below.refl _ _ | with_reducible refine Below.setCell ?_ (by first | (simp; done) | (simp; omega)) _ | with_reducible refine below_drewN ?_ _ | with_reducible refine Below.alloc ?_ (by first | (simp; done) | (simp; omega)) _ | with_reducible refine Below.drew ?_))) ?_
  rintro e w1 ⟨rfl, hb1⟩
  have a1 : At w1 w.heap.size #[.int .i64 n, .slice ao k cap] 34 := (At.new w _ _).keptAll hb1
  have hB1 : Below w.heap.size w w1 := Below.trans (by repeat (first | with_reducible exact Below.refl _ _ | with_reducible refine Below.setCell ?_ (by first | (simp; done) | (simp; omega)) _ | with_reducible refine below_drewN ?_ _ | with_reducible refine Below.alloc ?_ (by first | (simp; done) | (simp; omega)) _ | with_reducible refine Below.drew ?_)) (hb1.mono (by simp))
  obtain ⟨c0, c1, -, -⟩ := a1.facts
  have hW1 : Hid (Wds w1 ao k X) := hW.kept hB1
  clear hb1 a1 hfc hW
  cases FA
  · obtain rfl : N = 0 := by
      rcases hE.out with ⟨h, _⟩ | ⟨_, h⟩
      · have h' := hFA.out.1 h; cases h'
      · exact h
    obtain rfl : B = false := by
      rw [← hB.out]
      by_cases h : i < 0
      · exact getB_lo h
      · exact getB_hi (by omega)
    clear hE hFA hB
    go_wp2
    go_ret
    exact ⟨rfl, hB1⟩
  · have hform : formed n k X := hFA.out.2 rfl
    obtain ⟨N', rfl⟩ := Int.eq_ofNat_of_zero_le hform.1
    obtain rfl : N = N' := by
      rcases hE.out with ⟨_, h⟩ | ⟨h, _⟩
      · simpa using h
      · exact (h hform).elim
    have hNk : N ≤ 64 * k ∧ 64 * k ≤ N + 63 := by have := hform.2.1; simp at this; unfold need at this; omega
    clear hE hFA hform
    by_cases hi0 : i < 0
    · obtain rfl : B = false := by rw [← hB.out]; exact getB_lo hi0
      clear hB
      go_wp2
      go_ret
      exact ⟨rfl, hB1⟩
    · obtain ⟨P, rfl⟩ := Int.eq_ofNat_of_zero_le (show 0 ≤ i by omega)
      clear hi0 i1 i2
      have e0 : decide ((0 : Int) ≤ (P : Int)) = true := by simp
      by_cases hPN : P < N
      · have hb := hB.out
        rw [getB_nat hPN] at hb
        unfold bitAt at hb
        obtain ⟨hx, g, off, rfl, hcell⟩ := hW1.out (P / 64) (by omega)
        obtain ⟨y, hy⟩ : ∃ y, Hid (X (P / 64) = y) := ⟨_, rfl⟩
        rw [hy.out] at hcell hb hx
        obtain ⟨J, hJ⟩ : ∃ J, Hid (P / 64 = J) := ⟨_, rfl⟩
        obtain ⟨R, hR⟩ : ∃ R, Hid (P % 64 = R) := ⟨_, rfl⟩
        have hJk : J < k := by have := hJ.out; omega
        have hR64 : R < 64 := by have := hR.out; omega
        have e1 : (P : Int) / 64 = (J : Int) := by have := hJ.out; omega
        have e2 : (P : Int) % 64 = (R : Int) := by have := hR.out; omega
        rw [hJ.out] at hcell
        rw [hR.out] at hb
        have e3 := has_eq y R hx
        rw [hb] at e3
        clear hW1 hy hJ hR hb hB
        go_wp2
        go_ret
        exact ⟨rfl, hB1⟩
      · obtain rfl : B = false := by rw [← hB.out]; exact getB_hi (by omega)
        have e1 : decide ((P : Int) < (N : Int)) = false := by simp; omega
        clear hB
        go_wp2
        go_ret
        exact ⟨rfl, hB1⟩
end Go.Proofs.YthhgojdnpkcaaaaDoor

/-
  What bitmap.Count answers.
-/
namespace Go.Proofs.YthhgojdnpkcaaaaDoor
open Go.RowKit Go.Shelf

set_option maxRecDepth 10000 in
set_option maxHeartbeats 4000000 in
theorem count_calls (n f t : Int) (ao : Option Addr) (k cap : Nat) (X : Nat → Nat) (N c : Nat) (hn : (Lit.int .i64 n).wf = true) (hf : (Lit.int .i64 f).wf = true) (ht : (Lit.int .i64 t).wf = true) (hk : k ≤ 17592186044416) (hE : Hid (Eff n k X N)) (hc : Hid (cntIn X N f t = c)) (w : World) (hW : Wds w ao k X) :
    Calls Tryd.prog 33 #[bv n ao k cap, .int .i64 f, .int .i64 t] w fun e w' => e = .returned (.int .i64 (c : Int)) ∧ Below w.heap.size w w' := by
  obtain ⟨f1, f2⟩ := wf_i64 hf
  obtain ⟨t1, t2⟩ := wf_i64 ht
  obtain ⟨FA, hFA⟩ := formedB n k X
  have hfc : Hid _ := fun (w1 : World) (hb : Below w.heap.size w w1) => formed_calls n ao k cap X FA hn hk hFA w1 (hW.kept hb)
  clear hf ht hn
  go_enter Tryd.func33, Tryd.ntmps33
  go_wp2_with fail
  refine Calls.mono (hfc.out _ (by repeat (first | with_reducible exact Below.refl _ _ | with_reducible refine Below.setCell ?_ (by first | (simp; done) | (simp; omega)) _ | with_reducible refine below_drewN ?_ _ | with_reducible refine Below.alloc ?_ (by first | (simp; done) | (simp; omega)) _ | with_reducible refine Below.drew ?_))) ?_
  rintro e w1 ⟨rfl, hb1⟩
  have a1 : At w1 w.heap.size #[.int .i64 n, .slice ao k cap] 34 := (At.new w _ _).keptAll hb1
  have hB1 : Below w.heap.size w w1 := Below.trans (by repeat (first | with_reducible exact Below.refl _ _ | with_reducible refine Below.setCell ?_ (by first | (simp; done) | (simp; omega)) _ | with_reducible refine below_drewN ?_ _ | with_reducible refine Below.alloc ?_ (by first | (simp; done) | (simp; omega)) _ | with_reducible refine Below.drew ?_)) (hb1.mono (by simp))
  obtain ⟨c0, c1, -, -⟩ := a1.facts
  have hW1 : Hid (Wds w1 ao k X) := hW.kept hB1
  clear hb1 a1 hfc hW
  cases FA
  · obtain rfl : N = 0 := by
      rcases hE.out with ⟨h, _⟩ | ⟨_, h⟩
      · have h' := hFA.out.1 h; cases h'
      · exact h
    obtain rfl : c = 0 := by rw [← hc.out]; unfold cntIn; simp [cntB]
    clear hE hc hFA
    go_wp2
    go_ret
    exact ⟨rfl, hB1⟩
  · have hform : formed n k X := hFA.out.2 rfl
    obtain ⟨N', rfl⟩ := Int.eq_ofNat_of_zero_le hform.1
    obtain rfl : N = N' := by
      rcases hE.out with ⟨_, h⟩ | ⟨h, _⟩
      · simpa using h
      · exact (h hform).elim
    have hNk : N ≤ 64 * k ∧ 64 * k ≤ N + 63 := by have := hform.2.1; simp at this; unfold need at this; omega
    have hform' : Hid (formed N k X) := hform
    clear hE hFA hform
    obtain ⟨F, hF⟩ := Int.eq_ofNat_of_zero_le (show 0 ≤ max f 0 by omega)
    obtain ⟨T, hT⟩ : ∃ T : Int, Hid (min t N = T) := ⟨_, rfl⟩
    have hT' : min t (N : Int) = T := hT.out
    have hFh : Hid (max f 0 = (F : Int)) := hF
    go_wp2
    go_region
    clear hF hT'
    by_cases hFT : (F : Int) < T
    · obtain ⟨T', rfl⟩ := Int.eq_ofNat_of_zero_le (show 0 ≤ T by omega)
      have hTN : T' ≤ N := by have := hT.out; omega
      have hcF : Hid (c + cntB X F = cntB X T') := by
        have h1 := cntIn_clamp (X := X) (N := N) (f := f) (t := t) hFh.out.symm hT.out.symm (by omega)
        have h2 := cntB_mono X (show F ≤ T' by omega)
        show _ = _
        rw [← hc.out, h1]; omega
      have hFT' : F < T' := by omega
      clear hc hT hFh hFT f1 f2 t1 t2
      have e0 : (F : Int) / 64 = ((F / 64 : Nat) : Int) := by omega
      obtain ⟨J0, hJ0⟩ : ∃ J0, Hid (F / 64 = J0) := ⟨_, rfl⟩
      rw [hJ0.out] at e0
      go_wp2
      go_loopw [7, 8] (fun nn jj wr => ∃ j cc : Nat, J0 ≤ j ∧ j ≤ k ∧ Hid (cc + cntB X F = cntB X (max F (min T' (64 * j)))) ∧ nn = .int .i64 (cc : Int) ∧ jj = .int .i64 (j : Int) ∧ ∃ q, wr = w1.drewN q) (fun _ jj _ => k - (intOf jj).toNat)
      case atStart =>
        refine ⟨J0, 0, Nat.le_refl _, by have := hJ0.out; omega, ?_, rfl, rfl, 1, rfl⟩
        show _ = _
        have := hJ0.out
        rw [show max F (min T' (64 * J0)) = F by omega]; omega
      case round =>
        obtain ⟨j, cc, hj0, hjk, hcc, rfl, rfl, q, rfl⟩ := hrel
        by_cases hlt : 64 * j < T'
        · have hjlt : j < k := by omega
          obtain ⟨hx, g, off, rfl, hcell⟩ := hW1.out j hjlt
          obtain ⟨x, hx'⟩ : ∃ x, Hid (X j = x) := ⟨_, rfl⟩
          rw [hx'.out] at hcell hx
          obtain ⟨R1, hR1⟩ : ∃ R, Hid (rankW x ((T' : Int) - 64 * (j : Int)) = R) := ⟨_, rfl⟩
          obtain ⟨R2, hR2⟩ : ∃ R, Hid (rankW x ((F : Int) - 64 * (j : Int)) = R) := ⟨_, rfl⟩
          have hr1 : Hid _ := fun w => rank_calls x R1 ((T' : Int) - 64 * (j : Int)) hx hR1 w
          have hr2 : Hid _ := fun w => rank_calls x R2 ((F : Int) - 64 * (j : Int)) hx hR2 w
          have hb64 : R1 ≤ 64 ∧ R2 ≤ R1 ∧ Hid (cntB X (max F (min T' (64 * (j + 1)))) = cntB X (max F (min T' (64 * j))) + (R1 - R2)) := by
            have h1 := count_step (X := X) (F := F) (T := T') (j := j) hFT' (by have := hJ0.out; omega) hlt
            have e1 : R1 = cnt (X j) (min (T' - 64 * j) 64) := by rw [← hR1.out, rankW, hx'.out, show ((T' : Int) - 64 * (j : Int)).toNat = T' - 64 * j by omega]
            have e2 : R2 = cnt (X j) (min (F - 64 * j) 64) := by rw [← hR2.out, rankW, hx'.out, show ((F : Int) - 64 * (j : Int)).toNat = F - 64 * j by omega]
            rw [← e1, ← e2] at h1
            exact ⟨by rw [e1]; exact Nat.le_trans (cnt_le _ _) (by omega), h1.2, h1.1⟩
          obtain ⟨r64, r21, hstep⟩ := hb64
          have hccl : cc ≤ N := by
            have h1 := hcc.out
            have h2 := cntB_le X (max F (min T' (64 * j)))
            omega
          have ew1 : IntKind.i64.wrap (64 * (j : Int)) = 64 * (j : Int) := by rw [IntKind.wrap_i64]; omega
          have ew2 : IntKind.i64.wrap ((T' : Int) - 64 * (j : Int)) = (T' : Int) - 64 * (j : Int) := by rw [IntKind.wrap_i64]; omega
          have ew3 : IntKind.i64.wrap ((F : Int) - 64 * (j : Int)) = (F : Int) - 64 * (j : Int) := by rw [IntKind.wrap_i64]; omega
          clear hW1 hR1 hR2
          go_wp2
          go_quiet (first
            | (go_at_call 56; with_reducible refine (hr1.out _).mono ?_; rintro e w' ⟨rfl, rfl⟩; exact ⟨rfl, _, rfl⟩)
            | (go_at_call 56; with_reducible refine (hr2.out _).mono ?_; rintro e w' ⟨rfl, rfl⟩; exact ⟨rfl, _, rfl⟩))
          go_wp2
          go_roundw
          case rel =>
            refine ⟨j + 1, cc + (R1 - R2), by omega, by omega, ?_, ?_, by simp, q + nq, by simp⟩
            · show _ = _
              have h1 := hcc.out
              have h2 := hstep.out
              omega
            · congr 1; omega
          case measure => simp [intOf]; omega
        · have hcc' : cc = c := by
            have h1 := hcc.out
            have h2 := hcF.out
            rw [show max F (min T' (64 * j)) = T' by omega] at h1
            omega
          subst hcc'
          have e9 : decide (64 * (j : Int) < (T' : Int)) = false := by simp; omega
          clear hcc hcF hW1
          go_wp2
          go_ret
          exact ⟨rfl, below_drewN hB1 _⟩
    · obtain rfl : c = 0 := by rw [← hc.out]; exact cntIn_zero (by rw [hT.out, hFh.out]; omega)
      have e9 : decide (T ≤ (F : Int)) = true := by simp; omega
      clear hc hT hFh hW1
      go_wp2
      go_ret
      exact ⟨rfl, hB1.drew⟩
end Go.Proofs.YthhgojdnpkcaaaaDoor

/-
  What bitmap.Next answers.
-/
namespace Go.Proofs.YthhgojdnpkcaaaaDoor
open Go.RowKit Go.Shelf

set_option maxRecDepth 10000 in
set_option maxHeartbeats 4000000 in
theorem next_at (n i S : Int) (ao : Option Addr) (k cap : Nat) (X : Nat → Nat) (N : Nat) (hn : (Lit.int .i64 n).wf = true) (hi : (Lit.int .i64 i).wf = true) (hk : k ≤ 17592186044416) (hE : Hid (Eff n k X N)) (hS : Hid (IsNext X N i S)) (w : World) (hT : Tab w) (h0 : 0 < w.heap.size) (hW : Wds w ao k X) :
    Calls Tryd.prog 72 #[bv n ao k cap, .int .i64 i] w fun e w' => e = .returned (.int .i64 S) ∧ Below w.heap.size w w' := by
  obtain ⟨i1, i2⟩ := wf_i64 hi
  obtain ⟨FA, hFA⟩ := formedB n k X
  have hfc : Hid _ := fun (w1 : World) (hb : Below w.heap.size w w1) => formed_calls n ao k cap X FA hn hk hFA w1 (hW.kept hb)
  obtain ⟨F, hF⟩ := Int.eq_ofNat_of_zero_le (show 0 ≤ max i 0 by omega)
  have hFh : Hid (max i 0 = (F : Int)) := hF
  have hFl : F < 9223372036854775808 := by omega
  have hFl' : Hid (F < 9223372036854775808) := hFl
  clear hi hn i1 i2 hFl
  go_enter Tryd.func72, Tryd.ntmps72
  go_wp2_with fail
  clear hF
  refine Calls.mono (hfc.out _ (by repeat (first | with_reducible exact Below.refl _ _ | with_reducible refine Below.setCell ?_ (by first | (simp; done) | (simp; omega)) _ | with_reducible refine below_drewN ?_ _ | with_reducible refine Below.alloc ?_ (by first | (simp; done) | (simp; omega)) _ | with_reducible refine Below.drew ?_))) ?_
  rintro e w1 ⟨rfl, hb1⟩
  have a1 : At w1 w.heap.size #[.int .i64 n, .slice ao k cap] 34 := (At.new w _ _).keptAll hb1
  have hB1 : Below w.heap.size w w1 := Below.trans (by repeat (first | with_reducible exact Below.refl _ _ | with_reducible refine Below.setCell ?_ (by first | (simp; done) | (simp; omega)) _ | with_reducible refine below_drewN ?_ _ | with_reducible refine Below.alloc ?_ (by first | (simp; done) | (simp; omega)) _ | with_reducible refine Below.drew ?_)) (hb1.mono (by simp))
  obtain ⟨c0, c1, -, -⟩ := a1.facts
  have hW1 : Hid (Wds w1 ao k X) := hW.kept hB1
  have hT1 : Hid (Tab w1) := hT.below hB1 h0
  clear hb1 a1 hfc hW hT
  cases FA
  · obtain rfl : N = 0 := by
      rcases hE.out with ⟨h, _⟩ | ⟨_, h⟩
      · have h' := hFA.out.1 h; cases h'
      · exact h
    obtain rfl : S = -1 := hS.out.uniq (next_high (by omega))
    clear hE hFA hS
    go_wp2
    go_ret
    exact ⟨rfl, hB1⟩
  · have hform : formed n k X := hFA.out.2 rfl
    obtain ⟨N', rfl⟩ := Int.eq_ofNat_of_zero_le hform.1
    obtain rfl : N = N' := by
      rcases hE.out with ⟨_, h⟩ | ⟨h, _⟩
      · simpa using h
      · exact (h hform).elim
    have hNk : N ≤ 64 * k ∧ 64 * k ≤ N + 63 := by have := hform.2.1; simp at this; unfold need at this; omega
    have hform' : Hid (formed N k X) := hform
    clear hE hFA hform
    by_cases hFN : F < N
    · obtain ⟨J0, hJ0⟩ : ∃ J0, Hid (F / 64 = J0) := ⟨_, rfl⟩
      have e0 : decide ((N : Int) ≤ (F : Int)) = false := by simp; omega
      have e1 : (F : Int) / 64 = (J0 : Int) := by have := hJ0.out; omega
      go_wp2
      go_loopw [5, 6] (fun jj _ wr => ∃ j : Nat, J0 ≤ j ∧ j ≤ k ∧ Hid (∀ i, F ≤ i → i < 64 * j → bitAt X i = false) ∧ jj = .int .i64 (j : Int) ∧ ∃ q, wr = w1.drewN q) (fun jj _ _ => k - (intOf jj).toNat)
      case atStart => exact ⟨J0, Nat.le_refl _, by have := hJ0.out; omega, fun i h1 h2 => by have := hJ0.out; omega, rfl, 0, rfl⟩
      case round =>
        obtain ⟨j, hj0, hjk, hz, rfl, q, rfl⟩ := hrel
        by_cases hlt : j < k
        · obtain ⟨hx, g, off, rfl, hcell⟩ := hW1.out j hlt
          obtain ⟨x, hx'⟩ : ∃ x, Hid (X j = x) := ⟨_, rfl⟩
          obtain ⟨M, hM⟩ : ∃ M, Hid (lowm ((F : Int) - 64 * (j : Int)) = M) := ⟨_, rfl⟩
          have hMl : M < 18446744073709551616 := hM.out ▸ lowm_lt _
          have hbel : Hid _ := fun w => below_calls ((F : Int) - 64 * (j : Int)) M hM w
          obtain ⟨y, hy⟩ : ∃ y, Hid (X j &&& (18446744073709551615 - lowm ((F : Int) - 64 * (j : Int))) = y) := ⟨_, rfl⟩
          have hyl : y < 18446744073709551616 := hy.out ▸ andNot_lt hx
          have hX64 : Hid (X j < 18446744073709551616) := hx
          have e2 : bits BinOp.andNot IntKind.u64 (x : Int) (M : Int) = (y : Int) := by
            rw [u64_andNot_nat x M (hx'.out ▸ hx) hMl, ← hy.out, hx'.out, hM.out]
          rw [hx'.out] at hcell hx
          have ew1 : IntKind.i64.wrap (64 * (j : Int)) = 64 * (j : Int) := by rw [IntKind.wrap_i64]; omega
          have ew2 : IntKind.i64.wrap ((F : Int) - 64 * (j : Int)) = (F : Int) - 64 * (j : Int) := by rw [IntKind.wrap_i64]; have := hFl'.out; omega
          have hW1' : Hid (Wds w1 (some ⟨g, off, none⟩) k X) := hW1
          clear hW1 hM
          by_cases hy0 : y = 0
          · have hz' : Hid (∀ i, F ≤ i → i < 64 * (j + 1) → bitAt X i = false) := next_zero hX64.out hz.out (hy.out.trans hy0)
            subst hy0
            go_wp2
            go_quiet ((go_at_call 76; with_reducible refine (hbel.out _).mono ?_; rintro e w' ⟨rfl, rfl⟩; exact ⟨rfl, _, rfl⟩))
            go_wp2
            go_roundw
            case rel => exact ⟨j + 1, by omega, by omega, hz', by simp, q + nq, by simp⟩
            case measure => simp [intOf]; omega
          · have hne : ((y : Int) != 0) = true := by simp; omega
            obtain ⟨K, hK⟩ : ∃ K, Hid (Lib.ctz 64 y = K) := ⟨_, rfl⟩
            have hKl : K < 64 := hK.out ▸ (ctz_low hy0 hyl).1
            obtain rfl : S = ((64 * j + K : Nat) : Int) := by
              refine hS.out.uniq ?_
              have h1 := next_here hform'.out hlt hX64.out hz.out hy.out hy0
              rw [hK.out] at h1
              exact h1.clamp hFh.out.symm
            have htz : Hid _ := fun (w : World) (hT : Tab w) => tz_calls y K hyl hK w hT
            clear hS hy0
            go_wp2
            go_quiet ((go_at_call 76; with_reducible refine (hbel.out _).mono ?_; rintro e w' ⟨rfl, rfl⟩; exact ⟨rfl, _, rfl⟩))
            go_wp2_with fail
            refine Calls.mono (htz.out _ hT1.out) ?_
            rintro e w' ⟨rfl, hw'⟩
            obtain rfl := hw'.symm
            go_wp2
            go_ret
            refine ⟨by simp, below_drewN hB1 _⟩
        · obtain rfl : j = k := by omega
          obtain rfl : S = -1 := hS.out.uniq ((next_none hform'.out hz.out).clamp hFh.out.symm)
          have e9 : decide ((j : Int) < (j : Int)) = false := by simp
          clear hS hW1 hz
          go_wp2
          go_ret
          exact ⟨rfl, below_drewN hB1 _⟩
    · obtain rfl : S = -1 := hS.out.uniq (next_high (by have := hFh.out; omega))
      have e0 : decide ((N : Int) ≤ (F : Int)) = true := by simp; omega
      clear hS
      go_wp2
      go_ret
      exact ⟨rfl, hB1⟩
end Go.Proofs.YthhgojdnpkcaaaaDoor
