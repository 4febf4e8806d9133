/-
  GetWalk, CountWalk, NextWalk.
-/
import Derived.Test.YtomeaejjdjidlaaDoorBitsC
import Derived.Test.YtomeaejjdjidlaaDoorBitsA
/-
  What bitmap.Get answers.
-/
namespace Go.Proofs.YtomeaejjdjidlaaDoor
open Go.RowKit Go.Shelf

end Go.Proofs.YtomeaejjdjidlaaDoor

/-
  What bitmap.Count answers.
-/
namespace Go.Proofs.YtomeaejjdjidlaaDoor
open Go.RowKit Go.Shelf

end Go.Proofs.YtomeaejjdjidlaaDoor

/-
  What bitmap.Next answers.
-/
namespace Go.Proofs.YtomeaejjdjidlaaDoor
open Go.RowKit Go.Shelf

set_option maxRecDepth 10000 in
set_option maxHeartbeats 4000000 in
theorem next_at (n i S : Int) (ao : Option Addr) (k cap : Nat) (X : Nat → Nat) (N : Nat) (hn : (Lit.int .i64 n).wf = true) (hi : (Lit.int .i64 i).wf = true) (hk : k ≤ 17592186044416) (hE : Hid (Eff n k X N)) (hS : Hid (IsNext X N i S)) (w : World) (hT : Tab w) (h0 : 0 < w.heap.size) (hW : Wds w ao k X) :
    Calls Tryd.prog 58 #[bv n ao k cap, .int .i64 i] w fun e w' => e = .returned (.int .i64 S) ∧ Below w.heap.size w w' := by
  obtain ⟨i1, i2⟩ := wf_i64 hi
  obtain ⟨FA, hFA⟩ := formedB n k X
  have hfc : Hid _ := fun (w1 : World) (hb : Below w.heap.size w w1) => formed_calls n ao k cap X FA hn hk hFA w1 (hW.kept hb)
  obtain ⟨F, hF⟩ := Int.eq_ofNat_of_zero_le (show 0 ≤ max i 0 by omega)
  have hFh : Hid (max i 0 = (F : Int)) := hF
  have hFl : F < 9223372036854775808 := by omega
  have hFl' : Hid (F < 9223372036854775808) := hFl
  clear hi hn i1 i2 hFl
  go_enter Tryd.func58, Tryd.ntmps58
  go_wp2_with fail
  clear hF
  refine Calls.mono (hfc.out _ (by repeat (first | with_reducible exact Below.refl _ _ | with_reducible refine Below.setCell ?_ (by first | (simp; done) | (simp; omega)) _ | with_reducible refine below_drewN ?_ _ | with_reducible refine Below.alloc ?_ (by first | (simp; done) | (simp; omega)) _ | with_reducible refine Below.drew ?_))) ?_
  rintro e w1 ⟨rfl, hb1⟩
  have a1 : At w1 w.heap.size #[.int .i64 n, .slice ao k cap] 34 := (At.new w _ _).keptAll hb1
  have hB1 : Below w.heap.size w w1 := Below.trans (by repeat (first | with_reducible exact Below.refl _ _ | with_reducible refine Below.setCell ?_ (by first | (simp; done) | (simp; omega)) _ | with_reducible refine below_drewN ?_ _ | with_reducible refine Below.alloc ?_ (by first | (simp; done) | (simp; omega)) _ | with_reducible refine Below.drew ?_)) (hb1.mono (by simp))
  obtain ⟨c0, c1, -, -⟩ := a1.facts
  have hW1 : Hid (Wds w1 ao k X) := hW.kept hB1
  have hT1 : Hid (Tab w1) := hT.below hB1 h0
  clear hb1 a1 hfc hW hT
  cases FA
  · obtain rfl : N = 0 := by
      rcases hE.out with ⟨h, _⟩ | ⟨_, h⟩
      · have h' := hFA.out.1 h; cases h'
      · exact h
    obtain rfl : S = -1 := hS.out.uniq (next_high (by omega))
    clear hE hFA hS
    go_wp2
    go_ret
    exact ⟨rfl, hB1⟩
  · have hform : formed n k X := hFA.out.2 rfl
    obtain ⟨N', rfl⟩ := Int.eq_ofNat_of_zero_le hform.1
    obtain rfl : N = N' := by
      rcases hE.out with ⟨_, h⟩ | ⟨h, _⟩
      · simpa using h
      · exact (h hform).elim
    have hNk : N ≤ 64 * k ∧ 64 * k ≤ N + 63 := by have := hform.2.1; simp at this; unfold need at this; omega
    have hform' : Hid (formed N k X) := hform
    clear hE hFA hform
    by_cases hFN : F < N
    · obtain ⟨J0, hJ0⟩ : ∃ J0, Hid (F / 64 = J0) := ⟨_, rfl⟩
      have e0 : decide ((N : Int) ≤ (F : Int)) = false := by simp; omega
      have e1 : (F : Int) / 64 = (J0 : Int) := by have := hJ0.out; omega
      go_wp2
      go_loopw [5, 6] (fun jj _ wr => ∃ j : Nat, J0 ≤ j ∧ j ≤ k ∧ Hid (∀ i, F ≤ i → i < 64 * j → bitAt X i = false) ∧ jj = .int .i64 (j : Int) ∧ ∃ q, wr = w1.drewN q) (fun jj _ _ => k - (intOf jj).toNat)
      case atStart => exact ⟨J0, Nat.le_refl _, by have := hJ0.out; omega, fun i h1 h2 => by have := hJ0.out; omega, rfl, 0, rfl⟩
      case round =>
        obtain ⟨j, hj0, hjk, hz, rfl, q, rfl⟩ := hrel
        by_cases hlt : j < k
        · obtain ⟨hx, g, off, rfl, hcell⟩ := hW1.out j hlt
          obtain ⟨x, hx'⟩ : ∃ x, Hid (X j = x) := ⟨_, rfl⟩
          obtain ⟨M, hM⟩ : ∃ M, Hid (lowm ((F : Int) - 64 * (j : Int)) = M) := ⟨_, rfl⟩
          have hMl : M < 18446744073709551616 := hM.out ▸ lowm_lt _
          have hbel : Hid _ := fun w => below_calls ((F : Int) - 64 * (j : Int)) M hM w
          obtain ⟨y, hy⟩ : ∃ y, Hid (X j &&& (18446744073709551615 - lowm ((F : Int) - 64 * (j : Int))) = y) := ⟨_, rfl⟩
          have hyl : y < 18446744073709551616 := hy.out ▸ andNot_lt hx
          have hX64 : Hid (X j < 18446744073709551616) := hx
          have e2 : bits BinOp.andNot IntKind.u64 (x : Int) (M : Int) = (y : Int) := by
            rw [u64_andNot_nat x M (hx'.out ▸ hx) hMl, ← hy.out, hx'.out, hM.out]
          rw [hx'.out] at hcell hx
          have ew1 : IntKind.i64.wrap (64 * (j : Int)) = 64 * (j : Int) := by rw [IntKind.wrap_i64]; omega
          have ew2 : IntKind.i64.wrap ((F : Int) - 64 * (j : Int)) = (F : Int) - 64 * (j : Int) := by rw [IntKind.wrap_i64]; have := hFl'.out; omega
          have hW1' : Hid (Wds w1 (some ⟨g, off, none⟩) k X) := hW1
          clear hW1 hM
          by_cases hy0 : y = 0
          · have hz' : Hid (∀ i, F ≤ i → i < 64 * (j + 1) → bitAt X i = false) := next_zero hX64.out hz.out (hy.out.trans hy0)
            subst hy0
            go_wp2
            go_quiet ((go_at_call 81; with_reducible refine (hbel.out _).mono ?_; rintro e w' ⟨rfl, rfl⟩; exact ⟨rfl, _, rfl⟩))
            go_wp2
            go_roundw
            case rel => exact ⟨j + 1, by omega, by omega, hz', by simp, q + nq, by simp⟩
            case measure => simp [intOf]; omega
          · have hne : ((y : Int) != 0) = true := by simp; omega
            obtain ⟨K, hK⟩ : ∃ K, Hid (Lib.ctz 64 y = K) := ⟨_, rfl⟩
            have hKl : K < 64 := hK.out ▸ (ctz_low hy0 hyl).1
            obtain rfl : S = ((64 * j + K : Nat) : Int) := by
              refine hS.out.uniq ?_
              have h1 := next_here hform'.out hlt hX64.out hz.out hy.out hy0
              rw [hK.out] at h1
              exact h1.clamp hFh.out.symm
            have htz : Hid _ := fun (w : World) (hT : Tab w) => tz_calls y K hyl hK w hT
            clear hS hy0
            go_wp2
            go_quiet ((go_at_call 81; with_reducible refine (hbel.out _).mono ?_; rintro e w' ⟨rfl, rfl⟩; exact ⟨rfl, _, rfl⟩))
            go_wp2_with fail
            refine Calls.mono (htz.out _ hT1.out) ?_
            rintro e w' ⟨rfl, hw'⟩
            obtain rfl := hw'.symm
            go_wp2
            go_ret
            refine ⟨by simp, below_drewN hB1 _⟩
        · obtain rfl : j = k := by omega
          obtain rfl : S = -1 := hS.out.uniq ((next_none hform'.out hz.out).clamp hFh.out.symm)
          have e9 : decide ((j : Int) < (j : Int)) = false := by simp
          clear hS hW1 hz
          go_wp2
          go_ret
          exact ⟨rfl, below_drewN hB1 _⟩
    · obtain rfl : S = -1 := hS.out.uniq (next_high (by have := hFh.out; omega))
      have e0 : decide ((N : Int) ≤ (F : Int)) = true := by simp; omega
      clear hS
      go_wp2
      go_ret
      exact ⟨rfl, hB1⟩
end Go.Proofs.YtomeaejjdjidlaaDoor
