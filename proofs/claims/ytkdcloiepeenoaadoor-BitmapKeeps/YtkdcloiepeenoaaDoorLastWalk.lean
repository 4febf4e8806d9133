/-
  What bitmap.Last answers.
-/
import Derived.Test.YtkdcloiepeenoaaDoorAskKit
import Derived.Test.YtkdcloiepeenoaaDoorBitsA
namespace Go.Proofs.YtkdcloiepeenoaaDoor
open Go.RowKit Go.Shelf

set_option maxRecDepth 10000 in
set_option maxHeartbeats 4000000 in
theorem last_at (n i S : Int) (ao : Option Addr) (k cap : Nat) (X : Nat → Nat) (N : Nat) (hn : (Lit.int .i64 n).wf = true) (hi : (Lit.int .i64 i).wf = true) (hk : k ≤ 17592186044416) (hE : Hid (Eff n k X N)) (hS : Hid (IsLast X N i S)) (w : World) (hW : Wds w ao k X) :
    Calls Tryd.prog 30 #[bv n ao k cap, .int .i64 i] w fun e w' => e = .returned (.int .i64 S) ∧ Below w.heap.size w w' := by
  obtain ⟨i1, i2⟩ := wf_i64 hi
  obtain ⟨FA, hFA⟩ := formedB n k X
  have hfc : Hid _ := fun (w1 : World) (hb : Below w.heap.size w w1) => formed_calls n ao k cap X FA hn hk hFA w1 (hW.kept hb)
  obtain ⟨T, hT⟩ : ∃ T : Int, min i n = T := ⟨_, rfl⟩
  have hTh : Hid (min i n = T) := hT
  obtain ⟨n1, n2⟩ := wf_i64 hn
  have hTl' : Hid (-9223372036854775808 ≤ T ∧ T < 9223372036854775808) := by show _ ∧ _; omega
  clear hi hn i1 i2 n1 n2
  go_enter Tryd.func30, Tryd.ntmps30
  go_wp2_with fail
  clear hT
  refine Calls.mono (hfc.out _ (by repeat (first | with_reducible exact Below.refl _ _ | with_reducible refine Below.setCell ?_ (by first | (simp; done) | (simp; omega)) _ | with_reducible refine below_drewN ?_ _ | with_reducible refine Below.alloc ?_ (by first | (simp; done) | (simp; omega)) _ | with_reducible refine Below.drew ?_))) ?_
  rintro e w1 ⟨rfl, hb1⟩
  have a1 : At w1 w.heap.size #[.int .i64 n, .slice ao k cap] 24 := (At.new w _ _).keptAll hb1
  have hB1 : Below w.heap.size w w1 := Below.trans (by repeat (first | with_reducible exact Below.refl _ _ | with_reducible refine Below.setCell ?_ (by first | (simp; done) | (simp; omega)) _ | with_reducible refine below_drewN ?_ _ | with_reducible refine Below.alloc ?_ (by first | (simp; done) | (simp; omega)) _ | with_reducible refine Below.drew ?_)) (hb1.mono (by simp))
  obtain ⟨c0, c1, -, -⟩ := a1.facts
  have hW1 : Hid (Wds w1 ao k X) := hW.kept hB1
  clear hb1 a1 hfc hW
  cases FA
  · obtain rfl : N = 0 := by
      rcases hE.out with ⟨h, _⟩ | ⟨_, h⟩
      · have h' := hFA.out.1 h; cases h'
      · exact h
    obtain rfl : S = -1 := hS.out.uniq (last_low (by omega))
    clear hE hFA hS
    go_wp2
    go_ret
    exact ⟨rfl, hB1⟩
  · have hform : formed n k X := hFA.out.2 rfl
    obtain ⟨N', rfl⟩ := Int.eq_ofNat_of_zero_le hform.1
    obtain rfl : N = N' := by
      rcases hE.out with ⟨_, h⟩ | ⟨h, _⟩
      · simpa using h
      · exact (h hform).elim
    have hNk : N ≤ 64 * k ∧ 64 * k ≤ N + 63 := by have := hform.2.1; simp at this; unfold need at this; omega
    have hform' : Hid (formed N k X) := hform
    clear hE hFA hform
    by_cases hT0 : 0 < T
    · obtain ⟨U, rfl⟩ : ∃ U : Nat, T = ((U + 1 : Nat) : Int) := ⟨(T - 1).toNat, by omega⟩
      have hUN : U + 1 ≤ N := by have := hTh.out; omega
      obtain ⟨J0, hJ0⟩ : ∃ J0, Hid (U / 64 = J0) := ⟨_, rfl⟩
      have e0 : decide (((U + 1 : Nat) : Int) ≤ 0) = false := by simp only [decide_eq_false_iff_not]; omega
      have e1 : (((U + 1 : Nat) : Int) - 1) / 64 = (J0 : Int) := by have := hJ0.out; omega
      have e1' : ((U + 1 : Nat) : Int) - 1 = (U : Int) := by omega
      have e1'' : (U : Int) / 64 = (J0 : Int) := by have := hJ0.out; omega
      have hJk : J0 < k := by have := hJ0.out; omega
      obtain ⟨T, hTT⟩ : ∃ T, Hid (U + 1 = T) := ⟨_, rfl⟩
      rw [hTT.out] at e0 e1 e1' hUN
      have hTh' : Hid (min i (N : Int) = (T : Int)) := by show _ = _; rw [hTh.out, hTT.out]
      have hT1 : 0 < T := by have := hTT.out; omega
      have hTs : Hid (∀ i, 64 * (J0 + 1) ≤ i → i < T → bitAt X i = false) := fun i h1 h2 => by have := hJ0.out; have := hTT.out; omega
      rw [hTT.out]
      clear hT0 hTh hJ0 hTl'
      go_wp2
      go_loopw [5, 6] (fun jj _ wr => ∃ j : Nat, j ≤ J0 + 1 ∧ Hid (∀ i, 64 * j ≤ i → i < T → bitAt X i = false) ∧ jj = .int .i64 ((j : Int) - 1) ∧ ∃ q, wr = w1.drewN q) (fun jj _ _ => (intOf jj + 1).toNat)
      case atStart => exact ⟨J0 + 1, Nat.le_refl _, hTs, by simp, 0, rfl⟩
      case round =>
        obtain ⟨j, hj0, hz, rfl, q, rfl⟩ := hrel
        by_cases hlt : 0 < j
        · obtain ⟨j, rfl⟩ : ∃ j', j = j' + 1 := ⟨j - 1, by omega⟩
          have hjk : j < k := by omega
          rw [show (((j + 1 : Nat) : Int) - 1) = (j : Int) by omega]
          obtain ⟨hx, g, off, rfl, hcell⟩ := hW1.out j hjk
          obtain ⟨x, hx'⟩ : ∃ x, Hid (X j = x) := ⟨_, rfl⟩
          obtain ⟨M, hM⟩ : ∃ M, Hid (lowm ((T : Int) - 64 * (j : Int)) = M) := ⟨_, rfl⟩
          have hMl : M < 18446744073709551616 := hM.out ▸ lowm_lt _
          have hbel : Hid _ := fun w => below_calls ((T : Int) - 64 * (j : Int)) M hM w
          obtain ⟨y, hy⟩ : ∃ y, Hid (X j &&& lowm ((T : Int) - 64 * (j : Int)) = y) := ⟨_, rfl⟩
          have hyl : y < 18446744073709551616 := hy.out ▸ Nat.lt_of_le_of_lt Nat.and_le_left hx
          have hX64 : Hid (X j < 18446744073709551616) := hx
          have e2 : bits BinOp.and IntKind.u64 (x : Int) (M : Int) = (y : Int) := by
            rw [u64_and_nat x M (hx'.out ▸ hx) hMl, ← hy.out, hx'.out, hM.out]
          rw [hx'.out] at hcell hx
          have ew1 : IntKind.i64.wrap (64 * (j : Int)) = 64 * (j : Int) := by rw [IntKind.wrap_i64]; omega
          have ew2 : IntKind.i64.wrap ((T : Int) - 64 * (j : Int)) = (T : Int) - 64 * (j : Int) := by rw [IntKind.wrap_i64]; omega
          have hW1' : Hid (Wds w1 (some ⟨g, off, none⟩) k X) := hW1
          have ej : decide ((0 : Int) ≤ (j : Int)) = true := by simp
          clear hW1 hM hlt
          by_cases hy0 : y = 0
          · have hz' : Hid (∀ i, 64 * j ≤ i → i < T → bitAt X i = false) := last_zero hX64.out hz.out (hy.out.trans hy0)
            subst hy0
            go_wp2
            go_quiet ((go_at_call 51; with_reducible refine (hbel.out _).mono ?_; rintro e w' ⟨rfl, rfl⟩; exact ⟨rfl, _, rfl⟩))
            go_wp2
            go_roundw
            case rel => exact ⟨j, by omega, hz', by simp, q + nq, by simp⟩
            case measure => simp [intOf]
          · have hne : ((y : Int) != 0) = true := by simp; omega
            obtain ⟨K, hK⟩ : ∃ K, Hid (Lib.bitLen y = K) := ⟨_, rfl⟩
            obtain ⟨hK1, hK2, hK3⟩ := len_high hK.out hy0 hyl
            obtain ⟨L, rfl⟩ : ∃ L, K = L + 1 := ⟨K - 1, by omega⟩
            have hL64 : L < 64 := by
              rcases Nat.lt_or_ge L 64 with h | h
              · exact h
              · have h2 : (2 : Nat) ^ 64 ≤ 2 ^ L := Nat.pow_le_pow_right (by decide) h
                simp only [Nat.add_sub_cancel] at hK2
                omega
            obtain rfl : S = ((64 * j + L : Nat) : Int) := hS.out.uniq ((last_here hUN hX64.out hz.out hy.out (by simpa using hK2) (by simpa using hK3)).clamp hTh'.out.symm)
            have htz : Hid _ := fun (w : World) => len64_calls y (L + 1) hyl hK w
            clear hS hy0 hK2 hK3 hK1
            go_wp2
            go_quiet ((go_at_call 51; with_reducible refine (hbel.out _).mono ?_; rintro e w' ⟨rfl, rfl⟩; exact ⟨rfl, _, rfl⟩))
            go_wp2_with fail
            refine Calls.mono (htz.out _) ?_
            rintro e w' ⟨rfl, hw'⟩
            obtain rfl := hw'.symm
            go_wp2
            go_ret
            refine ⟨?_, below_drewN hB1 _⟩
            simp
            omega
        · obtain rfl : j = 0 := by omega
          obtain rfl : S = -1 := hS.out.uniq ((last_none (N := N) (fun i h => hz.out i (by omega) h)).clamp hTh'.out.symm)
          clear hS hW1 hz
          go_wp2
          go_ret
          exact ⟨rfl, below_drewN hB1 _⟩
    · obtain rfl : S = -1 := hS.out.uniq (last_low (by have := hTh.out; omega))
      have e0 : decide (T ≤ 0) = true := by simp; omega
      clear hS
      go_wp2
      go_ret
      exact ⟨rfl, hB1⟩
end Go.Proofs.YtkdcloiepeenoaaDoor
