/-
  What quarryref04.need, quarryref04.bit and quarryref04.Formed answer.
-/
import Derived.Test.YtomeaejjdjidlaaDoorFormedWalk
namespace Go.Proofs.YtomeaejjdjidlaaDoor
open Go.RowKit

theorem refNeed_calls (N : Nat) (M : Nat) (hN : N < 9223372036854775808) (hM : Hid (need N = M)) (w : World) : Calls Tryd.prog 82 #[.int .i64 (N : Int)] w fun e w' => e = .returned (.int .i64 (M : Int)) ∧ w' = w := by
  have hM' := hM.out
  unfold need at hM'
  clear hM
  go_enter Tryd.func82, Tryd.ntmps82
  by_cases h : (N : Int) % 64 = 0
  · have e1 : (N : Int) / 64 = (M : Int) := by omega
    have e2 : ((N : Int) % 64 != 0) = false := by simp [h]
    clear hM' h
    go_wp2
    go_ret
    exact ⟨rfl, rfl⟩
  · have e1 : (N : Int) / 64 + 1 = (M : Int) := by omega
    have e2 : ((N : Int) % 64 != 0) = true := by simpa using h
    clear hM' h
    go_wp2
    go_ret
    exact ⟨rfl, rfl⟩

theorem mod2_bit (x r : Nat) : (((x : Int) / 2 ^ r).tmod 2 == 1) = x.testBit r := by
  have h0 : 0 ≤ (x : Int) / 2 ^ r := Int.ediv_nonneg (by omega) (Int.le_of_lt (Int.pow_pos (by decide)))
  rw [Nat.testBit_eq_decide_div_mod_eq, Int.tmod_eq_emod_of_nonneg h0]
  have : ((x : Int) / 2 ^ r) % 2 = ((x / 2 ^ r % 2 : Nat) : Int) := by simp
  rw [this]
  by_cases h : x / 2 ^ r % 2 = 1
  · simp [h]
  · rw [decide_eq_false h]
    simp; omega

set_option maxRecDepth 10000 in
theorem refBit_calls (i : Nat) (ao : Option Addr) (k cap : Nat) (X : Nat → Nat) (B : Bool) (hi : i < 64 * k) (hk : k ≤ 17592186044416) (hB : Hid (bitAt X i = B)) (w : World) (hW : Wds w ao k X) :
    Calls Tryd.prog 60 #[.slice ao k cap, .int .i64 (i : Int)] w fun e w' => e = .returned (.bool B) ∧ w' = w := by
  obtain ⟨hx, g, off, rfl, hcell⟩ := hW (i / 64) (by omega)
  have hb := hB.out
  unfold bitAt at hb
  obtain ⟨y, hy⟩ : ∃ y, Hid (X (i / 64) = y) := ⟨_, rfl⟩
  rw [hy.out] at hcell hb hx
  obtain ⟨J, hJ⟩ : ∃ J, Hid (i / 64 = J) := ⟨_, rfl⟩
  obtain ⟨R, hR⟩ : ∃ R, Hid (i % 64 = R) := ⟨_, rfl⟩
  have hJk : J < k := by have := hJ.out; omega
  have hR64 : R < 64 := by have := hR.out; omega
  have e1 : (i : Int) / 64 = (J : Int) := by have := hJ.out; omega
  have e2 : (i : Int) % 64 = (R : Int) := by have := hR.out; omega
  rw [hJ.out] at hcell
  rw [hR.out] at hb
  have e3 : (((y : Int) / 2 ^ R).tmod 2 == 1) = B := by rw [mod2_bit, hb]
  clear hW hy hJ hR hb hB
  go_enter Tryd.func60, Tryd.ntmps60
  go_wp2
  go_ret
  exact ⟨rfl, rfl⟩

set_option maxRecDepth 10000 in
set_option maxHeartbeats 1000000 in
theorem refFormed_calls (n : Int) (ao : Option Addr) (k cap : Nat) (X : Nat → Nat) (B : Bool) (hn : (Lit.int .i64 n).wf = true) (hk : k ≤ 17592186044416) (hB : Hid (formed n k X ↔ B = true)) (w : World) (hW : Wds w ao k X) :
    Calls Tryd.prog 59 #[bv n ao k cap] w fun e w' => e = .returned (.bool B) ∧ Below w.heap.size w w' := by
  obtain ⟨hn1, hn2⟩ := wf_i64 hn
  clear hn
  go_enter Tryd.func59, Tryd.ntmps59
  by_cases h0 : n < 0
  · obtain rfl : B = false := by
      cases B
      · rfl
      · have := (hB.out.2 rfl).1; omega
    clear hB hW
    go_wp2
    go_quiet (fail)
    go_wp2
    go_ret
    exact ⟨rfl, by repeat (first | with_reducible exact Below.refl _ _ | with_reducible refine Below.setCell ?_ (by first | (simp; done) | (simp; omega)) _ | with_reducible refine below_drewN ?_ _ | with_reducible refine Below.alloc ?_ (by first | (simp; done) | (simp; omega)) _ | with_reducible refine Below.drew ?_)⟩
  · obtain ⟨N, rfl⟩ := Int.eq_ofNat_of_zero_le (show 0 ≤ n by omega)
    obtain ⟨M, hM⟩ : ∃ M, Hid (need N = M) := ⟨_, rfl⟩
    have hNl : N < 9223372036854775808 := by omega
    have hneed := fun w => refNeed_calls N M hNl hM w
    have hneed' : Hid _ := hneed
    clear hneed
    by_cases hkM : k = M
    · subst hkM
      have hW1 : Wds (w.alloc (.cells #[.int .i64 (N : Int), .slice ao k cap] 34)) ao k X := hW.kept ((Below.refl _ w).alloc (Nat.le_refl _) _)
      go_wp2
      go_quiet ((go_at_call 82; refine (hneed'.out _).mono ?_; rintro e w' ⟨rfl, rfl⟩; exact ⟨rfl, _, rfl⟩))
      have hb0 : Below w.heap.size w ((w.alloc (.cells #[.int .i64 (N : Int), .slice ao k cap] 34)).drewN nq) := by repeat (first | with_reducible exact Below.refl _ _ | with_reducible refine Below.setCell ?_ (by first | (simp; done) | (simp; omega)) _ | with_reducible refine below_drewN ?_ _ | with_reducible refine Below.alloc ?_ (by first | (simp; done) | (simp; omega)) _ | with_reducible refine Below.drew ?_)
      have hW2 : Wds ((w.alloc (.cells #[.int .i64 (N : Int), .slice ao k cap] 34)).drewN nq) ao k X := hW1
      have hc0 : ((w.alloc (.cells #[.int .i64 (N : Int), .slice ao k cap] 34)).drewN nq).cell? ⟨w.heap.size, 0, none⟩ = some (.int .i64 (N : Int)) := (At.new w _ _).cell 0
      have hc1 : ((w.alloc (.cells #[.int .i64 (N : Int), .slice ao k cap] 34)).drewN nq).cell? ⟨w.heap.size, 1, none⟩ = some (.slice ao k cap) := (At.new w _ _).cell 1
      generalize (w.alloc (.cells #[.int .i64 (N : Int), .slice ao k cap] 34)).drewN nq = W at *
      clear hn1 hn2 h0
      go_wp2
      go_loop [3] (fun ii => ∃ i : Nat, N ≤ i ∧ i ≤ max N (64 * k) ∧ Hid (∀ j, N ≤ j → j < i → bitAt X j = false) ∧ ii = .int .i64 (i : Int)) (fun ii => max N (64 * k) - (intOf ii).toNat)
      case atStart => exact ⟨N, Nat.le_refl _, by omega, fun j h1 h2 => by omega, rfl⟩
      case round =>
        obtain ⟨i, hi1, hi2, hz, rfl⟩ := hrel
        by_cases hlt : i < 64 * k
        · have e1 : decide ((i : Int) < 64 * (k : Int)) = true := by simp; omega
          obtain ⟨b, hb⟩ : ∃ b, Hid (bitAt X i = b) := ⟨_, rfl⟩
          have hcall := refBit_calls i ao k cap X b hlt hk hb W hW2
          have hcall' : Hid _ := hcall
          have hB' : Hid _ := hB.out
          clear hcall hB hneed' hW hW1 hW2
          go_wp2_with fail
          refine Calls.mono hcall'.out ?_
          rintro e w' ⟨rfl, rfl⟩
          clear hcall'
          cases b
          · go_wp2
            go_round
            case rel => exact ⟨i + 1, by omega, by omega, fun j h1 h2 => by
                          by_cases hj : j = i
                          · rw [hj]; exact hb.out
                          · exact hz.out j h1 (by omega), by simp⟩
            case measure => simp [intOf]; omega
          · obtain rfl : B = false := by
              cases B
              · rfl
              · have h1 := (hB'.out.2 rfl).2.2 i (by simpa using hi1) hlt
                rw [hb.out] at h1; cases h1
            clear hB'
            go_wp2
            go_ret
            exact ⟨rfl, hb0⟩
        · have e1 : decide ((i : Int) < 64 * (k : Int)) = false := by simp; omega
          obtain rfl : B = true := hB.out.1 ⟨by omega, by simpa using hM.out.symm, fun j h1 h2 => hz.out j (by simpa using h1) (by omega)⟩
          clear hz hB hW hW1 hW2 hneed'
          go_wp2
          go_ret
          exact ⟨rfl, hb0⟩
    · obtain rfl : B = false := by
        cases B
        · rfl
        · have := (hB.out.2 rfl).2.1
          simp at this
          exact (hkM (this.trans hM.out)).elim
      clear hB hW hM
      have hne : ((k : Int) != (M : Int)) = true := by simp; omega
      go_wp2
      go_quiet ((go_at_call 82; refine (hneed'.out _).mono ?_; rintro e w' ⟨rfl, rfl⟩; exact ⟨rfl, _, rfl⟩))
      go_wp2
      go_ret
      exact ⟨rfl, by repeat (first | with_reducible exact Below.refl _ _ | with_reducible refine Below.setCell ?_ (by first | (simp; done) | (simp; omega)) _ | with_reducible refine below_drewN ?_ _ | with_reducible refine Below.alloc ?_ (by first | (simp; done) | (simp; omega)) _ | with_reducible refine Below.drew ?_)⟩
end Go.Proofs.YtomeaejjdjidlaaDoor
