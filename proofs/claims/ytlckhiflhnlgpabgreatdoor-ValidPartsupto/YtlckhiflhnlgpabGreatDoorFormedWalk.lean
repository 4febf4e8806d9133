/-
  What bitmap.needed, bitmap.below and bitmap.Formed answer.
-/
import Derived.Test.YtlckhiflhnlgpabGreatDoorBitsA
import Derived.Test.YtlckhiflhnlgpabGreatDoorBitOpen
import Derived.Test.YtlckhiflhnlgpabGreatDoorKitA
namespace Go.Proofs.YtlckhiflhnlgpabGreatDoor
open Go.RowKit

/-- A row of bits by value. -/
abbrev bv (n : Int) (ao : Option Addr) (k cap : Nat) : Value := .agg #[.int .i64 n, .slice ao k cap]

theorem needed_calls (N : Nat) (M : Nat) (hN : N < 9223372036854775808) (hM : Hid (need N = M)) (w : World) : Calls Tryz.prog 91 #[.int .i64 (N : Int)] w fun e w' => e = .returned (.int .i64 (M : Int)) ∧ w' = w := by
  have hM' := hM.out
  unfold need at hM'
  have e1 : ((N : Int) / 64 + ((N : Int) % 64 + 63) / 64) = (M : Int) := by omega
  clear hM hM'
  go_enter Tryz.func91, Tryz.ntmps91
  go_wp2
  go_ret
  refine ⟨?_, rfl⟩
  congr 2

set_option maxRecDepth 10000 in
theorem below_calls (i : Int) (M : Nat) (hM : Hid (lowm i = M)) (w : World) : Calls Tryz.prog 74 #[.int .i64 i] w fun e w' => e = .returned (.int .u64 (M : Int)) ∧ w' = w := by
  have hm := hM.out
  go_enter Tryz.func74, Tryz.ntmps74
  by_cases h0 : i ≤ 0
  · obtain rfl : M = 0 := by rw [← hm, lowm, show min i.toNat 64 = 0 by omega]
    clear hm hM
    go_wp2
    go_ret
    exact ⟨rfl, rfl⟩
  · obtain ⟨I, rfl⟩ := Int.eq_ofNat_of_zero_le (show 0 ≤ i by omega)
    have hI : 0 < I := by omega
    by_cases h64 : I < 64
    · have hp : (2 : Nat) ^ I ≤ 9223372036854775808 := Nat.pow_le_pow_right (n := 2) (j := 63) (by decide) (by omega)
      have hp0 : 0 < (2 : Nat) ^ I := Nat.pow_pos (by decide)
      have b : IntKind.u64.wrap (IntKind.u64.wrap ((2 : Int) ^ I) - 1) = (M : Int) := by
        have w1 : IntKind.u64.wrap ((2 : Int) ^ I) = ((2 ^ I : Nat) : Int) := (put_bit (X := 0) (by omega) h64).1
        rw [w1, IntKind.wrap_u64, ← hm, lowm, show min ((I : Nat) : Int).toNat 64 = I by simp; omega]
        omega
      replace b : Hid _ := b
      clear hm hM hp hp0 h0
      go_wp2
      go_ret
      refine ⟨?_, rfl⟩
      first | (rw [b.out]; rfl) | rfl
    · have b : IntKind.u64.wrap (IntKind.u64.wrap ((2 : Int) ^ min I 64) - 1) = (M : Int) := by
        rw [← hm, lowm, show min I 64 = 64 by omega, show min ((I : Nat) : Int).toNat 64 = 64 by simp; omega]
        decide
      replace b : Hid _ := b
      clear hm hM h0
      go_wp2
      go_ret
      refine ⟨?_, rfl⟩
      first | (rw [b.out]; rfl) | rfl

set_option maxRecDepth 10000 in
set_option maxHeartbeats 1000000 in
theorem formed_calls (n : Int) (ao : Option Addr) (k cap : Nat) (X : Nat → Nat) (B : Bool) (hn : (Lit.int .i64 n).wf = true) (hk : k ≤ 17592186044416) (hB : Hid (formed n k X ↔ B = true)) (w : World) (hW : Wds w ao k X) :
    Calls Tryz.prog 73 #[bv n ao k cap] w fun e w' => e = .returned (.bool B) ∧ Below w.heap.size w w' := by
  obtain ⟨hn1, hn2⟩ := wf_i64 hn
  clear hn
  go_enter Tryz.func73, Tryz.ntmps73
  by_cases h0 : n < 0
  · obtain rfl : B = false := by
      cases B
      · rfl
      · have := (hB.out.2 rfl).1; omega
    clear hB hW
    go_wp2
    go_quiet (fail)
    go_wp2
    go_ret
    exact ⟨rfl, by repeat (first | with_reducible exact Below.refl _ _ | with_reducible refine Below.setCell ?_ (by first | (simp; done) | (simp; omega)) _ | with_reducible refine below_drewN ?_ _ | with_reducible refine Below.alloc ?_ (by first | (simp; done) | (simp; omega)) _ | with_reducible refine Below.drew ?_)⟩
  · obtain ⟨N, rfl⟩ := Int.eq_ofNat_of_zero_le (show 0 ≤ n by omega)
    obtain ⟨M, hM⟩ : ∃ M, Hid (need N = M) := ⟨_, rfl⟩
    have hNl : N < 9223372036854775808 := by omega
    have hneed := fun w => needed_calls N M hNl hM w
    have hneed' : Hid _ := hneed
    clear hneed
    by_cases hkM : k = M
    · by_cases hN0 : N = 0
      · subst hN0
        obtain rfl : k = 0 := by rw [hkM, ← hM.out]; rfl
        obtain rfl : B = true := hB.out.1 (formed_none X)
        subst hkM
        clear hB hW hM
        go_wp2
        go_quiet ((go_at_call 91; refine (hneed'.out _).mono ?_; rintro e w' ⟨rfl, rfl⟩; exact ⟨rfl, _, rfl⟩))
        go_wp2
        go_ret
        exact ⟨rfl, by repeat (first | with_reducible exact Below.refl _ _ | with_reducible refine Below.setCell ?_ (by first | (simp; done) | (simp; omega)) _ | with_reducible refine below_drewN ?_ _ | with_reducible refine Below.alloc ?_ (by first | (simp; done) | (simp; omega)) _ | with_reducible refine Below.drew ?_)⟩
      · subst hkM
        have hk1 : 0 < k := by
          have := hM.out
          unfold need at this
          omega
        obtain ⟨hx, g, off, rfl, hcell⟩ := hW (k - 1) (by omega)
        obtain ⟨m, hm⟩ : ∃ m, Hid (lowm ((N : Int) - 64 * ((k - 1 : Nat) : Int)) = m) := ⟨_, rfl⟩
        obtain ⟨y, hy⟩ : ∃ y, Hid (X (k - 1) = y) := ⟨_, rfl⟩
        have hml : m < 18446744073709551616 := hm.out ▸ lowm_lt _
        have hf := formed_last (X := X) (N := N) (k := k) (by omega) hM.out.symm hx
        rw [hm.out, hy.out] at hf
        rw [hy.out] at hcell hx
        obtain ⟨L, hL⟩ : ∃ L, Hid (k = L + 1) := ⟨k - 1, by show _ = _; omega⟩
        rw [show k - 1 = L by have := hL.out; omega] at hcell hm
        have hb1 : (bits BinOp.andNot IntKind.u64 (y : Int) (m : Int) == 0) = B := by
          rw [u64_andNot_nat y m hx hml]
          have h1 := hf.trans hB.out
          cases B
          · have h2 : ¬ (y &&& (18446744073709551615 - m) = 0) := fun h => by cases h1.1 h
            simp; omega
          · have h2 := h1.2 rfl
            simp [h2]
        have hbelow := fun w => below_calls ((N : Int) - 64 * (L : Int)) m hm w
        have hbelow' : Hid _ := hbelow
        clear hbelow hf hB hW hM hm hy
        have e2 : ((N : Int) == 0) = false := by simp; omega
        have hLk : L < k := by have := hL.out; omega
        have e3 : (k : Int) - 1 = (L : Int) := by have := hL.out; omega
        clear hL hn1 hn2 h0 hN0
        have hg := cell_block hcell
        have hcell2 : (w.alloc (.cells #[.int .i64 (N : Int), .slice (some ⟨g, off, none⟩) k cap] 70)).cell? ⟨g, off + L, none⟩ = some (.int .u64 (y : Int)) := (((Below.refl _ w).alloc (Nat.le_refl _) _).cell (p := ⟨g, off + L, none⟩) hg).trans hcell
        go_wp2
        go_quiet ((go_at_call 91; refine (hneed'.out _).mono ?_; rintro e w' ⟨rfl, rfl⟩; exact ⟨rfl, _, rfl⟩))
        go_wp2
        go_quiet ((go_at_call 74; refine (hbelow'.out _).mono ?_; rintro e w' ⟨rfl, rfl⟩; exact ⟨rfl, _, rfl⟩))
        go_wp2
        go_ret
        exact ⟨rfl, by repeat (first | with_reducible exact Below.refl _ _ | with_reducible refine Below.setCell ?_ (by first | (simp; done) | (simp; omega)) _ | with_reducible refine below_drewN ?_ _ | with_reducible refine Below.alloc ?_ (by first | (simp; done) | (simp; omega)) _ | with_reducible refine Below.drew ?_)⟩
    · obtain rfl : B = false := by
        cases B
        · rfl
        · have := (hB.out.2 rfl).2.1
          simp at this
          exact (hkM (this.trans hM.out)).elim
      clear hB hW hM
      have hne : ((k : Int) != (M : Int)) = true := by simp; omega
      go_wp2
      go_quiet ((go_at_call 91; refine (hneed'.out _).mono ?_; rintro e w' ⟨rfl, rfl⟩; exact ⟨rfl, _, rfl⟩))
      go_wp2
      go_ret
      exact ⟨rfl, by repeat (first | with_reducible exact Below.refl _ _ | with_reducible refine Below.setCell ?_ (by first | (simp; done) | (simp; omega)) _ | with_reducible refine below_drewN ?_ _ | with_reducible refine Below.alloc ?_ (by first | (simp; done) | (simp; omega)) _ | with_reducible refine Below.drew ?_)⟩
end Go.Proofs.YtlckhiflhnlgpabGreatDoor
