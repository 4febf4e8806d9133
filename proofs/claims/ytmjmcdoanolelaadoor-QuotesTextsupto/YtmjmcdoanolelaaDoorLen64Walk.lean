/-
  What math/bits.Len64 answers.
-/
import Derived.Test.YtmjmcdoanolelaaDoorRows
import Derived.Lib.Strings
import Derived.Lib.Slices
import Derived.Lib.Small
import Derived.Lib.Walk
import Derived.Lib.BitFns
import Derived.Lib.ItoaNum
namespace Go.Proofs.YtmjmcdoanolelaaDoor

/-- The rest's length, and how far it was moved. -/
theorem len_part (s : Nat) {x y : Int} (h0 : 0 ≤ x) (hx : x < 18446744073709551616) (hs : s = 0 ∨ (2 : Int) ^ s ≤ x) (hy : y = x / 2 ^ s) (hy1 : y < 256) : (s : Int) + Lib.len8 y = (Lib.bitLen x.toNat : Int) ∧ 0 ≤ Lib.len8 y ∧ Lib.len8 y ≤ 8 := by
  obtain ⟨X, rfl⟩ := Int.eq_ofNat_of_zero_le h0
  obtain ⟨Y, hY⟩ : ∃ Y, Y = X / 2 ^ s := ⟨_, rfl⟩
  have e : y = (Y : Int) := by rw [hy, hY]; simp
  subst e
  have l8 := Lib.bitLen_le8' (Y : Int) (by omega) (by omega)
  rw [Lib.len8_of _ (by omega) (by omega)]
  rw [Int.toNat_natCast] at l8
  rw [Int.toNat_natCast, Int.toNat_natCast]
  refine ⟨?_, by omega, by omega⟩
  rw [hY]
  rcases hs with rfl | h
  · simp
  · have hn : 2 ^ s ≤ X := by
      have : ((2 ^ s : Nat) : Int) ≤ (X : Int) := by simpa using h
      exact Int.ofNat_le.1 this
    have := Lib.bitLen_shift s X hn (by omega)
    omega
/-- Where the highest set bit is. -/
theorem len_high {x K : Nat} (hK : Lib.bitLen x = K) (h0 : x ≠ 0) (hx : x < 18446744073709551616) : 1 ≤ K ∧ 2 ^ (K - 1) ≤ x ∧ x < 2 ^ (K - 1 + 1) := by
  have h := Lib.bitLenAux_bounds 64 x hx h0
  have e : Lib.bitLenAux 64 x = K := hK
  rw [e] at h
  exact ⟨h.1, h.2.1, by rw [show K - 1 + 1 = K by omega]; exact h.2.2⟩
end Go.Proofs.YtmjmcdoanolelaaDoor
