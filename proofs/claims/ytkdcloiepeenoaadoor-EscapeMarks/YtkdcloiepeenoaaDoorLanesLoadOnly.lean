/-
  What lanes.Load answers.
-/
import Derived.Test.YtkdcloiepeenoaaDoorLanesStore
namespace Go.Proofs.YtkdcloiepeenoaaDoor
open Go.RowKit

theorem pow8_le (k : Nat) (h : k ≤ 8) : (256 : Nat) ^ k ≤ 18446744073709551616 := by
  have : (256 : Nat) ^ k ≤ 256 ^ 8 := Nat.pow_le_pow_right (by decide) h
  simpa using this
theorem load_or_int (f : Nat → Nat) (hf : ∀ i, f i < 256) (k : Nat) (h : k < 8) :
    bits BinOp.or IntKind.u64 ((loadTo f k : Nat) : Int) (IntKind.u64.wrap (((f k : Nat) : Int) * 2 ^ (8 * k))) = ((loadTo f (k + 1) : Nat) : Int) := by
  have e : ((f k : Nat) : Int) * 2 ^ (8 * k) = ((f k * 2 ^ (8 * k) : Nat) : Int) := by simp
  have p1 := pow8_le (k + 1) (by omega)
  have e2 : (2 : Nat) ^ (8 * k) = 256 ^ k := by rw [Nat.pow_mul]
  have p2 : f k * 2 ^ (8 * k) < 18446744073709551616 := by
    have h1 := hf k
    have h2 : f k * 256 ^ k ≤ 255 * 256 ^ k := Nat.mul_le_mul_right _ (by omega)
    have h3 : 0 < 256 ^ k := Nat.pow_pos (by decide)
    rw [e2]
    rw [Nat.pow_succ] at p1
    omega
  have p3 := loadTo_lt f hf k
  have p4 := pow8_le k (by omega)
  have hm : (((f k * 2 ^ (8 * k) : Nat) : Int)) % 18446744073709551616 = ((f k * 2 ^ (8 * k) : Nat) : Int) := by
    generalize f k * 2 ^ (8 * k) = X at p2
    omega
  rw [e, IntKind.wrap_u64, hm, u64_or_nat _ _ (by omega) p2, loadTo_or f hf k]

set_option maxRecDepth 100000 in
set_option maxHeartbeats 400000 in
theorem load_nat (f : Nat → Nat) (hf : ∀ i, f i < 256) (S : Nat) (w : World) (HS : Hid (loadTo f 8 = S)) :
    Calls Tryd.prog 59 #[.agg (byteArr f)] w fun e w' => e = .returned (.int .u64 (S : Int)) ∧ Below w.heap.size w w' := by
  go_enter Tryd.func59, Tryd.ntmps59
  go_wp2
  go_loopw [3, 6] (fun x i wr => ∃ k nq : Nat, k ≤ 8 ∧ i = .int .i64 k ∧ x = .int .u64 ((loadTo f k : Nat) : Int) ∧ wr = (w.alloc (.cells (byteArr f) 78)).drewN nq) (fun _ i _ => 8 - (intOf i).toNat)
  case atStart => exact ⟨0, 0, by omega, rfl, rfl, rfl⟩
  case round =>
    obtain ⟨k, nq, hk, rfl, rfl, rfl⟩ := hrel
    by_cases hlt : k < 8
    · have hk8 : (k : Int) < 8 := by omega
      have hc := byteArr_at f k hlt
      have hfk := hf k
      go_wp2
      go_region
      go_wp2
      refine ⟨⟨k + 1, nq + 1, by omega, by go_num, by rw [load_or_int f hf k hlt], rfl⟩, by simp [intOf]; omega⟩
    · have hk' : k = 8 := by omega
      subst hk'
      go_wp2
      go_ret
      exact ⟨by rw [HS.out]; rfl, below_drewN ((Below.refl _ _).alloc (Nat.le_refl _) _) _⟩

theorem load_calls (f : Nat → Nat) (hf : ∀ i, f i < 256) (w : World) :
    Calls Tryd.prog 59 #[.agg (byteArr f)] w fun e w' => e = .returned (.int .u64 ((loadTo f 8 : Nat) : Int)) ∧ Below w.heap.size w w' := load_nat f hf _ w rfl
end Go.Proofs.YtkdcloiepeenoaaDoor
