/-
  What quarryref05.Begins answers.
-/
import Derived.Test.YtlcihopklnnhdabUtf8Span
namespace Go.Proofs.Ytlcihopklnnhdab
open Go.RowKit

/-- What Begins answers: whether some character begins so; if so, one that does, and whether the bytes are the whole of it. -/
def BegV (S : Prop) (lo hi n z : Nat) (e : Ending) : Prop := ∃ (ok : Bool) (r : Int) (al : Bool), e = .returned (.tuple #[.bool ok, .int .i32 r, .bool al]) ∧ (ok = true ↔ S) ∧ (ok = true → ∃ c : Nat, r = (c : Int) ∧ lo ≤ c ∧ c ≤ hi) ∧ (ok = true → al = decide (n = z))
theorem sizeZ_nat (c : Nat) : sizeZ (c : Int) = sizeN c := by unfold sizeZ; rw [if_neg (by omega)]; rfl
theorem hiB_small {x : Nat} {t : List Nat} (hx : x < 256) (h : SpanOk x t) : hiB5u x t < 33554432 := by
  have h1 := accB_lt t (leadB x) h.1
  have h2 := leadB_le hx
  have hs : sizeB x ≤ 4 := by have := sizeB_cases x hx; omega
  have h0 := h.2
  have h3 : (accB (leadB x) t + 1) * 64 ^ (sizeB x - (t.length + 1)) ≤ ((leadB x + 1) * 64 ^ t.length) * 64 ^ (sizeB x - (t.length + 1)) := Nat.mul_le_mul_right _ h1
  rw [Nat.mul_assoc, ← Nat.pow_add] at h3
  have h4 : 64 ^ (t.length + (sizeB x - (t.length + 1))) ≤ 64 ^ 3 := Nat.pow_le_pow_right (by decide) (by omega)
  have h5 : (leadB x + 1) * 64 ^ (t.length + (sizeB x - (t.length + 1))) ≤ 128 * 64 ^ 3 := Nat.mul_le_mul (by omega) h4
  have h6 : 128 * 64 ^ 3 = 33554432 := by decide
  have h7 : 0 < (accB (leadB x) t + 1) * 64 ^ (sizeB x - (t.length + 1)) := Nat.mul_pos (by omega) (Nat.pos_of_ne_zero (by simp))
  unfold hiB5u
  omega

theorem less_by {c hi : Nat} (h : c ≤ hi) : hi + 1 - ((c : Int) + 1).toNat < hi + 1 - (c : Int).toNat := by omega

end Go.Proofs.Ytlcihopklnnhdab
