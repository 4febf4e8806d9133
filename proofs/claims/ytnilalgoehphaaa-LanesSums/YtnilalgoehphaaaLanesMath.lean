/-
  Plain facts on the eight bytes of a word: no program, no memory.
-/
namespace Go.Proofs.Ytnilalgoehphaaa

/-- The byte i of the word W. -/
def byteOf (W i : Nat) : Nat := W / 256 ^ i % 256
/-- What is left of W when i bytes are gone. -/
def upper (W i : Nat) : Nat := W / 256 ^ i
/-- The first n bytes added up. -/
def sumTo (W : Nat) : Nat → Nat
  | 0 => 0
  | n + 1 => sumTo W n + byteOf W n

theorem upper_zero (W : Nat) : upper W 0 = W := by simp [upper]
theorem upper_succ (W i : Nat) : upper W (i + 1) = upper W i / 256 := by simp [upper, Nat.pow_succ, Nat.div_div_eq_div_mul]
theorem upper_le (W i : Nat) : upper W i ≤ W := Nat.div_le_self _ _
theorem byteOf_lt (W i : Nat) : byteOf W i < 256 := Nat.mod_lt _ (by decide)
theorem byteOf_upper (W i : Nat) : byteOf W i = upper W i % 256 := rfl
theorem sumTo_le (W n : Nat) : sumTo W n ≤ 255 * n := by
  induction n with
  | zero => simp [sumTo]
  | succ n ih => have := byteOf_lt W n; simp only [sumTo]; omega
theorem shift_byte (W k : Nat) : W / 2 ^ (8 * k) % 256 = byteOf W k := by
  unfold byteOf
  rw [show (256 : Nat) = 2 ^ 8 from rfl, ← Nat.pow_mul]
end Go.Proofs.Ytnilalgoehphaaa
