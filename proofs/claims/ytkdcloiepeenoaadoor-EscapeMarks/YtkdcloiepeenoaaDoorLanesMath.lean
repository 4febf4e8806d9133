/-
  Plain facts on the eight bytes of a word: no program, no memory.
-/
namespace Go.Proofs.YtkdcloiepeenoaaDoor

/-- The byte i of the word W. -/
def byteOf (W i : Nat) : Nat := W / 256 ^ i % 256
/-- What is left of W when i bytes are gone. -/
def upper (W i : Nat) : Nat := W / 256 ^ i
/-- The first n bytes added up. -/
def sumTo (W : Nat) : Nat → Nat
  | 0 => 0
  | n + 1 => sumTo W n + byteOf W n

theorem upper_zero (W : Nat) : upper W 0 = W := by simp [upper]
theorem upper_succ (W i : Nat) : upper W (i + 1) = upper W i / 256 := by simp [upper, Nat.pow_succ, Nat.div_div_eq_div_mul]
theorem upper_le (W i : Nat) : upper W i ≤ W := Nat.div_le_self _ _
theorem byteOf_lt (W i : Nat) : byteOf W i < 256 := Nat.mod_lt _ (by decide)
theorem byteOf_upper (W i : Nat) : byteOf W i = upper W i % 256 := rfl
theorem sumTo_le (W n : Nat) : sumTo W n ≤ 255 * n := by
  induction n with
  | zero => simp [sumTo]
  | succ n ih => have := byteOf_lt W n; simp only [sumTo]; omega
theorem shift_byte (W k : Nat) : W / 2 ^ (8 * k) % 256 = byteOf W k := by
  unfold byteOf
  rw [show (256 : Nat) = 2 ^ 8 from rfl, ← Nat.pow_mul]

/-- The word of the first n of some bytes. -/
def loadTo (f : Nat → Nat) : Nat → Nat
  | 0 => 0
  | n + 1 => loadTo f n + f n * 256 ^ n
/-- The word of the bytes from n on, as it is made from the highest one down, k of them. -/
def hornTo (f : Nat → Nat) (n : Nat) : Nat → Nat
  | 0 => 0
  | k + 1 => hornTo f n k * 256 + f (n - 1 - k)

theorem loadTo_succ (f : Nat → Nat) (n : Nat) : loadTo f (n + 1) = loadTo f n + f n * 256 ^ n := rfl
theorem loadTo_lt (f : Nat → Nat) (hf : ∀ i, f i < 256) (n : Nat) : loadTo f n < 256 ^ n := by
  induction n with
  | zero => simp [loadTo]
  | succ n ih =>
    have h := hf n
    have h2 : f n * 256 ^ n ≤ 255 * 256 ^ n := Nat.mul_le_mul_right _ (by omega)
    rw [loadTo_succ, Nat.pow_succ]
    omega
/-- Putting the next byte in its place by or. -/
theorem loadTo_or (f : Nat → Nat) (hf : ∀ i, f i < 256) (n : Nat) : loadTo f n ||| f n * 2 ^ (8 * n) = loadTo f (n + 1) := by
  have h := loadTo_lt f hf n
  have e : (256 : Nat) ^ n = 2 ^ (8 * n) := by rw [Nat.pow_mul]
  rw [e] at h
  rw [loadTo_succ, e, Nat.add_comm (loadTo f n), ← Nat.shiftLeft_eq, Nat.shiftLeft_add_eq_or_of_lt h, Nat.or_comm]
theorem hornTo_succ (f : Nat → Nat) (n k : Nat) : hornTo f n (k + 1) = hornTo f n k * 256 + f (n - 1 - k) := rfl
theorem horn_load (f : Nat → Nat) (n k : Nat) (hk : k ≤ n) : hornTo f n k * 256 ^ (n - k) + loadTo f (n - k) = loadTo f n := by
  induction k with
  | zero => simp [hornTo]
  | succ k ih =>
    have ih := ih (by omega)
    have e : n - k = (n - (k + 1)) + 1 := by omega
    rw [e, loadTo_succ, Nat.pow_succ] at ih
    rw [hornTo_succ, show n - 1 - k = n - (k + 1) by omega, Nat.add_mul, Nat.mul_assoc]
    rw [Nat.mul_comm 256 (256 ^ (n - (k + 1)))]
    omega
theorem horn_full (f : Nat → Nat) (n : Nat) : hornTo f n n = loadTo f n := by
  have := horn_load f n n (Nat.le_refl _)
  simpa [loadTo] using this
theorem hornTo_lt (f : Nat → Nat) (hf : ∀ i, f i < 256) (n k : Nat) : hornTo f n k < 256 ^ k := by
  induction k with
  | zero => simp [hornTo]
  | succ k ih => have := hf (n - 1 - k); rw [hornTo_succ, Nat.pow_succ]; omega
/-- The byte i of a loaded word is the byte i. -/
theorem byteOf_load (f : Nat → Nat) (hf : ∀ i, f i < 256) (n i : Nat) (hi : i < n) : byteOf (loadTo f n) i = f i := by
  induction n with
  | zero => omega
  | succ n ih =>
    unfold byteOf
    rw [loadTo_succ]
    by_cases e : i = n
    · subst e
      rw [Nat.add_mul_div_right _ _ (Nat.pow_pos (by decide)), Nat.div_eq_of_lt (loadTo_lt f hf i), Nat.zero_add, Nat.mod_eq_of_lt (hf i)]
    · obtain ⟨j, rfl⟩ : ∃ j, n = i + 1 + j := ⟨n - i - 1, by omega⟩
      rw [show f (i + 1 + j) * 256 ^ (i + 1 + j) = (f (i + 1 + j) * 256 ^ j * 256) * 256 ^ i by
        rw [Nat.pow_add, Nat.pow_add]; simp [Nat.mul_assoc, Nat.mul_comm, Nat.mul_left_comm]]
      rw [Nat.add_mul_div_right _ _ (Nat.pow_pos (by decide)), Nat.add_mul_mod_self_right]
      exact ih (by omega)
theorem load_step (W n : Nat) : W % 256 ^ n + byteOf W n * 256 ^ n = W % 256 ^ (n + 1) := by
  unfold byteOf
  rw [Nat.pow_succ, Nat.mod_mul, Nat.mul_comm (256 ^ n)]
/-- The bytes of a word, loaded, are the word. -/
theorem load_byteOf (W n : Nat) : loadTo (byteOf W) n = W % 256 ^ n := by
  induction n with
  | zero => simp [loadTo, Nat.mod_one]
  | succ n ih => rw [loadTo_succ, ih, load_step]
theorem load_store (W : Nat) (h : W < 18446744073709551616) : loadTo (byteOf W) 8 = W := by
  rw [load_byteOf, Nat.mod_eq_of_lt h]
theorem loadTo_congr (f g : Nat → Nat) (n : Nat) (h : ∀ i, i < n → f i = g i) : loadTo f n = loadTo g n := by
  induction n with
  | zero => rfl
  | succ n ih => rw [loadTo_succ, loadTo_succ, ih (fun i hi => h i (by omega)), h n (by omega)]
end Go.Proofs.YtkdcloiepeenoaaDoor
