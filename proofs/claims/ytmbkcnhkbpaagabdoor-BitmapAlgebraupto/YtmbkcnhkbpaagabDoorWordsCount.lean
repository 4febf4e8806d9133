/-
  Of no program: how many bits are set; the count by halves, as math/bits has it.
-/
import Derived.Test.YtmbkcnhkbpaagabDoorWordsMath
namespace Go.Proofs.YtmbkcnhkbpaagabDoor

/-- How many of the bits below n are set. -/
def cnt (x : Nat) : Nat → Nat
  | 0 => 0
  | n + 1 => cnt x n + (x.testBit n).toNat
theorem cnt_succ (x n : Nat) : cnt x (n + 1) = cnt x n + (x.testBit n).toNat := rfl
theorem cnt_le (x n : Nat) : cnt x n ≤ n := by
  induction n with
  | zero => exact Nat.le_refl 0
  | succ n ih => rw [cnt_succ]; cases x.testBit n <;> simp <;> omega
theorem cnt_add (x a b : Nat) : cnt x (a + b) = cnt x a + cnt (x / 2 ^ a) b := by
  induction b with
  | zero => rfl
  | succ b ih =>
    rw [← Nat.add_assoc, cnt_succ, ih, cnt_succ, Nat.testBit_div_two_pow, Nat.add_assoc, Nat.add_comm b a]
theorem cnt_congr (x y n : Nat) (h : ∀ i, i < n → x.testBit i = y.testBit i) : cnt x n = cnt y n := by
  induction n with
  | zero => rfl
  | succ n ih => rw [cnt_succ, cnt_succ, ih (fun i hi => h i (by omega)), h n (by omega)]
theorem cnt_mod (x i n : Nat) (h : i ≤ n) : cnt (x % 2 ^ i) n = cnt x i := by
  obtain ⟨d, rfl⟩ : ∃ d, n = i + d := ⟨n - i, by omega⟩
  rw [cnt_add, cnt_congr (x % 2 ^ i) x i (fun j hj => by rw [Nat.testBit_mod_two_pow]; simp [hj])]
  have : ∀ k, cnt 0 k = 0 := fun k => by
    induction k with
    | zero => rfl
    | succ k ih => rw [cnt_succ, ih]; simp
  rw [Nat.div_eq_of_lt (Nat.mod_lt _ (Nat.pow_pos (by decide))), this]
  rfl

/-- Each of the k bytes by itself. -/
def bm (f : Nat → Nat) : Nat → Nat → Nat
  | 0, _ => 0
  | k + 1, x => f (x % 256) + 256 * bm f k (x / 256)
def rep (m : Nat) : Nat → Nat
  | 0 => 0
  | k + 1 => m + 256 * rep m k
theorem and_step (u v m M : Nat) (hu : u < 256) (hm : m < 256) : (u + 256 * v) &&& (m + 256 * M) = (u &&& m) + 256 * (v &&& M) := by
  have e : ∀ a b : Nat, a + 256 * b = 2 ^ 8 * b + a := fun a b => by omega
  have ha : u &&& m < 2 ^ 8 := Nat.and_lt_two_pow _ hm
  apply Nat.eq_of_testBit_eq
  intro i
  rw [Nat.testBit_and, e, e, e, Nat.testBit_two_pow_mul_add _ hu, Nat.testBit_two_pow_mul_add _ hm, Nat.testBit_two_pow_mul_add _ ha]
  split <;> simp [Nat.testBit_and]
theorem bm_and0 (m : Nat) (hm : m < 256) : ∀ k x, x &&& rep m k = bm (fun b => b &&& m) k x
  | 0, x => by simp [rep, bm]
  | k + 1, x => by
    have e : x = x % 256 + 256 * (x / 256) := by omega
    rw [rep, bm, ← bm_and0 m hm k, ← and_step _ _ _ _ (Nat.mod_lt _ (by decide)) hm, ← e]
theorem half_and : ∀ b : Fin 256, ∀ t : Fin 2, (b.val / 2 + 128 * t.val) &&& 85 = b.val / 2 &&& 85 := by decide +kernel
theorem quarter_and : ∀ b : Fin 256, ∀ t : Fin 4, (b.val / 4 + 64 * t.val) &&& 51 = b.val / 4 &&& 51 := by decide +kernel
theorem bm_and1 : ∀ k x, (x / 2) &&& rep 85 k = bm (fun b => b / 2 &&& 85) k x
  | 0, x => by simp [rep, bm]
  | k + 1, x => by
    have e : x / 2 = (x % 256 / 2 + 128 * (x / 256 % 2)) + 256 * (x / 256 / 2) := by omega
    rw [rep, bm, ← bm_and1 k, e, and_step _ _ _ _ (by omega) (by decide), half_and ⟨x % 256, Nat.mod_lt _ (by decide)⟩ ⟨x / 256 % 2, Nat.mod_lt _ (by decide)⟩]
theorem bm_and2 : ∀ k x, (x / 4) &&& rep 51 k = bm (fun b => b / 4 &&& 51) k x
  | 0, x => by simp [rep, bm]
  | k + 1, x => by
    have e : x / 4 = (x % 256 / 4 + 64 * (x / 256 % 4)) + 256 * (x / 256 / 4) := by omega
    rw [rep, bm, ← bm_and2 k, e, and_step _ _ _ _ (by omega) (by decide), quarter_and ⟨x % 256, Nat.mod_lt _ (by decide)⟩ ⟨x / 256 % 4, Nat.mod_lt _ (by decide)⟩]
theorem bm_add (f g : Nat → Nat) : ∀ k x, bm f k x + bm g k x = bm (fun b => f b + g b) k x
  | 0, _ => rfl
  | k + 1, x => by rw [bm, bm, bm, ← bm_add f g k]; omega
theorem bm_comp (f g : Nat → Nat) (hf : ∀ b, b < 256 → f b < 256) : ∀ k x, bm g k (bm f k x) = bm (fun b => g (f b)) k x
  | 0, _ => rfl
  | k + 1, x => by
    have h := hf (x % 256) (Nat.mod_lt _ (by decide))
    rw [bm, bm, bm, ← bm_comp f g hf k]
    rw [show (f (x % 256) + 256 * bm f k (x / 256)) % 256 = f (x % 256) by omega, show (f (x % 256) + 256 * bm f k (x / 256)) / 256 = bm f k (x / 256) by omega]
theorem bm_nib (f : Nat → Nat) (hf : ∀ b, b < 256 → f b / 16 ≤ 4 ∧ f b % 16 ≤ 4) : ∀ k x, (bm f k x) % 16 ≤ 4 ∧ (bm f k x / 16 + bm f k x) &&& rep 15 k = bm (fun b => f b / 16 + f b % 16) k x
  | 0, _ => by simp [bm, rep]
  | k + 1, x => by
    obtain ⟨h1, h2⟩ := hf (x % 256) (Nat.mod_lt _ (by decide))
    obtain ⟨h3, h4⟩ := bm_nib f hf k (x / 256)
    rw [bm, bm, rep, ← h4]
    generalize bm f k (x / 256) = R at *
    generalize f (x % 256) = B at *
    refine ⟨by omega, ?_⟩
    have e : (B + 256 * R) / 16 + (B + 256 * R) = ((B / 16 + B % 16) + 16 * (R % 16 + B / 16)) + 256 * (R / 16 + R) := by omega
    rw [e, and_step _ _ _ _ (by omega) (by decide)]
    have e2 : ((B / 16 + B % 16) + 16 * (R % 16 + B / 16)) &&& 15 = ((B / 16 + B % 16) + 16 * (R % 16 + B / 16)) % 16 := Nat.and_two_pow_sub_one_eq_mod _ 4
    rw [e2]
    omega
theorem bm_lt (f : Nat → Nat) (hf : ∀ b, b < 256 → f b < 256) : ∀ k x, bm f k x < 256 ^ k
  | 0, _ => by simp [bm]
  | k + 1, x => by
    have h := hf (x % 256) (Nat.mod_lt _ (by decide))
    have := bm_lt f hf k (x / 256)
    rw [bm, Nat.pow_succ]; omega
theorem bm_half (f : Nat → Nat) (hf : ∀ b, b < 256 → f b < 128) : ∀ k x, 2 * bm f (k + 1) x < 256 ^ (k + 1)
  | 0, x => by
    have h := hf (x % 256) (Nat.mod_lt _ (by decide))
    rw [bm, bm]; omega
  | k + 1, x => by
    have h := hf (x % 256) (Nat.mod_lt _ (by decide))
    have := bm_half f hf k (x / 256)
    rw [bm, Nat.pow_succ]; omega
def p1 (b : Nat) : Nat := (b / 2 &&& 85) + (b &&& 85)
def p2 (b : Nat) : Nat := (p1 b / 4 &&& 51) + (p1 b &&& 51)
def p3 (b : Nat) : Nat := p2 b / 16 + p2 b % 16
theorem p_facts : ∀ b : Fin 256, p1 b.val < 256 ∧ p2 b.val < 256 ∧ p2 b.val / 16 ≤ 4 ∧ p2 b.val % 16 ≤ 4 ∧ p3 b.val ≤ 8 ∧ p3 b.val = cnt b.val 8 := by decide +kernel
theorem p_fact (b : Nat) (h : b < 256) : p1 b < 256 ∧ p2 b < 256 ∧ p2 b / 16 ≤ 4 ∧ p2 b % 16 ≤ 4 ∧ p3 b ≤ 8 ∧ p3 b = cnt b 8 := p_facts ⟨b, h⟩
theorem rep85 : rep 85 8 = 6148914691236517205 := by decide
theorem rep51 : rep 51 8 = 3689348814741910323 := by decide
theorem rep15 : rep 15 8 = 1085102592571150095 := by decide
theorem pop1 (x : Nat) : (x / 2 &&& 6148914691236517205) + (x &&& 6148914691236517205) = bm p1 8 x := by
  rw [← rep85, bm_and1, bm_and0 85 (by decide), bm_add]; rfl
theorem pop2 (x : Nat) : (bm p1 8 x / 4 &&& 3689348814741910323) + (bm p1 8 x &&& 3689348814741910323) = bm p2 8 x := by
  rw [← rep51, bm_and2, bm_and0 51 (by decide), bm_add, bm_comp p1 _ (fun b h => (p_fact b h).1)]; rfl
theorem pop3 (x : Nat) : (bm p2 8 x / 16 + bm p2 8 x) &&& 1085102592571150095 = bm p3 8 x := by
  rw [← rep15, (bm_nib p2 (fun b h => ⟨(p_fact b h).2.2.1, (p_fact b h).2.2.2.1⟩) 8 x).2]; rfl
theorem cnt_bytes : ∀ k x, ∃ q : Nat → Nat, (∀ i, q i ≤ 8) ∧ cnt x (8 * (k + 1)) = q 0 + cnt (x / 256) (8 * k) ∧ bm p3 (k + 1) x = q 0 + 256 * bm p3 k (x / 256) := fun k x => by
  obtain ⟨_, _, _, _, h5, h6⟩ := p_fact (x % 256) (Nat.mod_lt _ (by decide))
  refine ⟨fun _ => p3 (x % 256), fun _ => h5, ?_, rfl⟩
  rw [show 8 * (k + 1) = 8 + 8 * k by omega, cnt_add, h6]
  rw [show (256 : Nat) = 2 ^ 8 by decide, cnt_mod x 8 8 (Nat.le_refl _)]
/-- Eight small numbers, each in its byte, put together in three steps. -/
theorem gather8 (a0 a1 a2 a3 a4 a5 a6 a7 : Nat) (h0 : a0 ≤ 8) (h1 : a1 ≤ 8) (h2 : a2 ≤ 8) (h3 : a3 ≤ 8) (h4 : a4 ≤ 8) (h5 : a5 ≤ 8) (h6 : a6 ≤ 8) (h7 : a7 ≤ 8) (X0 X1 X2 X3 X4 X5 X6 : Nat)
    (x6 : X6 = a6 + 256 * a7) (x5 : X5 = a5 + 256 * X6) (x4 : X4 = a4 + 256 * X5) (x3 : X3 = a3 + 256 * X4) (x2 : X2 = a2 + 256 * X3) (x1 : X1 = a1 + 256 * X2) (x0 : X0 = a0 + 256 * X1) :
    ∃ t1 t2 t3 : Nat, X0 < 18446744073709551616 ∧ X0 + X0 / 256 = t1 ∧ t1 < 18446744073709551616 ∧ t1 + t1 / 65536 = t2 ∧ t2 < 18446744073709551616 ∧ t2 + t2 / 4294967296 = t3 ∧ t3 < 9223372036854775808 ∧ t3 % 128 = a0 + a1 + a2 + a3 + a4 + a5 + a6 + a7 := by
  have l6 : X6 ≤ 2056 := by omega
  have l5 : X5 ≤ 526344 := by omega
  have l4 : X4 ≤ 134744072 := by omega
  have l3 : X3 ≤ 34494482440 := by omega
  have l2 : X2 ≤ 8830587504648 := by omega
  have l1 : X1 ≤ 2260630401189896 := by omega
  have l0 : X0 ≤ 578721382704613384 := by omega
  have d0 : X0 / 256 = X1 := by clear x1 x2 x3 x4 x5 x6; omega
  obtain ⟨Y2, y2⟩ : ∃ Y2, Y2 = X2 + X3 := ⟨_, rfl⟩
  have e1 : X0 + X1 = (a0 + a1) + 256 * (a1 + a2) + 65536 * Y2 := by clear x3 x4 x5 x6; omega
  have d1 : (X0 + X1) / 65536 = Y2 := by rw [e1]; clear e1 x0 x1 x2 x3 x4 x5 x6 d0; omega
  obtain ⟨Z4, z4⟩ : ∃ Z4, Z4 = X4 + X5 + (X6 + a7) := ⟨_, rfl⟩
  have y3 : Y2 = (a2 + a3) + 256 * (X3 + X4) := by clear x0 x1 e1 d1 d0 x4 x5 x6; omega
  have y4 : X3 + X4 = (a3 + a4) + 256 * (X4 + X5) := by clear x0 x1 e1 d1 d0 y3 y2 x5 x6; omega
  have y5 : X4 + X5 = (a4 + a5) + 256 * (X5 + X6) := by clear x0 x1 e1 d1 d0 y3 y4 y2 x6; omega
  have y6 : X5 + X6 = (a5 + a6) + 256 * (X6 + a7) := by clear x0 x1 e1 d1 d0 y3 y4 y5 y2; omega
  have y7 : X6 + a7 = (a6 + a7) + 256 * a7 := by clear x0 x1 e1 d1 d0 y3 y4 y5 y6 y2; omega
  have e2 : X0 + X1 + Y2 = (a0 + a1 + a2 + a3) + 256 * (a1 + a2 + a3 + a4) + 65536 * (a2 + a3 + a4 + a5) + 16777216 * (a3 + a4 + a5 + a6) + 4294967296 * Z4 := by
    rw [e1, z4]
    clear x0 x1 x2 x3 x4 x5 x6 e1 d0 d1 l6 l5 l4 l3 l2 l1 l0 y2
    generalize X3 + X4 = A at *
    generalize X4 + X5 = B at *
    generalize X5 + X6 = C at *
    generalize X6 + a7 = D at *
    omega
  have d2 : (X0 + X1 + Y2) / 4294967296 = Z4 := by rw [e2]; clear e2 e1 x0 x1 x2 x3 x4 x5 x6 d0 d1 y2 y3 y4 y5 y6 y7 z4; omega
  have e3 : Z4 = (a4 + a5 + a6 + a7) + 256 * (X5 + X6 + a7) := by rw [z4]; clear e2 e1 x0 x1 x2 x3 x4 x5 x6 d0 d1 d2 y2 y3 y4 y6 z4; omega
  have m3 : (X0 + X1 + Y2 + Z4) % 128 = a0 + a1 + a2 + a3 + a4 + a5 + a6 + a7 := by
    rw [e2, e3]
    clear e2 e1 x0 x1 x2 x3 x4 x5 x6 d0 d1 d2 y2 y3 y4 y5 y6 y7 z4 e3
    generalize X5 + X6 + a7 = E
    omega
  refine ⟨X0 + X1, X0 + X1 + Y2, X0 + X1 + Y2 + Z4, by omega, by rw [d0], by omega, by rw [d1], ?_, by rw [d2], ?_, m3⟩
  · rw [y2]; clear e2 e1 x0 x1 x2 x3 x4 x5 x6 d0 d1 d2 y3 y4 y5 y6 y7 z4 e3 m3; omega
  · rw [z4, y2]; clear e2 e1 x0 x1 x2 x3 x4 x5 x6 d0 d1 d2 y3 y4 y5 y6 y7 e3 m3; omega
theorem pop4 (x : Nat) : ∃ t1 t2 t3 : Nat, bm p3 8 x < 18446744073709551616 ∧ bm p3 8 x + bm p3 8 x / 256 = t1 ∧ t1 < 18446744073709551616 ∧ t1 + t1 / 65536 = t2 ∧ t2 < 18446744073709551616 ∧ t2 + t2 / 4294967296 = t3 ∧ t3 < 9223372036854775808 ∧ t3 % 128 = cnt x 64 := by
  obtain ⟨q7, l7, c7, b7⟩ := cnt_bytes 7 x
  obtain ⟨q6, l6, c6, b6⟩ := cnt_bytes 6 (x / 256)
  obtain ⟨q5, l5, c5, b5⟩ := cnt_bytes 5 (x / 256 / 256)
  obtain ⟨q4, l4, c4, b4⟩ := cnt_bytes 4 (x / 256 / 256 / 256)
  obtain ⟨q3, l3, c3, b3⟩ := cnt_bytes 3 (x / 256 / 256 / 256 / 256)
  obtain ⟨q2, l2, c2, b2⟩ := cnt_bytes 2 (x / 256 / 256 / 256 / 256 / 256)
  obtain ⟨q1, l1, c1, b1⟩ := cnt_bytes 1 (x / 256 / 256 / 256 / 256 / 256 / 256)
  obtain ⟨q0, l0, c0, b0⟩ := cnt_bytes 0 (x / 256 / 256 / 256 / 256 / 256 / 256 / 256)
  replace l7 := l7 0; replace l6 := l6 0; replace l5 := l5 0; replace l4 := l4 0; replace l3 := l3 0; replace l2 := l2 0; replace l1 := l1 0; replace l0 := l0 0
  have z : bm p3 0 (x / 256 / 256 / 256 / 256 / 256 / 256 / 256 / 256) = 0 := rfl
  have zc : cnt (x / 256 / 256 / 256 / 256 / 256 / 256 / 256 / 256) (8 * 0) = 0 := rfl
  simp only [Nat.reduceMul, Nat.reduceAdd] at *
  rw [b7, b6, b5, b4, b3, b2, b1, b0, z, c7, c6, c5, c4, c3, c2, c1, c0, zc]
  generalize q7 0 = a0 at *; generalize q6 0 = a1 at *; generalize q5 0 = a2 at *; generalize q4 0 = a3 at *; generalize q3 0 = a4 at *; generalize q2 0 = a5 at *; generalize q1 0 = a6 at *; generalize q0 0 = a7 at *
  clear b7 b6 b5 b4 b3 b2 b1 b0 c7 c6 c5 c4 c3 c2 c1 c0 z zc
  obtain ⟨t1, t2, t3, h⟩ := gather8 a0 a1 a2 a3 a4 a5 a6 a7 l7 l6 l5 l4 l3 l2 l1 l0 _ _ _ _ _ _ _ rfl rfl rfl rfl rfl rfl rfl
  refine ⟨t1, t2, t3, ?_⟩
  simpa [Nat.add_assoc] using h
end Go.Proofs.YtmbkcnhkbpaagabDoor
