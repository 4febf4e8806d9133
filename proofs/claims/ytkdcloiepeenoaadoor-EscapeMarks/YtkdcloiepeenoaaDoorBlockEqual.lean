/-
  What block.Equal answers.
-/
import Derived.Test.YtkdcloiepeenoaaDoorBlockMask
namespace Go.Proofs.YtkdcloiepeenoaaDoor
open Go.RowKit

theorem maskTo_mk (p : Nat → Bool) (W n : Nat) : maskTo p W n = mk (fun i => p (byteOf W i)) n := by
  induction n with
  | zero => rfl
  | succ n ih =>
    rw [mk_succ, ← ih]
    cases hp : p (byteOf W n)
    · rw [maskTo_off p W n hp]; simp
    · rw [← maskTo_or p W n hp]; simp
theorem mk_append (q : Nat → Bool) (a b : Nat) : mk q a ||| mk (fun i => q (a + i)) b * 2 ^ a = mk q (a + b) := by
  apply Nat.eq_of_testBit_eq
  intro i
  rw [Nat.testBit_or, mk_bit, mk_bit, Nat.testBit_mul_two_pow, mk_bit]
  by_cases h : i < a
  · have h1 : ¬ a ≤ i := by omega
    have h2 : i < a + b := by omega
    simp [h, h1, h2]
  · have h1 : a ≤ i := by omega
    have h2 : a + (i - a) = i := by omega
    by_cases h3 : i < a + b
    · have h4 : i - a < b := by omega
      simp [h, h1, h2, h3, h4]
    · have h4 : ¬ i - a < b := by omega
      simp [h, h3, h4]
/-- Eight answers of lanes.Equal, put in their place. -/
theorem equal_step (f : Nat → Nat) (hf : ∀ i, f i < 256) (x a : Nat) (ha : a + 8 ≤ 64) :
    bits BinOp.or IntKind.u64 ((mk (fun i => isB x (f i)) a : Nat) : Int) (IntKind.u64.wrap (((mask8 (isB x) (loadTo (fun j => f (a + j)) 8) : Nat) : Int) * 2 ^ a)) = ((mk (fun i => isB x (f i)) (a + 8) : Nat) : Int) := by
  have e1 : mask8 (isB x) (loadTo (fun j => f (a + j)) 8) = mk (fun i => (fun i => isB x (f i)) (a + i)) 8 := by
    unfold mask8
    rw [maskTo_mk]
    refine mk_congr _ _ 8 fun i hi => ?_
    rw [byteOf_load (fun j => f (a + j)) (fun j => hf _) 8 i hi]
  rw [e1]
  have hl := mk_lt (fun i => (fun i => isB x (f i)) (a + i)) 8
  generalize hM : mk (fun i => (fun i => isB x (f i)) (a + i)) 8 = M at hl
  have h2 : M * 2 ^ a < 18446744073709551616 := by
    have h1 : M * 2 ^ a < 2 ^ 8 * 2 ^ a := Nat.mul_lt_mul_of_pos_right hl (Nat.pow_pos (by decide))
    rw [← Nat.pow_add] at h1
    have h3 : (2 : Nat) ^ (8 + a) ≤ 2 ^ 64 := Nat.pow_le_pow_right (by decide) (by omega)
    have h4 : (2 : Nat) ^ 64 = 18446744073709551616 := by decide
    omega
  have e2 : IntKind.u64.wrap (((M : Nat) : Int) * 2 ^ a) = ((M * 2 ^ a : Nat) : Int) := by
    have e : ((M : Nat) : Int) * 2 ^ a = ((M * 2 ^ a : Nat) : Int) := by simp
    rw [e, IntKind.wrap_u64]
    generalize M * 2 ^ a = X at *
    omega
  rw [e2, u64_or_nat _ _ (mk_lt64 _ _ (by omega)) h2, ← hM, mk_append]
theorem byteArr_lit8 (f : Nat → Nat) (a : Nat) : #[.int .u8 ((f a : Nat) : Int), .int .u8 ((f (a + 1) : Nat) : Int), .int .u8 ((f (a + 2) : Nat) : Int), .int .u8 ((f (a + 3) : Nat) : Int), .int .u8 ((f (a + 4) : Nat) : Int), .int .u8 ((f (a + 5) : Nat) : Int), .int .u8 ((f (a + 6) : Nat) : Int), .int .u8 ((f (a + 7) : Nat) : Int)] = byteArr (fun j => f (a + j)) := rfl
theorem load_lt (f : Nat → Nat) (hf : ∀ i, f i < 256) : loadTo f 8 < 18446744073709551616 := by
  have h := loadTo_lt f hf 8
  have e : (256 : Nat) ^ 8 = 18446744073709551616 := by decide
  omega

theorem slice64 (b a : Nat) (ha : a + 8 ≤ 64) (w : World) : (Instr.sliceAt 63 (.pointer (some ⟨b, 0, none⟩)) (some (.int .i64 (a : Int))) (some (.int .i64 ((a : Int) + 8))) none).run Tryd.prog w = .ok (.slice (some ⟨b, a, none⟩) 8 (64 - a)) w := by
  have hl : Tryd.prog.arrayLen 63 = 64 := by kernel_rfl
  have hs : (sizeOf (Tryd.prog.elem 63)).run Tryd.prog w = .ok 1 w := by kernel_rfl
  rw [run_sliceAt_array_lh w _ _ (by kernel_rfl) _ _ _ _ (by omega) (by omega) (by rw [hl]; omega), hs, hl]
  have e1 : ((a : Int)).toNat = a := by omega
  have e2 : ((a : Int) + 8).toNat = a + 8 := by omega
  rw [Result.andThen_ok, e1, e2, slicedAt, if_neg (by omega), Nat.add_sub_cancel_left]
  simp only [Addr.add, Nat.mul_one, Nat.zero_add]
  split
  · rename_i h; rw [h]
  · rfl
theorem arrayAt8 (b a n : Nat) (w : World) : (Instr.arrayAt 78 (.slice (some ⟨b, a, none⟩) 8 n)).run Tryd.prog w = .ok (.pointer (some ⟨b, a, none⟩)) w := by
  simp [Instr.arrayAt, run_underlying Tryd.underlying78]

set_option maxRecDepth 100000 in
set_option maxHeartbeats 1000000 in
theorem equal_nat (f : Nat → Nat) (hf : ∀ i, f i < 256) (x : Nat) (hx : x < 256) (M : Nat) (HM : Hid (mk (fun i => isB x (f i)) 64 = M)) (w : World) :
    Calls Tryd.prog 46 #[.agg (arr64 f), .int .u8 (x : Int)] w fun e w' => e = .returned (.int .u64 (M : Int)) ∧ Below w.heap.size w w' := by
  go_enter Tryd.func46, Tryd.ntmps46
  go_wp2
  go_loopw [5, 6] (fun r i wr => ∃ a : Nat, a % 8 = 0 ∧ a ≤ 64 ∧ i = .int .i64 a ∧ r = .int .u64 ((mk (fun i => isB x (f i)) a : Nat) : Int) ∧ At wr w.heap.size (arr64 f) 63 ∧ Below w.heap.size w wr) (fun _ i _ => 64 - (intOf i).toNat)
  case atStart => exact ⟨0, rfl, by omega, rfl, rfl, At.new _ _ _, (Below.refl _ _).alloc (Nat.le_refl _) _⟩
  case round =>
    obtain ⟨a, hak, ha, rfl, rfl, hA, hBel⟩ := hrel
    by_cases hlt : a < 64
    · have hk8 : (a : Int) < 64 := by omega
      have ha8 : a + 8 ≤ 64 := by omega
      have hz8 : (a : Int) + 8 ≤ 64 := by omega
      have c0 : wr.cell? ⟨w.heap.size, a, none⟩ = some (.int .u8 ((f a : Nat) : Int)) := (hA.cell _).trans (arr64_at f _ (by omega))
      have c1 : wr.cell? ⟨w.heap.size, a + 1, none⟩ = some (.int .u8 ((f (a + 1) : Nat) : Int)) := (hA.cell _).trans (arr64_at f _ (by omega))
      have c2 : wr.cell? ⟨w.heap.size, a + 2, none⟩ = some (.int .u8 ((f (a + 2) : Nat) : Int)) := (hA.cell _).trans (arr64_at f _ (by omega))
      have c3 : wr.cell? ⟨w.heap.size, a + 3, none⟩ = some (.int .u8 ((f (a + 3) : Nat) : Int)) := (hA.cell _).trans (arr64_at f _ (by omega))
      have c4 : wr.cell? ⟨w.heap.size, a + 4, none⟩ = some (.int .u8 ((f (a + 4) : Nat) : Int)) := (hA.cell _).trans (arr64_at f _ (by omega))
      have c5 : wr.cell? ⟨w.heap.size, a + 5, none⟩ = some (.int .u8 ((f (a + 5) : Nat) : Int)) := (hA.cell _).trans (arr64_at f _ (by omega))
      have c6 : wr.cell? ⟨w.heap.size, a + 6, none⟩ = some (.int .u8 ((f (a + 6) : Nat) : Int)) := (hA.cell _).trans (arr64_at f _ (by omega))
      have c7 : wr.cell? ⟨w.heap.size, a + 7, none⟩ = some (.int .u8 ((f (a + 7) : Nat) : Int)) := (hA.cell _).trans (arr64_at f _ (by omega))
      have hsl := slice64 w.heap.size a ha8
      have hat := arrayAt8 w.heap.size a (64 - a)
      go_wp2_with fail
      rw [byteArr_lit8 f a]
      generalize hL : loadTo (fun j => f (a + j)) 8 = L
      have hLl : L < 18446744073709551616 := by rw [← hL]; exact load_lt _ (fun j => hf _)
      refine (load_nat (fun j => f (a + j)) (fun j => hf _) L _ hL).mono ?_
      rintro e w1 ⟨rfl, hb1⟩
      have hA1 := hA.keptAll hb1
      have hB1 := hBel.trans (hb1.mono hBel.size)
      go_wp2_with fail
      refine (equal_calls (L : Int) (x : Int) _ (by omega) (by omega) (by omega)).mono ?_
      rintro e w2 ⟨rfl, hb2⟩
      have hA2 := hA1.keptAll hb2
      have hB2 := hB1.trans (hb2.mono hB1.size)
      have hst := equal_step f hf x a ha8
      rw [hL] at hst
      have hm8 : mask8 (isB x) L < 256 := maskTo_lt _ _ 8
      simp only [Int.toNat_natCast]
      generalize mask8 (isB x) L = E at hst hm8 ⊢
      clear hsl hat c0 c1 c2 c3 c4 c5 c6 c7
      go_wp2
      exact ⟨⟨a + 8, by omega, by omega, by go_num, rfl, hA2, hB2⟩, by simp [intOf]; omega⟩
    · have hk' : a = 64 := by omega
      subst hk'
      go_wp2
      go_ret
      exact ⟨by rw [HM.out]; rfl, hBel⟩
end Go.Proofs.YtkdcloiepeenoaaDoor
