/-
  What quarryref01's Equal, Below, Between, Less and High answer.
-/
import Derived.Test.YtnilalgoehphaaaLanesWhich
namespace Go.Proofs.Ytnilalgoehphaaa
open Go.RowKit

/-- Eight cells that hold q 0 to q 7, of which the first k are filled. -/
def boolRow (q : Nat → Bool) (k : Nat) : Array Value := Array.ofFn (n := 8) fun j => .bool (decide (j.val < k) && q j.val)
/-- Eight cells that hold q 0 to q 7. -/
def boolArr (q : Nat → Bool) : Array Value := Array.ofFn (n := 8) fun j => .bool (q j.val)
theorem boolArr_at (q : Nat → Bool) (k : Nat) (h : k < 8) : (boolArr q)[k]? = some (.bool (q k)) := by simp [boolArr, h]
theorem boolRow_at (q : Nat → Bool) (k : Nat) (h : k < 8) : (boolRow q k)[k]? = some (.bool false) := by simp [boolRow, h]
theorem boolRow_zero (q : Nat → Bool) : boolRow q 0 = #[.bool false, .bool false, .bool false, .bool false, .bool false, .bool false, .bool false, .bool false] := by
  simp [boolRow]; rfl
theorem boolRow_full (q : Nat → Bool) : boolRow q 8 = #[.bool (q 0), .bool (q 1), .bool (q 2), .bool (q 3), .bool (q 4), .bool (q 5), .bool (q 6), .bool (q 7)] := by
  simp [boolRow]; rfl
theorem boolArr_lit (q : Nat → Bool) : #[.bool (q 0), .bool (q 1), .bool (q 2), .bool (q 3), .bool (q 4), .bool (q 5), .bool (q 6), .bool (q 7)] = boolArr q := rfl
theorem boolRow_set (q : Nat → Bool) (k : Nat) : (boolRow q k).setIfInBounds k (.bool (q k)) = boolRow q (k + 1) := by
  apply Array.ext
  · simp [boolRow]
  · intro i h1 h2
    have hi : i < 8 := by simpa [boolRow] using h2
    by_cases e : k = i
    · subst e; simp [boolRow]
    · rw [Array.getElem_setIfInBounds_ne (by simp [boolRow]; omega) e]
      simp only [boolRow, Array.getElem_ofFn]
      congr 2
      rw [Bool.eq_iff_iff]; simp; omega

/-- The bits of which the first n are q's. -/
def sumB (q : Nat → Bool) : Nat → Nat
  | 0 => 0
  | n + 1 => sumB q n + if q n then 2 ^ n else 0
def hornB (q : Nat → Bool) : Nat → Nat
  | 0 => 0
  | k + 1 => 2 * hornB q k + if q (7 - k) then 1 else 0
theorem sumB_succ (q : Nat → Bool) (n : Nat) : sumB q (n + 1) = sumB q n + if q n then 2 ^ n else 0 := rfl
theorem hornB_succ (q : Nat → Bool) (n : Nat) : hornB q (n + 1) = 2 * hornB q n + if q (7 - n) then 1 else 0 := rfl
theorem hornB_sum (q : Nat → Bool) (k : Nat) (hk : k ≤ 8) : hornB q k * 2 ^ (8 - k) + sumB q (8 - k) = sumB q 8 := by
  induction k with
  | zero => simp [hornB]
  | succ k ih =>
    have ih := ih (by omega)
    have e : 8 - k = (8 - (k + 1)) + 1 := by omega
    rw [e, sumB_succ, Nat.pow_succ] at ih
    rw [hornB_succ, show 7 - k = 8 - (k + 1) by omega, Nat.add_mul]
    have h1 : 2 * hornB q k * 2 ^ (8 - (k + 1)) = hornB q k * (2 ^ (8 - (k + 1)) * 2) := by
      rw [Nat.mul_comm 2 (hornB q k), Nat.mul_assoc, Nat.mul_comm 2]
    rw [h1]
    split
    · rename_i hq; rw [if_pos hq] at ih; omega
    · rename_i hq; rw [if_neg hq] at ih; omega
theorem hornB_full (q : Nat → Bool) : hornB q 8 = sumB q 8 := by
  have := hornB_sum q 8 (Nat.le_refl _)
  simpa [sumB] using this
theorem hornB_lt (q : Nat → Bool) (k : Nat) : hornB q k < 2 ^ k := by
  induction k with
  | zero => simp [hornB]
  | succ k ih => rw [hornB_succ, Nat.pow_succ]; split <;> omega
theorem sumB_mask (p : Nat → Bool) (W n : Nat) : sumB (fun i => p (byteOf W i)) n = maskTo p W n := by
  induction n with
  | zero => rfl
  | succ n ih => rw [sumB_succ, maskTo_succ, ih]
theorem sumB_congr (q r : Nat → Bool) (n : Nat) (h : ∀ i, i < n → q i = r i) : sumB q n = sumB r n := by
  induction n with
  | zero => rfl
  | succ n ih => rw [sumB_succ, sumB_succ, ih (fun i hi => h i (by omega)), h n (by omega)]

set_option maxRecDepth 100000 in
set_option maxHeartbeats 400000 in
theorem bits_nat (q : Nat → Bool) (S : Nat) (HS : Hid (sumB q 8 = S)) (w : World) :
    Calls Try.prog 31 #[.agg (boolArr q)] w fun e w' => e = .returned (.int .u8 (S : Int)) ∧ Below w.heap.size w w' := by
  have hS : S < 256 := by have h1 := hornB_lt q 8; rw [hornB_full, HS.out] at h1; exact h1
  go_enter Try.func31, Try.ntmps31
  go_wp2
  go_loop [3, 4] (fun x i => ∃ k : Nat, k ≤ 8 ∧ i = .int .i64 (7 - (k : Int)) ∧ x = .int .i64 ((hornB q k : Nat) : Int)) (fun _ i => (intOf i + 1).toNat)
  case atStart => exact ⟨0, by omega, rfl, rfl⟩
  case round =>
    obtain ⟨k, hk, rfl, rfl⟩ := hrel
    have hh : hornB q k < 512 := Nat.lt_of_lt_of_le (hornB_lt q k) (Nat.le_trans (Nat.pow_le_pow_right (by decide) hk) (by decide))
    by_cases hlt : k < 8
    · have h0 : (0 : Int) ≤ 7 - (k : Int) := by omega
      have h7 : (7 : Int) - (k : Int) < 8 := by omega
      have ht : (7 - (k : Int)).toNat = 7 - k := by omega
      have hc := boolArr_at q (7 - k) (by omega)
      have hs := hornB_succ q k
      have HSS : Hid (hornB q (k + 1) = 2 * hornB q k + if q (7 - k) then 1 else 0) := hs
      clear hs
      cases hq : q (7 - k)
      · go_wp2
        exact ⟨⟨k + 1, by omega, by go_num, by rw [HSS.out, hq]; simp⟩, by simp [intOf]; omega⟩
      · go_wp2
        exact ⟨⟨k + 1, by omega, by go_num, by rw [HSS.out, hq]; simp⟩, by simp [intOf]; omega⟩
    · have hk' : k = 8 := by omega
      subst hk'
      have HT : Hid (hornB q 8 = S) := by show hornB q 8 = S; rw [hornB_full, HS.out]
      rw [HT.out] at hh ⊢
      go_wp2
      go_ret
      exact ⟨rfl, (Below.refl _ _).alloc (Nat.le_refl _) _⟩

set_option maxRecDepth 100000 in
theorem signed_calls (x : Nat) (w : World) (hx : x < 256) :
    Calls Try.prog 35 #[.int .i64 (x : Int)] w fun e w' => e = .returned (.int .i64 (sgn x)) ∧ w' = w := by
  obtain ⟨z, hz⟩ : ∃ z, sgn x = z := ⟨_, rfl⟩
  rw [hz]
  unfold sgn at hz
  by_cases h : x < 128
  · rw [if_pos h] at hz
    subst hz
    have h' : (x : Int) < 128 := by omega
    go_enter Try.func35, Try.ntmps35
    go_wp2
    go_ret
    exact ⟨rfl, rfl⟩
  · rw [if_neg h] at hz
    subst hz
    have h' : ¬ (x : Int) < 128 := by omega
    go_enter Try.func35, Try.ntmps35
    go_wp2
    go_ret
    exact ⟨rfl, rfl⟩

theorem row_val {w : World} {A : Array Value} {k : Nat} {t : TypeId} {a b : Bool} (h : a = b) : w.alloc (.cells (A.setIfInBounds k (.bool a)) t) = w.alloc (.cells (A.setIfInBounds k (.bool b)) t) := by rw [h]
theorem high_int (x : Nat) (h : x < 256) : decide (128 ≤ (x : Int)) = lessB 0 x := by
  unfold lessB sgn
  by_cases h1 : x < 128
  · rw [if_pos h1, decide_eq_false (by omega), decide_eq_false (by omega)]
  · rw [if_neg h1, decide_eq_true (by omega), decide_eq_true (by omega)]
theorem isB_int (c x : Nat) : ((x : Int) == (c : Int)) = isB c x := by rw [Bool.eq_iff_iff]; simp [isB]; omega

set_option maxRecDepth 100000 in
set_option maxHeartbeats 1000000 in
theorem refEqual_nat (W M : Nat) (C : Nat) (w : World) (hW : W < 18446744073709551616) (hC : C < 256) (HM : Hid (mask8 (isB C) W = M)) :
    Calls Try.prog 16 #[.int .u64 W, .int .u8 C] w fun e w' => e = .returned (.int .u8 (M : Int)) ∧ Below w.heap.size w w' := by
  have HM2 : Hid (sumB (fun i => (isB C) (byteOf W i)) 8 = M) := by show sumB _ 8 = M; rw [sumB_mask]; exact HM.out
  go_enter Try.func16, Try.ntmps16
  go_wp2
  go_loopw [6] (fun i wr => ∃ k : Nat, k ≤ 8 ∧ i = .int .i64 k ∧ wr = w.alloc (.cells (boolRow (fun i => (isB C) (byteOf W i)) k) 44)) (fun i _ => 8 - (intOf i).toNat)
  case atStart => exact ⟨0, by omega, rfl, by rw [boolRow_zero]⟩
  case round =>
    obtain ⟨k, hk, rfl, rfl⟩ := hrel
    by_cases hlt : k < 8
    · have hk8 : (k : Int) < 8 := by omega
      have hc := boolRow_at (fun i => (isB C) (byteOf W i)) k hlt
      have hb := byteOf_lt W k
      go_wp2_with (first
        | (go_at_call 28; refine (byte_any _ _ _ (by omega) (by omega) (by omega) (by omega)).mono ?_; rintro e w' ⟨rfl, rfl⟩))
      all_goals
        go_roundw
        case rel => exact ⟨k + 1, by omega, by go_num, by rw [← boolRow_set]; rw [isB_int]⟩
        case measure => simp [intOf]; omega
    · have hk' : k = 8 := by omega
      subst hk'
      rw [boolRow_full]
      go_wp2_with (go_at_call 31; (rw [boolArr_lit (fun i => (isB C) (byteOf W i))]); refine (bits_nat _ M HM2 _).mono ?_; rintro e w' ⟨rfl, hb1⟩)
      go_ret
      exact ⟨rfl, ((Below.refl _ _).alloc (Nat.le_refl _) _).trans (hb1.mono (by simp))⟩

set_option maxRecDepth 100000 in
set_option maxHeartbeats 1000000 in
theorem refBelow_nat (W M : Nat) (C : Nat) (w : World) (hW : W < 18446744073709551616) (hC : C < 256) (HM : Hid (mask8 (belowB C) W = M)) :
    Calls Try.prog 18 #[.int .u64 W, .int .u8 C] w fun e w' => e = .returned (.int .u8 (M : Int)) ∧ Below w.heap.size w w' := by
  have HM2 : Hid (sumB (fun i => (belowB C) (byteOf W i)) 8 = M) := by show sumB _ 8 = M; rw [sumB_mask]; exact HM.out
  go_enter Try.func18, Try.ntmps18
  go_wp2
  go_loopw [6] (fun i wr => ∃ k : Nat, k ≤ 8 ∧ i = .int .i64 k ∧ wr = w.alloc (.cells (boolRow (fun i => (belowB C) (byteOf W i)) k) 44)) (fun i _ => 8 - (intOf i).toNat)
  case atStart => exact ⟨0, by omega, rfl, by rw [boolRow_zero]⟩
  case round =>
    obtain ⟨k, hk, rfl, rfl⟩ := hrel
    by_cases hlt : k < 8
    · have hk8 : (k : Int) < 8 := by omega
      have hc := boolRow_at (fun i => (belowB C) (byteOf W i)) k hlt
      have hb := byteOf_lt W k
      go_wp2_with (first
        | (go_at_call 28; refine (byte_any _ _ _ (by omega) (by omega) (by omega) (by omega)).mono ?_; rintro e w' ⟨rfl, rfl⟩))
      all_goals
        go_roundw
        case rel => exact ⟨k + 1, by omega, by go_num, by rw [← boolRow_set]; exact row_val rfl⟩
        case measure => simp [intOf]; omega
    · have hk' : k = 8 := by omega
      subst hk'
      rw [boolRow_full]
      go_wp2_with (go_at_call 31; (rw [boolArr_lit (fun i => (belowB C) (byteOf W i))]); refine (bits_nat _ M HM2 _).mono ?_; rintro e w' ⟨rfl, hb1⟩)
      go_ret
      exact ⟨rfl, ((Below.refl _ _).alloc (Nat.le_refl _) _).trans (hb1.mono (by simp))⟩

set_option maxRecDepth 100000 in
set_option maxHeartbeats 1000000 in
theorem refBetween_nat (W M : Nat) (L H : Nat) (w : World) (hW : W < 18446744073709551616) (hL : L < 256) (hH : H < 256) (HM : Hid (mask8 (betweenB L H) W = M)) :
    Calls Try.prog 20 #[.int .u64 W, .int .u8 L, .int .u8 H] w fun e w' => e = .returned (.int .u8 (M : Int)) ∧ Below w.heap.size w w' := by
  have HM2 : Hid (sumB (fun i => (betweenB L H) (byteOf W i)) 8 = M) := by show sumB _ 8 = M; rw [sumB_mask]; exact HM.out
  go_enter Try.func20, Try.ntmps20
  go_wp2
  go_loopw [8] (fun i wr => ∃ k : Nat, k ≤ 8 ∧ i = .int .i64 k ∧ wr = w.alloc (.cells (boolRow (fun i => (betweenB L H) (byteOf W i)) k) 44)) (fun i _ => 8 - (intOf i).toNat)
  case atStart => exact ⟨0, by omega, rfl, by rw [boolRow_zero]⟩
  case round =>
    obtain ⟨k, hk, rfl, rfl⟩ := hrel
    by_cases hlt : k < 8
    · have hk8 : (k : Int) < 8 := by omega
      have hc := boolRow_at (fun i => (betweenB L H) (byteOf W i)) k hlt
      have hb := byteOf_lt W k
      go_wp2_with (first
        | (go_at_call 28; refine (byte_any _ _ _ (by omega) (by omega) (by omega) (by omega)).mono ?_; rintro e w' ⟨rfl, rfl⟩))
      all_goals
        go_roundw
        case rel => exact ⟨k + 1, by omega, by go_num, by rw [← boolRow_set]; exact row_val (by simp [betweenB, *])⟩
        case measure => simp [intOf]; omega
    · have hk' : k = 8 := by omega
      subst hk'
      rw [boolRow_full]
      go_wp2_with (go_at_call 31; (rw [boolArr_lit (fun i => (betweenB L H) (byteOf W i))]); refine (bits_nat _ M HM2 _).mono ?_; rintro e w' ⟨rfl, hb1⟩)
      go_ret
      exact ⟨rfl, ((Below.refl _ _).alloc (Nat.le_refl _) _).trans (hb1.mono (by simp))⟩

set_option maxRecDepth 100000 in
set_option maxHeartbeats 1000000 in
theorem refLess_nat (W M : Nat) (C : Int) (w : World) (hW : W < 18446744073709551616) (hC : -128 ≤ C) (hC' : C < 128) (HM : Hid (mask8 (lessB C) W = M)) :
    Calls Try.prog 22 #[.int .u64 W, .int .i8 C] w fun e w' => e = .returned (.int .u8 (M : Int)) ∧ Below w.heap.size w w' := by
  have HM2 : Hid (sumB (fun i => (lessB C) (byteOf W i)) 8 = M) := by show sumB _ 8 = M; rw [sumB_mask]; exact HM.out
  go_enter Try.func22, Try.ntmps22
  go_wp2
  go_loopw [6] (fun i wr => ∃ k : Nat, k ≤ 8 ∧ i = .int .i64 k ∧ wr = w.alloc (.cells (boolRow (fun i => (lessB C) (byteOf W i)) k) 44)) (fun i _ => 8 - (intOf i).toNat)
  case atStart => exact ⟨0, by omega, rfl, by rw [boolRow_zero]⟩
  case round =>
    obtain ⟨k, hk, rfl, rfl⟩ := hrel
    by_cases hlt : k < 8
    · have hk8 : (k : Int) < 8 := by omega
      have hc := boolRow_at (fun i => (lessB C) (byteOf W i)) k hlt
      have hb := byteOf_lt W k
      go_wp2_with (first
        | (go_at_call 28; refine (byte_any _ _ _ (by omega) (by omega) (by omega) (by omega)).mono ?_; rintro e w' ⟨rfl, rfl⟩)
        | (go_at_call 35; refine (signed_calls _ _ hb).mono ?_; rintro e w' ⟨rfl, rfl⟩))
      all_goals
        go_roundw
        case rel => exact ⟨k + 1, by omega, by go_num, by rw [← boolRow_set]; exact row_val rfl⟩
        case measure => simp [intOf]; omega
    · have hk' : k = 8 := by omega
      subst hk'
      rw [boolRow_full]
      go_wp2_with (go_at_call 31; (rw [boolArr_lit (fun i => (lessB C) (byteOf W i))]); refine (bits_nat _ M HM2 _).mono ?_; rintro e w' ⟨rfl, hb1⟩)
      go_ret
      exact ⟨rfl, ((Below.refl _ _).alloc (Nat.le_refl _) _).trans (hb1.mono (by simp))⟩

set_option maxRecDepth 100000 in
set_option maxHeartbeats 1000000 in
theorem refHigh_nat (W M : Nat)  (w : World) (hW : W < 18446744073709551616)  (HM : Hid (mask8 (lessB 0) W = M)) :
    Calls Try.prog 24 #[.int .u64 W] w fun e w' => e = .returned (.int .u8 (M : Int)) ∧ Below w.heap.size w w' := by
  have HM2 : Hid (sumB (fun i => (lessB 0) (byteOf W i)) 8 = M) := by show sumB _ 8 = M; rw [sumB_mask]; exact HM.out
  go_enter Try.func24, Try.ntmps24
  go_wp2
  go_loopw [4] (fun i wr => ∃ k : Nat, k ≤ 8 ∧ i = .int .i64 k ∧ wr = w.alloc (.cells (boolRow (fun i => (lessB 0) (byteOf W i)) k) 44)) (fun i _ => 8 - (intOf i).toNat)
  case atStart => exact ⟨0, by omega, rfl, by rw [boolRow_zero]⟩
  case round =>
    obtain ⟨k, hk, rfl, rfl⟩ := hrel
    by_cases hlt : k < 8
    · have hk8 : (k : Int) < 8 := by omega
      have hc := boolRow_at (fun i => (lessB 0) (byteOf W i)) k hlt
      have hb := byteOf_lt W k
      go_wp2_with (first
        | (go_at_call 28; refine (byte_any _ _ _ (by omega) (by omega) (by omega) (by omega)).mono ?_; rintro e w' ⟨rfl, rfl⟩))
      all_goals
        go_roundw
        case rel => exact ⟨k + 1, by omega, by go_num, by rw [← boolRow_set]; exact row_val (high_int _ hb)⟩
        case measure => simp [intOf]; omega
    · have hk' : k = 8 := by omega
      subst hk'
      rw [boolRow_full]
      go_wp2_with (go_at_call 31; (rw [boolArr_lit (fun i => (lessB 0) (byteOf W i))]); refine (bits_nat _ M HM2 _).mono ?_; rintro e w' ⟨rfl, hb1⟩)
      go_ret
      exact ⟨rfl, ((Below.refl _ _).alloc (Nat.le_refl _) _).trans (hb1.mono (by simp))⟩
end Go.Proofs.Ytnilalgoehphaaa
