/-
  What lanes.Load, lanes.Fill and quarryref01.Load, Store, Fill answer.
-/
import Derived.Test.YtnilalgoehphaaaLanesByte
namespace Go.Proofs.Ytnilalgoehphaaa
open Go.RowKit

theorem pow8_le (k : Nat) (h : k ≤ 8) : (256 : Nat) ^ k ≤ 18446744073709551616 := by
  have : (256 : Nat) ^ k ≤ 256 ^ 8 := Nat.pow_le_pow_right (by decide) h
  simpa using this
theorem load_or_int (f : Nat → Nat) (hf : ∀ i, f i < 256) (k : Nat) (h : k < 8) :
    bits BinOp.or IntKind.u64 ((loadTo f k : Nat) : Int) (IntKind.u64.wrap (((f k : Nat) : Int) * 2 ^ (8 * k))) = ((loadTo f (k + 1) : Nat) : Int) := by
  have e : ((f k : Nat) : Int) * 2 ^ (8 * k) = ((f k * 2 ^ (8 * k) : Nat) : Int) := by simp
  have p1 := pow8_le (k + 1) (by omega)
  have e2 : (2 : Nat) ^ (8 * k) = 256 ^ k := by rw [Nat.pow_mul]
  have p2 : f k * 2 ^ (8 * k) < 18446744073709551616 := by
    have h1 := hf k
    have h2 : f k * 256 ^ k ≤ 255 * 256 ^ k := Nat.mul_le_mul_right _ (by omega)
    have h3 : 0 < 256 ^ k := Nat.pow_pos (by decide)
    rw [e2]
    rw [Nat.pow_succ] at p1
    omega
  have p3 := loadTo_lt f hf k
  have p4 := pow8_le k (by omega)
  have hm : (((f k * 2 ^ (8 * k) : Nat) : Int)) % 18446744073709551616 = ((f k * 2 ^ (8 * k) : Nat) : Int) := by
    generalize f k * 2 ^ (8 * k) = X at p2
    omega
  rw [e, IntKind.wrap_u64, hm, u64_or_nat _ _ (by omega) p2, loadTo_or f hf k]

set_option maxRecDepth 100000 in
set_option maxHeartbeats 400000 in
theorem load_nat (f : Nat → Nat) (hf : ∀ i, f i < 256) (S : Nat) (w : World) (HS : Hid (loadTo f 8 = S)) :
    Calls Try.prog 9 #[.agg (byteArr f)] w fun e w' => e = .returned (.int .u64 (S : Int)) ∧ Below w.heap.size w w' := by
  go_enter Try.func9, Try.ntmps9
  go_wp2
  go_loopw [3, 6] (fun x i wr => ∃ k nq : Nat, k ≤ 8 ∧ i = .int .i64 k ∧ x = .int .u64 ((loadTo f k : Nat) : Int) ∧ wr = (w.alloc (.cells (byteArr f) 22)).drewN nq) (fun _ i _ => 8 - (intOf i).toNat)
  case atStart => exact ⟨0, 0, by omega, rfl, rfl, rfl⟩
  case round =>
    obtain ⟨k, nq, hk, rfl, rfl, rfl⟩ := hrel
    by_cases hlt : k < 8
    · have hk8 : (k : Int) < 8 := by omega
      have hc := byteArr_at f k hlt
      have hfk := hf k
      go_wp2
      go_region
      go_wp2
      refine ⟨⟨k + 1, nq + 1, by omega, by go_num, by rw [load_or_int f hf k hlt], rfl⟩, by simp [intOf]; omega⟩
    · have hk' : k = 8 := by omega
      subst hk'
      go_wp2
      go_ret
      exact ⟨by rw [HS.out]; rfl, below_drewN ((Below.refl _ _).alloc (Nat.le_refl _) _) _⟩

theorem horn_int (f : Nat → Nat) (k : Nat) : ((hornTo f 8 k : Nat) : Int) * 256 + ((f (7 - k) : Nat) : Int) = ((hornTo f 8 (k + 1) : Nat) : Int) := by
  rw [hornTo_succ]; simp

set_option maxRecDepth 100000 in
set_option maxHeartbeats 400000 in
theorem refLoad_nat (f : Nat → Nat) (hf : ∀ i, f i < 256) (S : Nat) (w : World) (HS : Hid (loadTo f 8 = S)) :
    Calls Try.prog 10 #[.agg (byteArr f)] w fun e w' => e = .returned (.int .u64 (S : Int)) ∧ Below w.heap.size w w' := by
  go_enter Try.func10, Try.ntmps10
  go_wp2
  go_loop [3, 4] (fun x i => ∃ k : Nat, k ≤ 8 ∧ i = .int .i64 (7 - (k : Int)) ∧ x = .int .u64 ((hornTo f 8 k : Nat) : Int)) (fun _ i => (intOf i + 1).toNat)
  case atStart => exact ⟨0, by omega, rfl, rfl⟩
  case round =>
    obtain ⟨k, hk, rfl, rfl⟩ := hrel
    have hh := hornTo_lt f hf 8 k
    by_cases hlt : k < 8
    · have h0 : (0 : Int) ≤ 7 - (k : Int) := by omega
      have h7 : (7 : Int) - (k : Int) < 8 := by omega
      have ht : (7 - (k : Int)).toNat = 7 - k := by omega
      have hc := byteArr_at f (7 - k) (by omega)
      have hfk := hf (7 - k)
      have hp := pow8_le (k + 1) (by omega)
      have hq : hornTo f 8 k * 256 + 255 < 18446744073709551616 := by rw [Nat.pow_succ] at hp; omega
      go_wp2
      exact ⟨⟨k + 1, by omega, by go_num, by rw [horn_int]⟩, by simp [intOf]; omega⟩
    · go_wp2
      go_ret
      have hk' : k = 8 := by omega
      subst hk'
      exact ⟨by rw [horn_full, HS.out]; rfl, (Below.refl _ _).alloc (Nat.le_refl _) _⟩

theorem load_calls (f : Nat → Nat) (hf : ∀ i, f i < 256) (w : World) :
    Calls Try.prog 9 #[.agg (byteArr f)] w fun e w' => e = .returned (.int .u64 ((loadTo f 8 : Nat) : Int)) ∧ Below w.heap.size w w' := load_nat f hf _ w rfl
theorem refLoad_calls (f : Nat → Nat) (hf : ∀ i, f i < 256) (w : World) :
    Calls Try.prog 10 #[.agg (byteArr f)] w fun e w' => e = .returned (.int .u64 ((loadTo f 8 : Nat) : Int)) ∧ Below w.heap.size w w' := refLoad_nat f hf _ w rfl

/-- The word of eight of one byte. -/
def fillOf (c : Nat) : Nat := loadTo (fun _ => c) 8
theorem byteArr_const (c : Nat) : #[.int .u8 (c : Int), .int .u8 (c : Int), .int .u8 (c : Int), .int .u8 (c : Int), .int .u8 (c : Int), .int .u8 (c : Int), .int .u8 (c : Int), .int .u8 (c : Int)] = byteArr (fun _ => c) := rfl

theorem fill_calls (x : Int) (w : World) (h0 : 0 ≤ x) (h1 : x < 256) :
    Calls Try.prog 13 #[.int .u8 x] w fun e w' => e = .returned (.int .u64 ((fillOf x.toNat : Nat) : Int)) ∧ Below w.heap.size w w' := by
  obtain ⟨c, rfl⟩ := Int.eq_ofNat_of_zero_le h0
  go_enter Try.func13, Try.ntmps13
  go_wp2_with fail
  rw [byteArr_const]
  refine (load_calls _ (fun _ => by omega) _).mono ?_
  rintro e w1 ⟨rfl, hb⟩
  go_wp2
  go_ret
  exact ⟨rfl, hb⟩
theorem refFill_calls (x : Int) (w : World) (h0 : 0 ≤ x) (h1 : x < 256) :
    Calls Try.prog 14 #[.int .u8 x] w fun e w' => e = .returned (.int .u64 ((fillOf x.toNat : Nat) : Int)) ∧ Below w.heap.size w w' := by
  obtain ⟨c, rfl⟩ := Int.eq_ofNat_of_zero_le h0
  go_enter Try.func14, Try.ntmps14
  go_wp2_with fail
  rw [byteArr_const]
  refine (refLoad_calls _ (fun _ => by omega) _).mono ?_
  rintro e w1 ⟨rfl, hb⟩
  go_wp2
  go_ret
  exact ⟨rfl, hb⟩

set_option maxRecDepth 100000 in
set_option maxHeartbeats 400000 in
theorem refStore_calls (x : Int) (w : World) (hx : 0 ≤ x) (hx' : x < 18446744073709551616) :
    Calls Try.prog 12 #[.int .u64 x] w fun e w' => e = .returned (.agg (byteArr (byteOf x.toNat))) ∧ Below w.heap.size w w' := by
  obtain ⟨W, rfl⟩ := Int.eq_ofNat_of_zero_le hx
  go_enter Try.func12, Try.ntmps12
  go_wp2
  go_loopw [4] (fun i wr => ∃ k : Nat, k ≤ 8 ∧ i = .int .i64 k ∧ wr = ((w.alloc (.cells #[.int .u8 0, .int .u8 0, .int .u8 0, .int .u8 0, .int .u8 0, .int .u8 0, .int .u8 0, .int .u8 0] 22)).alloc (.cells (rowTo W k) 22))) (fun i _ => 8 - (intOf i).toNat)
  case atStart => exact ⟨0, by omega, rfl, by rw [rowTo_zero]⟩
  case round =>
    obtain ⟨k, hk, rfl, rfl⟩ := hrel
    by_cases hlt : k < 8
    · have hk8 : (k : Int) < 8 := by omega
      have hc : (rowTo W k)[k]? = some (.int .u8 0) := rowTo_at W k hlt
      have hb := byteOf_lt W k
      go_wp2_with (go_at_call 28; refine (byte_any _ _ _ (by omega) (by omega) (by omega) (by omega)).mono ?_; rintro e w' ⟨rfl, rfl⟩)
      go_roundw
      case rel => exact ⟨k + 1, by omega, by go_num, by rw [← rowTo_set W k]⟩
      case measure => simp [intOf]; omega
    · have hk' : k = 8 := by omega
      subst hk'
      rw [rowTo_full]
      go_wp2
      refine bodyPost_ret (v := .agg (byteArr (byteOf W))) (by rw [← byteArr_full, rowTo_full]; simp [results, Try.results12, go_sem]) rfl ⟨by simp, ?_⟩
      repeat (first | with_reducible exact Below.refl _ _ | with_reducible refine Below.setCell ?_ (by simp) _ | with_reducible refine below_drewN ?_ _ | with_reducible refine Below.alloc ?_ (by simp) _ | with_reducible refine Below.drew ?_)
end Go.Proofs.Ytnilalgoehphaaa
