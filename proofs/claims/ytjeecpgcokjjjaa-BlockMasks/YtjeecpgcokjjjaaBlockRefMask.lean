/-
  What quarryref02.Mask and Equal answer.
-/
import Derived.Test.YtjeecpgcokjjjaaBlockRef
import Derived.Test.YtjeecpgcokjjjaaBlockMask
namespace Go.Proofs.Ytjeecpgcokjjjaa
open Go.RowKit

theorem mk_or_one (q : Nat → Bool) (k : Nat) (hk : k < 64) (hq : q k = true) : bits BinOp.or IntKind.u64 ((mk q k : Nat) : Int) (IntKind.u64.wrap (2 ^ k)) = ((mk q (k + 1) : Nat) : Int) := by
  have := mk_step q k hk
  rw [hq] at this
  simpa using this
theorem mk_off (q : Nat → Bool) (k : Nat) (hq : q k = false) : mk q (k + 1) = mk q k := by
  rw [mk_succ, hq]; simp

set_option maxRecDepth 100000 in
set_option maxHeartbeats 1000000 in
theorem refEqual_nat (f : Nat → Nat) (x : Nat) (M : Nat) (HM : Hid (mk (fun i => isB x (f i)) 64 = M)) (w : World) :
    Calls Try.prog 22 #[.agg (arr64 f), .int .u8 (x : Int)] w fun e w' => e = .returned (.int .u64 (M : Int)) ∧ Below w.heap.size w w' := by
  go_enter Try.func22, Try.ntmps22
  go_wp2
  go_loop [5, 6] (fun r i => ∃ k : Nat, k ≤ 64 ∧ i = .int .i64 k ∧ r = .int .u64 ((mk (fun i => isB x (f i)) k : Nat) : Int)) (fun _ i => 64 - (intOf i).toNat)
  case atStart => exact ⟨0, by omega, rfl, rfl⟩
  case round =>
    obtain ⟨k, hk, rfl, rfl⟩ := hrel
    by_cases hlt : k < 64
    · have hk8 : (k : Int) < 64 := by omega
      have hcf := arr64_at f k hlt
      by_cases he : f k = x
      · have hq : (fun i => isB x (f i)) k = true := by simp [isB, he]
        have hst := mk_or_one (fun i => isB x (f i)) k hlt hq
        have hei : (((f k : Nat) : Int) == (x : Int)) = true := by simp [he]
        go_wp2
        exact ⟨⟨k + 1, by omega, by go_num, rfl⟩, by simp [intOf]; omega⟩
      · have hq : (fun i => isB x (f i)) k = false := by simp [isB, he]
        have hst := mk_off (fun i => isB x (f i)) k hq
        have hei : (((f k : Nat) : Int) == (x : Int)) = false := by simp; omega
        go_wp2
        exact ⟨⟨k + 1, by omega, by go_num, by rw [hst]⟩, by simp [intOf]; omega⟩
    · have hk' : k = 64 := by omega
      subst hk'
      go_wp2
      go_ret
      exact ⟨by rw [HM.out]; rfl, (Below.refl _ _).alloc (Nat.le_refl _) _⟩

set_option maxRecDepth 100000 in
set_option maxHeartbeats 1000000 in
theorem refMask_nat (f : Nat → Nat) (hf : ∀ i, f i < 256) (c : Nat → Nat) (hc : Cls c) (M : Nat) (HM : Hid (mk (fun i => hasC c (f i)) 64 = M)) (w : World) :
    Calls Try.prog 21 #[.agg (arr64 f), .agg (clsArr c)] w fun e w' => e = .returned (.int .u64 (M : Int)) ∧ Below w.heap.size w w' := by
  go_enter Try.func21, Try.ntmps21
  go_wp2
  go_loopw [5, 6] (fun r i wr => ∃ k : Nat, k ≤ 64 ∧ i = .int .i64 k ∧ r = .int .u64 ((mk (fun i => hasC c (f i)) k : Nat) : Int) ∧ At wr w.heap.size (arr64 f) 33 ∧ At wr (w.heap.size + 1) (clsArr c) 25 ∧ Below w.heap.size w wr) (fun _ i _ => 64 - (intOf i).toNat)
  case atStart => exact ⟨0, by omega, rfl, rfl, (At.new _ _ _).alloc _, by simpa using At.new (w.alloc (.cells (arr64 f) 33)) (clsArr c) 25, ((Below.refl _ _).alloc (Nat.le_refl _) _).alloc (by simp) _⟩
  case round =>
    obtain ⟨k, hk, rfl, rfl, hA, hD, hBel⟩ := hrel
    by_cases hlt : k < 64
    · have hk8 : (k : Int) < 64 := by omega
      have hcf : wr.cell? ⟨w.heap.size, k, none⟩ = some (.int .u8 ((f k : Nat) : Int)) := (hA.cell _).trans (arr64_at f k hlt)
      have hfk := hf k
      obtain ⟨hC, _⟩ := hD.four
      go_wp2
      go_region_with (first
        | (go_at_call 12; (try rw [← clsArr_lit c]); refine (refHas_calls c hc (f k) hfk _).mono ?_; rintro e w2 ⟨rfl, hb2⟩; have hA2 := hA.drew.keptAll hb2; have hD2 := hD.drew.keptAll hb2; have hB2 := hBel.drew.trans (hb2.mono hBel.drew.size)))
      all_goals
        cases hq : hasC c (f k)
        · have hst := mk_off (fun i => hasC c (f i)) k hq
          go_wp2
          go_roundw
          case rel => exact ⟨k + 1, by omega, by go_num, by rw [hst], hA2, hD2, hB2⟩
          case measure => simp [intOf]; omega
        · have hst := mk_or_one (fun i => hasC c (f i)) k hlt hq
          go_wp2
          go_roundw
          case rel => exact ⟨k + 1, by omega, by go_num, rfl, hA2, hD2, hB2⟩
          case measure => simp [intOf]; omega
    · have hk' : k = 64 := by omega
      subst hk'
      go_wp2
      go_ret
      exact ⟨by rw [HM.out]; rfl, hBel⟩
end Go.Proofs.Ytjeecpgcokjjjaa
