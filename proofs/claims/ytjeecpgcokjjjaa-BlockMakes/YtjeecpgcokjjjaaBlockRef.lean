/-
  What quarryref02.Has, with, Of answer.
-/
import Derived.Test.YtjeecpgcokjjjaaBlockOf
namespace Go.Proofs.Ytjeecpgcokjjjaa
open Go.RowKit

theorem bit_nat (W i : Nat) : W / 2 ^ i % 2 = if W.testBit i then 1 else 0 := by
  rw [Nat.testBit_eq_decide_div_mod_eq]
  have := Nat.mod_two_eq_zero_or_one (W / 2 ^ i)
  by_cases h : W / 2 ^ i % 2 = 1
  · simp [h]
  · simp [h]; omega
theorem bit_int (W i : Nat) (hW : W < 18446744073709551616) : bits BinOp.and IntKind.u64 ((W : Int) / 2 ^ i) 1 = ((if W.testBit i then 1 else 0 : Nat) : Int) := by
  have e : (W : Int) / 2 ^ i = ((W / 2 ^ i : Nat) : Int) := by simp
  have hl : W / 2 ^ i < 18446744073709551616 := Nat.lt_of_le_of_lt (Nat.div_le_self _ _) hW
  rw [e, show (1 : Int) = ((1 : Nat) : Int) from rfl, u64_and_nat _ _ hl (by decide), Nat.and_one_is_mod, bit_nat]
theorem bit_test (W i : Nat) (hW : W < 18446744073709551616) : (bits BinOp.and IntKind.u64 ((W : Int) / 2 ^ i) 1 == 1) = W.testBit i := by
  rw [bit_int W i hW]
  cases W.testBit i <;> rfl

set_option maxRecDepth 100000 in
set_option maxHeartbeats 400000 in
theorem refHas_calls (c : Nat → Nat) (hc : Cls c) (x : Nat) (hx : x < 256) (w : World) :
    Calls Try.prog 12 #[.agg (clsArr c), .int .u8 (x : Int)] w fun e w' => e = .returned (.bool (hasC c x)) ∧ Below w.heap.size w w' := by
  have h1 : ((x : Int) / 64).toNat = x / 64 := by omega
  have h2 : (0 : Int) ≤ (x : Int) / 64 := by omega
  have h3 : (x : Int) / 64 < 4 := by omega
  have h4 := clsArr_at c (x / 64) (by omega)
  have h5 := hc (x / 64)
  have h6 := bit_test (c (x / 64)) (x % 64) h5
  go_enter Try.func12, Try.ntmps12
  go_wp2
  go_ret
  exact ⟨rfl, (Below.refl _ _).alloc (Nat.le_refl _) _⟩

theorem with_arr (c : Nat → Nat) (hc : Cls c) (x : Nat) : (clsArr c).setIfInBounds (x / 64) (.int .u64 (bits BinOp.or IntKind.u64 (c (x / 64) : Int) (IntKind.u64.wrap (2 ^ (x % 64))))) = #[.int .u64 ((withC c x 0 : Nat) : Int), .int .u64 ((withC c x 1 : Nat) : Int), .int .u64 ((withC c x 2 : Nat) : Int), .int .u64 ((withC c x 3 : Nat) : Int)] := by
  rw [← clsArr_lit (withC c x), pow_wrap, u64_or_nat _ _ (hc _) (pow64 x), clsArr_set]
  refine clsArr_congr fun j _ => ?_
  unfold withC
  split
  · rename_i h; rw [h]
  · rfl
set_option maxRecDepth 100000 in
set_option maxHeartbeats 400000 in
theorem refWith_calls (c : Nat → Nat) (hc : Cls c) (x : Nat) (hx : x < 256) (w : World) :
    Calls Try.prog 29 #[.agg (clsArr c), .int .u8 (x : Int)] w fun e w' => e = .returned (.agg (clsArr (withC c x))) ∧ Below w.heap.size w w' := by
  have h1 : ((x : Int) / 64).toNat = x / 64 := by omega
  have h2 : (0 : Int) ≤ (x : Int) / 64 := by omega
  have h3 : (x : Int) / 64 < 4 := by omega
  have h4 := clsArr_at c (x / 64) (by omega)
  have h5 := hc (x / 64)
  have h6 := with_arr c hc x
  go_enter Try.func29, Try.ntmps29
  go_wp2
  refine bodyPost_ret (v := .agg (clsArr (withC c x))) (by rw [clsArr_lit (withC c x)]; simp [results, Try.results29, go_sem]) rfl ⟨by simp, ?_⟩
  repeat (first | with_reducible exact Below.refl _ _ | with_reducible refine Below.setCell ?_ (by first | (simp; done) | (simp; omega)) _ | with_reducible refine below_drewN ?_ _ | with_reducible refine Below.alloc ?_ (by first | (simp; done) | (simp; omega)) _ | with_reducible refine Below.drew ?_)

set_option maxRecDepth 100000 in
set_option maxHeartbeats 1000000 in
theorem refOf_calls (s : ByteArray) (hs : s.size ≤ 9223372036854775807) (w : World) :
    Calls Try.prog 11 #[.string s] w fun e w' => e = .returned (.agg (clsArr (ofTo (byteAt s) s.size))) ∧ Below w.heap.size w w' := by
  go_enter Try.func11, Try.ntmps11
  go_wp2
  go_loopw [4] (fun i wr => ∃ k : Nat, k ≤ s.size ∧ i = .int .i64 k ∧ At wr (w.heap.size + 1) (clsArr (ofTo (byteAt s) k)) 25 ∧ At wr w.heap.size (clsArr fun _ => 0) 25 ∧ Below w.heap.size w wr) (fun i _ => s.size - (intOf i).toNat)
  case atStart =>
    refine ⟨0, by omega, rfl, ?_, ?_, ?_⟩
    · have h := At.new (w.alloc (.cells (clsArr fun _ => 0) 25)) (clsArr fun _ => 0) 25
      simpa [clsArr_zero, ofTo_zero] using h
    · have h := (At.new w (clsArr fun _ => 0) 25).alloc (.cells (clsArr fun _ => 0) 25)
      simpa [clsArr_zero] using h
    · repeat (first | with_reducible exact Below.refl _ _ | with_reducible refine Below.setCell ?_ (by first | (simp; done) | (simp; omega)) _ | with_reducible refine below_drewN ?_ _ | with_reducible refine Below.alloc ?_ (by first | (simp; done) | (simp; omega)) _ | with_reducible refine Below.drew ?_)
  case round =>
    obtain ⟨k, hk, rfl, hA, hR, hBel⟩ := hrel
    by_cases hlt : k < s.size
    · have hk4 : (k : Int) < s.size := by omega
      have hb1 := byteAt_lt s k
      have hbt := byteAt_eq s k hlt
      have hcl := cls_of (byteAt s) k
      have hst := ofTo_succ (byteAt s) k
      generalize byteAt s k = x at *
      generalize ofTo (byteAt s) k = c at *
      obtain ⟨hC, hZ⟩ := hA.four
      go_wp2
      go_region_with (first
        | (go_at_call 29; (try rw [← clsArr_lit c]); refine (refWith_calls c hcl x hb1 _).mono ?_; rintro e w3 ⟨rfl, hb3⟩; have hA3 := hA.drew.keptAll hb3; obtain ⟨hC3, hZ3⟩ := hA3.four; rw [clsArr_lit (withC c x)]))
      all_goals
        have hR3 := hR.drew.keptAll hb3
        have hB3 := hBel.drew.trans (hb3.mono hBel.drew.size)
        go_wp2
        go_roundw
        case rel =>
          refine ⟨k + 1, by omega, by go_num, ?_, ?_, ?_⟩
          · rw [hst, ← with_eq]; exact hA3.put (withC c x)
          · exact (((hR3.other (by simp) _).other (by simp) _).other (by simp) _).other (by simp) _
          · exact (((hB3.setCell (by simp) _).setCell (by simp) _).setCell (by simp) _).setCell (by simp) _
        case measure => simp [intOf]; omega
    · have hk' : k = s.size := by omega
      subst hk'
      generalize hcd : ofTo (byteAt s) s.size = c at hA
      obtain ⟨hC, hZ⟩ := hA.four
      obtain ⟨hD, hY⟩ := hR.four
      go_wp2
      have hR1 := hR.put c
      obtain ⟨hC1, hZ1⟩ := hR1.four
      refine bodyPost_ret (v := .agg (clsArr c)) (by rw [clsArr_lit c]; simp [results, Try.results11, go_sem, hC1]) rfl ⟨by rw [hcd], ?_⟩
      exact (((hBel.setCell (by simp) _).setCell (by simp) _).setCell (by simp) _).setCell (by simp) _
end Go.Proofs.Ytjeecpgcokjjjaa
