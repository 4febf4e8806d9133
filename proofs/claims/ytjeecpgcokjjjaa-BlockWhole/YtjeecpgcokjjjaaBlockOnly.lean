/-
  What block.only, block.Has and block.Of answer.
-/
import Derived.Test.YtjeecpgcokjjjaaBlockClass
import Derived.Test.YtjeecpgcokjjjaaKit
import Derived.Deep.RegionHeld3
namespace Go.Proofs.Ytjeecpgcokjjjaa
open Go.RowKit

theorem pow_wrap (x : Nat) : IntKind.u64.wrap (2 ^ (x % 64)) = ((2 ^ (x % 64) : Nat) : Int) := by
  have h := pow64 x
  have e : (2 : Int) ^ (x % 64) = ((2 ^ (x % 64) : Nat) : Int) := by simp
  rw [e, IntKind.wrap_u64]
  generalize 2 ^ (x % 64) = X at *
  omega
theorem only_arr (x : Nat) : #[Value.int .u64 0, .int .u64 0, .int .u64 0, .int .u64 0].setIfInBounds (x / 64) (.int .u64 (IntKind.u64.wrap (2 ^ (x % 64)))) = #[.int .u64 ((onlyC x 0 : Nat) : Int), .int .u64 ((onlyC x 1 : Nat) : Int), .int .u64 ((onlyC x 2 : Nat) : Int), .int .u64 ((onlyC x 3 : Nat) : Int)] := by
  rw [← clsArr_zero, ← clsArr_lit, pow_wrap, clsArr_set]
  rfl

set_option maxRecDepth 100000 in
set_option maxHeartbeats 400000 in
theorem only_calls (x : Nat) (hx : x < 256) (w : World) :
    Calls Try.prog 28 #[.int .u8 (x : Int)] w fun e w' => e = .returned (.agg (clsArr (onlyC x))) ∧ Below w.heap.size w w' := by
  have h1 : ((x : Int) / 64).toNat = x / 64 := by omega
  have h2 : (0 : Int) ≤ (x : Int) / 64 := by omega
  have h3 : (x : Int) / 64 < 4 := by omega
  have h4 : [Value.int IntKind.u64 0, Value.int IntKind.u64 0, Value.int IntKind.u64 0, Value.int IntKind.u64 0][x / 64]? = some (.int .u64 0) := by
    have := clsArr_at (fun _ => 0) (x / 64) (by omega)
    rw [clsArr_zero] at this
    simpa using this
  have h5 := only_arr x
  go_enter Try.func28, Try.ntmps28
  go_wp2
  refine bodyPost_ret (v := .agg (clsArr (onlyC x))) (by rw [clsArr_lit (onlyC x)]; simp [results, Try.results28, go_sem]) rfl ⟨by simp, ?_⟩
  repeat (first | with_reducible exact Below.refl _ _ | with_reducible refine Below.setCell ?_ (by first | (simp; done) | (simp; omega)) _ | with_reducible refine below_drewN ?_ _ | with_reducible refine Below.alloc ?_ (by first | (simp; done) | (simp; omega)) _ | with_reducible refine Below.drew ?_)

theorem kept4 {w0 wx w1 : World} {B : Nat} {v0 v1 v2 v3 : Value}
    (h : (wx.cell? ⟨B, 0, none⟩ = some v0 ∧ wx.cell? ⟨B, 1, none⟩ = some v1 ∧ wx.cell? ⟨B, 2, none⟩ = some v2 ∧ wx.cell? ⟨B, 3, none⟩ = some v3) ∧ Below w0.heap.size w0 wx)
    (hb : Below wx.heap.size wx w1) :
    (w1.cell? ⟨B, 0, none⟩ = some v0 ∧ w1.cell? ⟨B, 1, none⟩ = some v1 ∧ w1.cell? ⟨B, 2, none⟩ = some v2 ∧ w1.cell? ⟨B, 3, none⟩ = some v3) ∧ Below w0.heap.size w0 w1 := by
  obtain ⟨⟨h0, h1, h2, h3⟩, hw⟩ := h
  have key : ∀ i v, wx.cell? ⟨B, i, none⟩ = some v → w1.cell? ⟨B, i, none⟩ = some v := fun i v hv => by
    rw [hb.cell (p := ⟨B, i, none⟩) (block_lt_of_cell hv)]; exact hv
  exact ⟨⟨key _ _ h0, key _ _ h1, key _ _ h2, key _ _ h3⟩, hw.trans (hb.mono hw.size)⟩
theorem size_word (w : World) : (sizeOf 22).run Try.prog w = .ok 1 w := by kernel_rfl
theorem eq_words (c d : Nat → Nat) (w : World) : (binOp .eql 23 (.agg (clsArr c)) (.agg (clsArr d))).run Try.prog w = .ok (.bool ((List.range 4).all fun i => ((c i : Nat) : Int) == ((d i : Nat) : Int))) w := by
  rw [run_eql_struct, run_equalIn_fun w 9998 23 22 4 .u64 Try.underlying23 Try.underlying22 size_word (clsArr c) (clsArr d) (fun i => ((c i : Nat) : Int)) (fun i => ((d i : Nat) : Int)) (clsArr_at c) (clsArr_at d)]
  rfl
theorem eq_has (c : Nat → Nat) (hc : Cls c) (x : Nat) (hx : x < 256) (w : World) : (binOp .eql 23 (.agg (clsArr (fun j => c j ||| onlyC x j))) (.agg (clsArr c))).run Try.prog w = .ok (.bool (hasC c x)) w := by
  rw [eq_words]
  congr 2
  have h := same_iff hc x
  rw [Bool.eq_iff_iff]
  simp only [List.all_eq_true, List.mem_range, beq_iff_eq, Int.ofNat_inj]
  rw [h]
  simp [hx]

theorem field_cls (c : Nat → Nat) (w : World) : (Instr.field 25 (.agg (clsArr c)) 0).run Try.prog w = .ok (.agg (clsArr c)) w := by
  rw [clsArr_lit]; kernel_rfl

set_option maxRecDepth 100000 in
set_option maxHeartbeats 400000 in
theorem has_calls (c : Nat → Nat) (hc : Cls c) (x : Nat) (hx : x < 256) (w : World) :
    Calls Try.prog 10 #[.agg (clsArr c), .int .u8 (x : Int)] w fun e w' => e = .returned (.bool (hasC c x)) ∧ Below w.heap.size w w' := by
  have hfl := field_cls (fun j => c j ||| onlyC x j)
  have heq := eq_has c hc x hx
  go_enter Try.func10, Try.ntmps10
  go_wp2
  have hS : ((w.alloc (.cells (clsArr c) 25)).drew.cell? ⟨w.heap.size, 0, none⟩ = some (.int .u64 ((c 0 : Nat) : Int)) ∧ (w.alloc (.cells (clsArr c) 25)).drew.cell? ⟨w.heap.size, 1, none⟩ = some (.int .u64 ((c 1 : Nat) : Int)) ∧ (w.alloc (.cells (clsArr c) 25)).drew.cell? ⟨w.heap.size, 2, none⟩ = some (.int .u64 ((c 2 : Nat) : Int)) ∧ (w.alloc (.cells (clsArr c) 25)).drew.cell? ⟨w.heap.size, 3, none⟩ = some (.int .u64 ((c 3 : Nat) : Int))) ∧ Below w.heap.size w (w.alloc (.cells (clsArr c) 25)).drew := by
    refine ⟨⟨?_, ?_, ?_, ?_⟩, ((Below.refl _ _).alloc (Nat.le_refl _) _).drew⟩ <;> (show (World.cell? (w.alloc _) _ = _); rw [World.cell?_alloc_at _ _ _ _ rfl]; rfl)
  go_region_held3 (fun w' => (w'.cell? ⟨w.heap.size, 0, none⟩ = some (.int .u64 ((c 0 : Nat) : Int)) ∧ w'.cell? ⟨w.heap.size, 1, none⟩ = some (.int .u64 ((c 1 : Nat) : Int)) ∧ w'.cell? ⟨w.heap.size, 2, none⟩ = some (.int .u64 ((c 2 : Nat) : Int)) ∧ w'.cell? ⟨w.heap.size, 3, none⟩ = some (.int .u64 ((c 3 : Nat) : Int))) ∧ Below w.heap.size w w') (first | exact hS | exact kept4 (by assumption) hb)
    (first
      | (go_at_call 28; refine (only_calls x hx _).mono ?_; rintro e w' ⟨rfl, hb⟩)
      | (go_at_call 13; (try rw [← clsArr_lit c]); refine (join_calls c (onlyC x) hc (cls_only x) _).mono ?_; rintro e w' ⟨rfl, hb⟩))
  all_goals (go_wp2; go_ret; rename_i hh; exact ⟨rfl, hh.2⟩)
end Go.Proofs.Ytjeecpgcokjjjaa
