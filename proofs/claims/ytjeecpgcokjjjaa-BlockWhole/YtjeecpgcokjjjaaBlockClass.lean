/-
  What block.only, block.Join, block.Minus and block.Not answer.
-/
import Derived.Test.YtjeecpgcokjjjaaRows
import Derived.Test.YtjeecpgcokjjjaaBlockMath
import Derived.WalkKit
import Derived.WalkSpells
import Derived.WalkLawsBesides
import Derived.BigQuiet
import Derived.Deep.QuietTactic
import Derived.Outline
namespace Go.Proofs.Ytjeecpgcokjjjaa
open Go.RowKit

/-- Four cells that hold a class's words. -/
def clsArr (c : Nat → Nat) : Array Value := Array.ofFn (n := 4) fun j => .int .u64 ((c j.val : Nat) : Int)
theorem clsArr_at (c : Nat → Nat) (k : Nat) (h : k < 4) : (clsArr c)[k]? = some (.int .u64 ((c k : Nat) : Int)) := by
  simp [clsArr, h]
theorem clsArr_lit (c : Nat → Nat) : clsArr c = #[.int .u64 ((c 0 : Nat) : Int), .int .u64 ((c 1 : Nat) : Int), .int .u64 ((c 2 : Nat) : Int), .int .u64 ((c 3 : Nat) : Int)] := rfl
theorem clsArr_zero : clsArr (fun _ => 0) = #[.int .u64 0, .int .u64 0, .int .u64 0, .int .u64 0] := rfl
theorem clsArr_congr {c d : Nat → Nat} (h : ∀ j, j < 4 → c j = d j) : clsArr c = clsArr d := by
  rw [clsArr_lit, clsArr_lit, h 0 (by decide), h 1 (by decide), h 2 (by decide), h 3 (by decide)]
theorem clsArr_set (c : Nat → Nat) (k v : Nat) : (clsArr c).setIfInBounds k (.int .u64 ((v : Nat) : Int)) = clsArr (fun j => if j = k then v else c j) := by
  apply Array.ext
  · simp [clsArr]
  · intro i h1 h2
    have hi : i < 4 := by simpa [clsArr] using h2
    by_cases e : k = i
    · subst e; simp [clsArr]
    · rw [Array.getElem_setIfInBounds_ne (by simp [clsArr]; omega) e]
      simp only [clsArr, Array.getElem_ofFn]
      rw [if_neg (fun h => e h.symm)]
/-- The first k words done, the others as they were. -/
def part (f c : Nat → Nat) (k j : Nat) : Nat := if j < k then f j else c j
theorem part_zero (f c : Nat → Nat) : clsArr (part f c 0) = clsArr c := clsArr_congr fun j _ => by simp [part]
theorem part_full (f c : Nat → Nat) : clsArr (part f c 4) = clsArr f := clsArr_congr fun j hj => by simp [part, hj]
theorem part_at (f c : Nat → Nat) (k : Nat) (h : k < 4) : (clsArr (part f c k))[k]? = some (.int .u64 ((c k : Nat) : Int)) := by
  rw [clsArr_at _ _ h]; simp [part]
theorem part_set (f c : Nat → Nat) (k : Nat) : (clsArr (part f c k)).setIfInBounds k (.int .u64 ((f k : Nat) : Int)) = clsArr (part f c (k + 1)) := by
  rw [clsArr_set]
  refine clsArr_congr fun j _ => ?_
  unfold part
  by_cases e : j = k
  · subst e; simp
  · by_cases l : j < k
    · simp [l, e, Nat.lt_succ_of_lt l]
    · have : ¬ j < k + 1 := by omega
      simp [l, e, this]

theorem flip_int (A : Nat) (ha : A < 18446744073709551616) : bits BinOp.xor IntKind.u64 (if IntKind.u64.signed = true then -1 else IntKind.u64.max) (A : Int) = ((flip A : Nat) : Int) := by
  have e : (if IntKind.u64.signed = true then (-1 : Int) else IntKind.u64.max) = ((18446744073709551615 : Nat) : Int) := by decide
  rw [e, u64_xor_nat _ _ (by decide) ha]
  congr 1
  refine word_ext (xor_lt64 (by decide) ha) (flip_lt64 A) fun i hi => ?_
  rw [Nat.testBit_xor, flip_bit A i ha hi, show (18446744073709551615 : Nat) = 2 ^ 64 - 1 from rfl, Nat.testBit_two_pow_sub_one]
  simp [hi]

/-- A cell of a class that lies below two blocks is set. -/
theorem set_under2 (w : World) (cs : Array Value) (t : TypeId) (o1 o2 : Obj) (i nq : Nat) (v : Value) :
    ((((w.alloc (.cells cs t)).alloc o1).alloc o2).drewN nq).setCell ⟨w.heap.size, i, none⟩ v = (((w.alloc (.cells (cs.setIfInBounds i v) t)).alloc o1).alloc o2).drewN nq := by
  show ((((w.alloc (.cells cs t)).alloc o1).alloc o2).setCell ⟨w.heap.size, i, none⟩ v).drewN nq = _
  rw [World.setCell_alloc_past _ _ _ _ (by simp; omega), World.setCell_alloc_past _ _ _ _ (by simp), World.setCell_alloc_at _ _ _ _ _ rfl]
theorem set_under1 (w : World) (cs : Array Value) (t : TypeId) (o1 : Obj) (i nq : Nat) (v : Value) :
    (((w.alloc (.cells cs t)).alloc o1).drewN nq).setCell ⟨w.heap.size, i, none⟩ v = ((w.alloc (.cells (cs.setIfInBounds i v) t)).alloc o1).drewN nq := by
  show (((w.alloc (.cells cs t)).alloc o1).setCell ⟨w.heap.size, i, none⟩ v).drewN nq = _
  rw [World.setCell_alloc_past _ _ _ _ (by simp), World.setCell_alloc_at _ _ _ _ _ rfl]

set_option maxRecDepth 100000 in
set_option maxHeartbeats 400000 in
theorem join_calls (c d : Nat → Nat) (hc : Cls c) (hd : Cls d) (w : World) :
    Calls Try.prog 13 #[.agg (clsArr c), .agg (clsArr d)] w fun e w' => e = .returned (.agg (clsArr (fun j => c j ||| d j))) ∧ Below w.heap.size w w' := by
  go_enter Try.func13, Try.ntmps13
  go_wp2
  go_loopw [8] (fun i wr => ∃ k nq : Nat, k ≤ 4 ∧ i = .int .i64 k ∧ wr = (((w.alloc (.cells (clsArr (part (fun j => c j ||| d j) c k)) 25)).alloc (.cells (clsArr d) 25)).alloc (.cells #[.int .u64 0, .int .u64 0, .int .u64 0, .int .u64 0] 25)).drewN nq) (fun i _ => 4 - (intOf i).toNat)
  case atStart => exact ⟨0, 0, by omega, rfl, by rw [part_zero]; rfl⟩
  case round =>
    obtain ⟨k, nq, hk, rfl, rfl⟩ := hrel
    by_cases hlt : k < 4
    · have hk4 : (k : Int) < 4 := by omega
      have h1 := part_at (fun j => c j ||| d j) c k hlt
      have h2 := clsArr_at d k hlt
      have h3 := hc k
      have h4 := hd k
      go_wp2
      go_region
      go_wp2
      refine ⟨⟨k + 1, nq + 1, by omega, by go_num, ?_⟩, by simp [intOf]; omega⟩
      rw [set_under2, u64_or_nat _ _ h3 h4]
      rw [part_set (fun j => c j ||| d j) c k]
    · have hk' : k = 4 := by omega
      subst hk'
      rw [part_full, clsArr_lit (fun j => c j ||| d j)]
      go_wp2
      refine bodyPost_ret (v := .agg (clsArr (fun j => c j ||| d j))) (by rw [clsArr_lit (fun j => c j ||| d j)]; simp [results, Try.results13, go_sem]) rfl ⟨by simp, ?_⟩
      repeat (first | with_reducible exact Below.refl _ _ | with_reducible refine Below.setCell ?_ (by first | (simp; done) | (simp; omega)) _ | with_reducible refine below_drewN ?_ _ | with_reducible refine Below.alloc ?_ (by first | (simp; done) | (simp; omega)) _ | with_reducible refine Below.drew ?_)

set_option maxRecDepth 100000 in
set_option maxHeartbeats 400000 in
theorem minus_calls (c d : Nat → Nat) (hc : Cls c) (hd : Cls d) (w : World) :
    Calls Try.prog 15 #[.agg (clsArr c), .agg (clsArr d)] w fun e w' => e = .returned (.agg (clsArr (fun j => less (c j) (d j)))) ∧ Below w.heap.size w w' := by
  go_enter Try.func15, Try.ntmps15
  go_wp2
  go_loopw [8] (fun i wr => ∃ k nq : Nat, k ≤ 4 ∧ i = .int .i64 k ∧ wr = (((w.alloc (.cells (clsArr (part (fun j => less (c j) (d j)) c k)) 25)).alloc (.cells (clsArr d) 25)).alloc (.cells #[.int .u64 0, .int .u64 0, .int .u64 0, .int .u64 0] 25)).drewN nq) (fun i _ => 4 - (intOf i).toNat)
  case atStart => exact ⟨0, 0, by omega, rfl, by rw [part_zero]; rfl⟩
  case round =>
    obtain ⟨k, nq, hk, rfl, rfl⟩ := hrel
    by_cases hlt : k < 4
    · have hk4 : (k : Int) < 4 := by omega
      have h1 := part_at (fun j => less (c j) (d j)) c k hlt
      have h2 := clsArr_at d k hlt
      have h3 := hc k
      have h4 := hd k
      go_wp2
      go_region
      go_wp2
      refine ⟨⟨k + 1, nq + 1, by omega, by go_num, ?_⟩, by simp [intOf]; omega⟩
      rw [set_under2, u64_andNot_nat _ _ h3 h4, less_eq h3 h4]
      rw [part_set (fun j => less (c j) (d j)) c k]
    · have hk' : k = 4 := by omega
      subst hk'
      rw [part_full, clsArr_lit (fun j => less (c j) (d j))]
      go_wp2
      refine bodyPost_ret (v := .agg (clsArr (fun j => less (c j) (d j)))) (by rw [clsArr_lit (fun j => less (c j) (d j))]; simp [results, Try.results15, go_sem]) rfl ⟨by simp, ?_⟩
      repeat (first | with_reducible exact Below.refl _ _ | with_reducible refine Below.setCell ?_ (by first | (simp; done) | (simp; omega)) _ | with_reducible refine below_drewN ?_ _ | with_reducible refine Below.alloc ?_ (by first | (simp; done) | (simp; omega)) _ | with_reducible refine Below.drew ?_)

set_option maxRecDepth 100000 in
set_option maxHeartbeats 400000 in
theorem not_calls (c : Nat → Nat) (hc : Cls c) (w : World) :
    Calls Try.prog 17 #[.agg (clsArr c)] w fun e w' => e = .returned (.agg (clsArr (fun j => flip (c j)))) ∧ Below w.heap.size w w' := by
  go_enter Try.func17, Try.ntmps17
  go_wp2
  go_loopw [6] (fun i wr => ∃ k nq : Nat, k ≤ 4 ∧ i = .int .i64 k ∧ wr = ((w.alloc (.cells (clsArr (part (fun j => flip (c j)) c k)) 25)).alloc (.cells #[.int .u64 0, .int .u64 0, .int .u64 0, .int .u64 0] 25)).drewN nq) (fun i _ => 4 - (intOf i).toNat)
  case atStart => exact ⟨0, 0, by omega, rfl, by rw [part_zero]; rfl⟩
  case round =>
    obtain ⟨k, nq, hk, rfl, rfl⟩ := hrel
    by_cases hlt : k < 4
    · have hk4 : (k : Int) < 4 := by omega
      have h1 := part_at (fun j => flip (c j)) c k hlt
      have h3 := hc k
      go_wp2
      go_region
      go_wp2
      refine ⟨⟨k + 1, nq + 1, by omega, by go_num, ?_⟩, by simp [intOf]; omega⟩
      rw [set_under1, flip_int _ h3]
      rw [part_set (fun j => flip (c j)) c k]
    · have hk' : k = 4 := by omega
      subst hk'
      rw [part_full, clsArr_lit (fun j => flip (c j))]
      go_wp2
      refine bodyPost_ret (v := .agg (clsArr (fun j => flip (c j)))) (by rw [clsArr_lit (fun j => flip (c j))]; simp [results, Try.results17, go_sem]) rfl ⟨by simp, ?_⟩
      repeat (first | with_reducible exact Below.refl _ _ | with_reducible refine Below.setCell ?_ (by first | (simp; done) | (simp; omega)) _ | with_reducible refine below_drewN ?_ _ | with_reducible refine Below.alloc ?_ (by first | (simp; done) | (simp; omega)) _ | with_reducible refine Below.drew ?_)

end Go.Proofs.Ytjeecpgcokjjjaa
