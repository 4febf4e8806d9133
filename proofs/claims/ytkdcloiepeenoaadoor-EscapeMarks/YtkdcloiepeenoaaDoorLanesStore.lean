/-
  What lanes.Store answers: the bytes of a word.
-/
import Derived.Test.YtkdcloiepeenoaaDoorRows
import Derived.Test.YtkdcloiepeenoaaDoorLanesMath
import Derived.WalkKit
import Derived.WalkSpells
import Derived.WalkLawsBesides
import Derived.BigQuiet
import Derived.Deep.QuietTactic
import Derived.Outline
namespace Go.Proofs.YtkdcloiepeenoaaDoor
open Go.RowKit

/-- Eight cells of a byte array, of which the first k hold the bytes of W. -/
def rowTo (W k : Nat) : Array Value := Array.ofFn (n := 8) fun j => if j.val < k then .int .u8 ((byteOf W j.val : Nat) : Int) else .int .u8 0
/-- Eight cells that hold the bytes f 0 to f 7. -/
def byteArr (f : Nat → Nat) : Array Value := Array.ofFn (n := 8) fun j => .int .u8 ((f j.val : Nat) : Int)
theorem byteArr_at (f : Nat → Nat) (k : Nat) (h : k < 8) : (byteArr f)[k]? = some (.int .u8 ((f k : Nat) : Int)) := by
  simp [byteArr, h]

theorem rowTo_zero (W : Nat) : rowTo W 0 = #[.int .u8 0, .int .u8 0, .int .u8 0, .int .u8 0, .int .u8 0, .int .u8 0, .int .u8 0, .int .u8 0] := by
  simp [rowTo]; rfl

theorem rowTo_at (W k : Nat) (h : k < 8) : (rowTo W k)[k]? = some (.int .u8 0) := by
  simp [rowTo, h]
theorem rowTo_set (W k : Nat) : (rowTo W k).setIfInBounds k (.int .u8 ((byteOf W k : Nat) : Int)) = rowTo W (k + 1) := by
  apply Array.ext
  · simp [rowTo]
  · intro i h1 h2
    have hi : i < 8 := by simpa [rowTo] using h2
    by_cases e : k = i
    · subst e; simp [rowTo]
    · rw [Array.getElem_setIfInBounds_ne (by simp [rowTo]; omega) e]
      simp only [rowTo, Array.getElem_ofFn]
      by_cases l : i < k
      · rw [if_pos l, if_pos (by omega)]
      · rw [if_neg l, if_neg (by omega)]
theorem byteArr_full (W : Nat) : rowTo W 8 = byteArr (byteOf W) := rfl
theorem rowTo_full (W : Nat) : rowTo W 8 = #[.int .u8 ((byteOf W 0 : Nat) : Int), .int .u8 ((byteOf W 1 : Nat) : Int), .int .u8 ((byteOf W 2 : Nat) : Int), .int .u8 ((byteOf W 3 : Nat) : Int), .int .u8 ((byteOf W 4 : Nat) : Int), .int .u8 ((byteOf W 5 : Nat) : Int), .int .u8 ((byteOf W 6 : Nat) : Int), .int .u8 ((byteOf W 7 : Nat) : Int)] := by
  rfl

theorem setCell_drewN (w : World) (n : Nat) (a : Addr) (v : Value) : (w.drewN n).setCell a v = (w.setCell a v).drewN n := rfl
theorem shift_int (W k : Nat) : (W : Int) / 2 ^ (8 * k) % 256 = ((byteOf W k : Nat) : Int) := by
  rw [← shift_byte]; simp

set_option maxRecDepth 100000 in
set_option maxHeartbeats 400000 in
theorem store_calls (x : Int) (w : World) (hx : 0 ≤ x) (hx' : x < 18446744073709551616) :
    Calls Tryd.prog 73 #[.int .u64 x] w fun e w' => e = .returned (.agg (byteArr (byteOf x.toNat))) ∧ Below w.heap.size w w' := by
  obtain ⟨W, rfl⟩ := Int.eq_ofNat_of_zero_le hx
  go_enter Tryd.func73, Tryd.ntmps73
  go_wp2
  go_loopw [6] (fun i wr => ∃ k nq : Nat, k ≤ 8 ∧ i = .int .i64 k ∧ wr = ((w.alloc (.cells #[.int .u8 0, .int .u8 0, .int .u8 0, .int .u8 0, .int .u8 0, .int .u8 0, .int .u8 0, .int .u8 0] 78)).alloc (.cells (rowTo W k) 78)).drewN nq) (fun i _ => 8 - (intOf i).toNat)
  case atStart => exact ⟨0, 0, by omega, rfl, by rw [rowTo_zero]; rfl⟩
  case round =>
    obtain ⟨k, nq, hk, rfl, rfl⟩ := hrel
    by_cases hlt : k < 8
    · have hk8 : (k : Int) < 8 := by omega
      have hc : (rowTo W k)[k]? = some (.int .u8 0) := rowTo_at W k hlt
      go_wp2
      go_region
      go_wp2
      go_roundw
      case rel =>
        refine ⟨k + 1, nq + 1, by omega, by go_num, ?_⟩
        rw [setCell_drewN, World.setCell_alloc_at _ _ _ _ _ (by simp), shift_int, rowTo_set W k]
      case measure => simp [intOf]; omega
    · have hk' : k = 8 := by omega
      subst hk'
      rw [rowTo_full]
      go_wp2
      refine bodyPost_ret (v := .agg (byteArr (byteOf W))) (by rw [← byteArr_full, rowTo_full]; simp [results, Tryd.results73, go_sem]) rfl ⟨by simp, ?_⟩
      repeat (first | with_reducible exact Below.refl _ _ | with_reducible refine Below.setCell ?_ (by simp) _ | with_reducible refine below_drewN ?_ _ | with_reducible refine Below.alloc ?_ (by simp) _ | with_reducible refine Below.drew ?_)
end Go.Proofs.YtkdcloiepeenoaaDoor
