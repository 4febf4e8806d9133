/-
  What block.only, block.Has and block.Of answer.
-/
import Derived.Test.YtkdcloiepeenoaaDoorBlockClass
import Derived.Test.YtkdcloiepeenoaaDoorPack1
import Derived.Deep.RegionHeld3
namespace Go.Proofs.YtkdcloiepeenoaaDoor
open Go.RowKit

theorem pow_wrap (x : Nat) : IntKind.u64.wrap (2 ^ (x % 64)) = ((2 ^ (x % 64) : Nat) : Int) := by
  have h := pow64 x
  have e : (2 : Int) ^ (x % 64) = ((2 ^ (x % 64) : Nat) : Int) := by simp
  rw [e, IntKind.wrap_u64]
  generalize 2 ^ (x % 64) = X at *
  omega
theorem only_arr (x : Nat) : #[Value.int .u64 0, .int .u64 0, .int .u64 0, .int .u64 0].setIfInBounds (x / 64) (.int .u64 (IntKind.u64.wrap (2 ^ (x % 64)))) = #[.int .u64 ((onlyC x 0 : Nat) : Int), .int .u64 ((onlyC x 1 : Nat) : Int), .int .u64 ((onlyC x 2 : Nat) : Int), .int .u64 ((onlyC x 3 : Nat) : Int)] := by
  rw [← clsArr_zero, ← clsArr_lit, pow_wrap, clsArr_set]
  rfl

theorem kept4 {w0 wx w1 : World} {B : Nat} {v0 v1 v2 v3 : Value}
    (h : (wx.cell? ⟨B, 0, none⟩ = some v0 ∧ wx.cell? ⟨B, 1, none⟩ = some v1 ∧ wx.cell? ⟨B, 2, none⟩ = some v2 ∧ wx.cell? ⟨B, 3, none⟩ = some v3) ∧ Below w0.heap.size w0 wx)
    (hb : Below wx.heap.size wx w1) :
    (w1.cell? ⟨B, 0, none⟩ = some v0 ∧ w1.cell? ⟨B, 1, none⟩ = some v1 ∧ w1.cell? ⟨B, 2, none⟩ = some v2 ∧ w1.cell? ⟨B, 3, none⟩ = some v3) ∧ Below w0.heap.size w0 w1 := by
  obtain ⟨⟨h0, h1, h2, h3⟩, hw⟩ := h
  have key : ∀ i v, wx.cell? ⟨B, i, none⟩ = some v → w1.cell? ⟨B, i, none⟩ = some v := fun i v hv => by
    rw [hb.cell (p := ⟨B, i, none⟩) (block_lt_of_cell hv)]; exact hv
  exact ⟨⟨key _ _ h0, key _ _ h1, key _ _ h2, key _ _ h3⟩, hw.trans (hb.mono hw.size)⟩
theorem size_word (w : World) : (sizeOf 39).run Tryd.prog w = .ok 1 w := by kernel_rfl
end Go.Proofs.YtkdcloiepeenoaaDoor
