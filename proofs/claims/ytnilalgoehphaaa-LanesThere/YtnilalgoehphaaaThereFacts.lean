/-
  Facts for the law LanesThere: arrays compared, bytes turned round.
-/
import Derived.Test.YtnilalgoehphaaaAwake
import Derived.Test.YtnilalgoehphaaaKit
namespace Go.Proofs.Ytnilalgoehphaaa
open Go.RowKit

theorem byteArr_lit (f : Nat → Nat) : #[.int .u8 ((f 0 : Nat) : Int), .int .u8 ((f 1 : Nat) : Int), .int .u8 ((f 2 : Nat) : Int), .int .u8 ((f 3 : Nat) : Int), .int .u8 ((f 4 : Nat) : Int), .int .u8 ((f 5 : Nat) : Int), .int .u8 ((f 6 : Nat) : Int), .int .u8 ((f 7 : Nat) : Int)] = byteArr f := rfl
theorem byteArr_congr (f g : Nat → Nat) (h : ∀ i, i < 8 → f i = g i) : byteArr f = byteArr g := by
  apply Array.ext
  · simp [byteArr]
  · intro i h1 h2
    have hi : i < 8 := by simpa [byteArr] using h1
    simp only [byteArr, Array.getElem_ofFn]
    rw [h i hi]
theorem byteArr_back (f : Nat → Nat) (hf : ∀ i, f i < 256) : byteArr (byteOf (loadTo f 8)) = byteArr f :=
  byteArr_congr _ _ fun i hi => byteOf_load f hf 8 i hi

theorem size_byte (w : World) : (sizeOf 5).run Try.prog w = .ok 1 w := by kernel_rfl
theorem neq_same (f : Nat → Nat) (w : World) : (binOp .neq 22 (.agg (byteArr f)) (.agg (byteArr f))).run Try.prog w = .ok (.bool false) w := by
  rw [run_neq_struct, run_equalIn_fun w 9998 22 5 8 .u8 Try.underlying22 Try.underlying5 size_byte (byteArr f) (byteArr f) (fun i => ((f i : Nat) : Int)) (fun i => ((f i : Nat) : Int)) (byteArr_at f) (byteArr_at f)]
  simp

/-- Which byte stands at the place j when the bytes are turned round and moved on by K. -/
def from8 (K j : Nat) : Nat := (7 + K - j) % 8
/-- Where the byte i goes. -/
def to8 (K i : Nat) : Nat := (7 - i + K) % 8
theorem from_to (K i : Nat) (hK : K < 8) (hi : i < 8) : from8 K (to8 K i) = i := by unfold from8 to8; omega
theorem to_from (K j : Nat) (hK : K < 8) (hj : j < 8) : to8 K (from8 K j) = j := by unfold from8 to8; omega
theorem to8_lt (K i : Nat) : to8 K i < 8 := Nat.mod_lt _ (by decide)
theorem from8_lt (K i : Nat) : from8 K i < 8 := Nat.mod_lt _ (by decide)
/-- The bytes turned, of which the first n have been laid. -/
def turnTo (f : Nat → Nat) (K n : Nat) : Array Value := Array.ofFn (n := 8) fun j => if from8 K j.val < n then .int .u8 ((f (from8 K j.val) : Nat) : Int) else .int .u8 0
theorem turnTo_zero (f : Nat → Nat) (K : Nat) : turnTo f K 0 = #[.int .u8 0, .int .u8 0, .int .u8 0, .int .u8 0, .int .u8 0, .int .u8 0, .int .u8 0, .int .u8 0] := by
  simp [turnTo]; rfl
theorem turnTo_at (f : Nat → Nat) (K i : Nat) (hK : K < 8) (hi : i < 8) : (turnTo f K i)[to8 K i]? = some (.int .u8 0) := by
  have h1 := to8_lt K i
  simp [turnTo, h1, from_to K i hK hi]
theorem turnTo_set (f : Nat → Nat) (K i : Nat) (hK : K < 8) (hi : i < 8) : (turnTo f K i).setIfInBounds (to8 K i) (.int .u8 ((f i : Nat) : Int)) = turnTo f K (i + 1) := by
  apply Array.ext
  · simp [turnTo]
  · intro j h1 h2
    have hj : j < 8 := by simpa [turnTo] using h2
    by_cases e : to8 K i = j
    · subst e; simp [turnTo, from_to K i hK hi]
    · rw [Array.getElem_setIfInBounds_ne (by simp [turnTo]; omega) e]
      simp only [turnTo, Array.getElem_ofFn]
      have hne : from8 K j ≠ i := fun h => e (by rw [← h, to_from K j hK hj])
      by_cases l : from8 K j < i
      · rw [if_pos l, if_pos (by omega)]
      · rw [if_neg l, if_neg (by omega)]
theorem turnTo_full (f : Nat → Nat) (K : Nat) : turnTo f K 8 = byteArr (fun j => f (from8 K j)) := by
  apply Array.ext
  · simp [turnTo, byteArr]
  · intro j h1 h2
    simp only [turnTo, byteArr, Array.getElem_ofFn]
    rw [if_pos (from8_lt K j)]
theorem sum_load (f : Nat → Nat) (hf : ∀ i, f i < 256) : sumTo (loadTo f 8) 8 = f 0 + f 1 + f 2 + f 3 + f 4 + f 5 + f 6 + f 7 := by
  have h := fun i hi => byteOf_load f hf 8 i hi
  simp only [sumTo, h 0 (by decide), h 1 (by decide), h 2 (by decide), h 3 (by decide), h 4 (by decide), h 5 (by decide), h 6 (by decide), h 7 (by decide)]
  omega
theorem sum_turn (f : Nat → Nat) (hf : ∀ i, f i < 256) (K : Nat) (hK : K < 8) : sumTo (loadTo (fun j => f (from8 K j)) 8) 8 = sumTo (loadTo f 8) 8 := by
  rw [sum_load f hf, sum_load _ (fun i => hf _)]
  have h : K = 0 ∨ K = 1 ∨ K = 2 ∨ K = 3 ∨ K = 4 ∨ K = 5 ∨ K = 6 ∨ K = 7 := by omega
  rcases h with rfl | rfl | rfl | rfl | rfl | rfl | rfl | rfl <;> simp [from8] <;> omega
/-- The byte at its new place. -/
theorem byte_turn (f : Nat → Nat) (hf : ∀ i, f i < 256) (K i : Nat) (hK : K < 8) (hi : i < 8) : byteOf (loadTo (fun j => f (from8 K j)) 8) (to8 K i) = f i := by
  rw [byteOf_load _ (fun i => hf _) 8 _ (to8_lt K i), from_to K i hK hi]

theorem kept8 {w0 wx w1 : World} {B : Nat} {v0 v1 v2 v3 v4 v5 v6 v7 : Value}
    (h : (wx.cell? ⟨B, 0, none⟩ = some v0 ∧ wx.cell? ⟨B, 1, none⟩ = some v1 ∧ wx.cell? ⟨B, 2, none⟩ = some v2 ∧ wx.cell? ⟨B, 3, none⟩ = some v3 ∧ wx.cell? ⟨B, 4, none⟩ = some v4 ∧ wx.cell? ⟨B, 5, none⟩ = some v5 ∧ wx.cell? ⟨B, 6, none⟩ = some v6 ∧ wx.cell? ⟨B, 7, none⟩ = some v7) ∧ Below w0.heap.size w0 wx)
    (hb : Below wx.heap.size wx w1) :
    (w1.cell? ⟨B, 0, none⟩ = some v0 ∧ w1.cell? ⟨B, 1, none⟩ = some v1 ∧ w1.cell? ⟨B, 2, none⟩ = some v2 ∧ w1.cell? ⟨B, 3, none⟩ = some v3 ∧ w1.cell? ⟨B, 4, none⟩ = some v4 ∧ w1.cell? ⟨B, 5, none⟩ = some v5 ∧ w1.cell? ⟨B, 6, none⟩ = some v6 ∧ w1.cell? ⟨B, 7, none⟩ = some v7) ∧ Below w0.heap.size w0 w1 := by
  obtain ⟨⟨h0, h1, h2, h3, h4, h5, h6, h7⟩, hw⟩ := h
  have key : ∀ i v, wx.cell? ⟨B, i, none⟩ = some v → w1.cell? ⟨B, i, none⟩ = some v := fun i v hv => by
    rw [hb.cell (p := ⟨B, i, none⟩) (block_lt_of_cell hv)]; exact hv
  exact ⟨⟨key _ _ h0, key _ _ h1, key _ _ h2, key _ _ h3, key _ _ h4, key _ _ h5, key _ _ h6, key _ _ h7⟩, hw.trans (hb.mono hw.size)⟩
theorem bit_of (p : Nat → Bool) (X n : Nat) (hn : n < 8) : (bits BinOp.and IntKind.u8 ((mask8 p X : Nat) : Int) (2 ^ n % 256) != 0) = p (byteOf X n) := by
  have h2 : (2 : Nat) ^ (n + 1) ≤ 2 ^ 8 := Nat.pow_le_pow_right (by decide) (by omega)
  rw [Nat.pow_succ] at h2
  have h0 : 0 < 2 ^ n := Nat.pow_pos (by decide)
  have h3 : ((2 : Int) ^ n) = ((2 ^ n : Nat) : Int) := by simp
  have hm : ((2 ^ n : Nat) : Int) % 256 = ((2 ^ n : Nat) : Int) := by
    generalize 2 ^ n = X at *
    omega
  rw [h3, hm, u8_and_nat _ _ (mask8_lt _ _) (by omega), mask8_bit p X n hn]
  cases p (byteOf X n)
  · rfl
  · rw [if_pos rfl, bne_iff_ne]; omega
theorem same_bit (p : Nat → Bool) (X Y n P : Nat) (hn : n < 8) (hP : P < 8) (h : byteOf Y P = byteOf X n) :
    (bits BinOp.and IntKind.u8 ((mask8 p X : Nat) : Int) (2 ^ n % 256) != 0) = (bits BinOp.and IntKind.u8 ((mask8 p Y : Nat) : Int) (2 ^ P % 256) != 0) := by
  rw [bit_of p X n hn, bit_of p Y P hP, h]
theorem kept16 {w0 wx w1 : World} {B D : Nat} {v0 v1 v2 v3 v4 v5 v6 v7 u0 u1 u2 u3 u4 u5 u6 u7 : Value}
    (h : ((wx.cell? ⟨B, 0, none⟩ = some v0 ∧ wx.cell? ⟨B, 1, none⟩ = some v1 ∧ wx.cell? ⟨B, 2, none⟩ = some v2 ∧ wx.cell? ⟨B, 3, none⟩ = some v3 ∧ wx.cell? ⟨B, 4, none⟩ = some v4 ∧ wx.cell? ⟨B, 5, none⟩ = some v5 ∧ wx.cell? ⟨B, 6, none⟩ = some v6 ∧ wx.cell? ⟨B, 7, none⟩ = some v7) ∧ (wx.cell? ⟨D, 0, none⟩ = some u0 ∧ wx.cell? ⟨D, 1, none⟩ = some u1 ∧ wx.cell? ⟨D, 2, none⟩ = some u2 ∧ wx.cell? ⟨D, 3, none⟩ = some u3 ∧ wx.cell? ⟨D, 4, none⟩ = some u4 ∧ wx.cell? ⟨D, 5, none⟩ = some u5 ∧ wx.cell? ⟨D, 6, none⟩ = some u6 ∧ wx.cell? ⟨D, 7, none⟩ = some u7)) ∧ Below w0.heap.size w0 wx) (hb : Below wx.heap.size wx w1) :
    ((w1.cell? ⟨B, 0, none⟩ = some v0 ∧ w1.cell? ⟨B, 1, none⟩ = some v1 ∧ w1.cell? ⟨B, 2, none⟩ = some v2 ∧ w1.cell? ⟨B, 3, none⟩ = some v3 ∧ w1.cell? ⟨B, 4, none⟩ = some v4 ∧ w1.cell? ⟨B, 5, none⟩ = some v5 ∧ w1.cell? ⟨B, 6, none⟩ = some v6 ∧ w1.cell? ⟨B, 7, none⟩ = some v7) ∧ (w1.cell? ⟨D, 0, none⟩ = some u0 ∧ w1.cell? ⟨D, 1, none⟩ = some u1 ∧ w1.cell? ⟨D, 2, none⟩ = some u2 ∧ w1.cell? ⟨D, 3, none⟩ = some u3 ∧ w1.cell? ⟨D, 4, none⟩ = some u4 ∧ w1.cell? ⟨D, 5, none⟩ = some u5 ∧ w1.cell? ⟨D, 6, none⟩ = some u6 ∧ w1.cell? ⟨D, 7, none⟩ = some u7)) ∧ Below w0.heap.size w0 w1 := by
  obtain ⟨⟨h1, h2⟩, hw⟩ := h
  obtain ⟨k1, hw'⟩ := kept8 ⟨h1, hw⟩ hb
  exact ⟨⟨k1, (kept8 ⟨h2, hw⟩ hb).1⟩, hw'⟩
theorem cell8 {wx : World} {B : Nat} {f : Nat → Nat}
    (h : wx.cell? ⟨B, 0, none⟩ = some (.int .u8 ((f 0 : Nat) : Int)) ∧ wx.cell? ⟨B, 1, none⟩ = some (.int .u8 ((f 1 : Nat) : Int)) ∧ wx.cell? ⟨B, 2, none⟩ = some (.int .u8 ((f 2 : Nat) : Int)) ∧ wx.cell? ⟨B, 3, none⟩ = some (.int .u8 ((f 3 : Nat) : Int)) ∧ wx.cell? ⟨B, 4, none⟩ = some (.int .u8 ((f 4 : Nat) : Int)) ∧ wx.cell? ⟨B, 5, none⟩ = some (.int .u8 ((f 5 : Nat) : Int)) ∧ wx.cell? ⟨B, 6, none⟩ = some (.int .u8 ((f 6 : Nat) : Int)) ∧ wx.cell? ⟨B, 7, none⟩ = some (.int .u8 ((f 7 : Nat) : Int)))
    (i : Nat) (hi : i < 8) : wx.cell? ⟨B, i, none⟩ = some (.int .u8 ((f i : Nat) : Int)) := by
  obtain ⟨h0, h1, h2, h3, h4, h5, h6, h7⟩ := h
  have e : i = 0 ∨ i = 1 ∨ i = 2 ∨ i = 3 ∨ i = 4 ∨ i = 5 ∨ i = 6 ∨ i = 7 := by omega
  rcases e with rfl | rfl | rfl | rfl | rfl | rfl | rfl | rfl <;> assumption
theorem tmod8_hi (k : Int) : k.tmod 8 < 8 := Int.tmod_lt_of_pos k (by decide)
theorem tmod8_lo (k : Int) : -8 < k.tmod 8 := by
  have := Int.tmod_lt_of_pos (-k) (b := 8) (by decide)
  rw [Int.neg_tmod] at this
  omega
end Go.Proofs.Ytnilalgoehphaaa
