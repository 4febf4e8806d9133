/-
  Texts of mine that others lean on, one behind the other.
-/
import Derived.Test.YthakingpeegagaaDoorRows
import Derived.WalkKit
import Derived.WalkSpells
import Derived.WalkLawsBesides
import Derived.BigQuiet
import Derived.Deep.QuietTactic
import Derived.Outline
import Derived.Test.YthakingpeegagaaDoorPack1
import Derived.Lib.MakeNoZero
import Derived.Laws.IdiomCopy
import Derived.Laws.ResultCell
import Derived.Shelf.Spec.TrailingZeros
import Derived.ChangeSlices
import Derived.ChangeSame
import Derived.SizedLaws
/-
  LanesMath, LanesStore.
-/
/-
  Plain facts on the eight bytes of a word: no program, no memory.
-/
namespace Go.Proofs.YthakingpeegagaaDoor

/-- The byte i of the word W. -/
def byteOf (W i : Nat) : Nat := W / 256 ^ i % 256
/-- What is left of W when i bytes are gone. -/
def upper (W i : Nat) : Nat := W / 256 ^ i
/-- The first n bytes added up. -/
def sumTo (W : Nat) : Nat → Nat
  | 0 => 0
  | n + 1 => sumTo W n + byteOf W n

theorem upper_zero (W : Nat) : upper W 0 = W := by simp [upper]
theorem upper_succ (W i : Nat) : upper W (i + 1) = upper W i / 256 := by simp [upper, Nat.pow_succ, Nat.div_div_eq_div_mul]
theorem upper_le (W i : Nat) : upper W i ≤ W := Nat.div_le_self _ _
theorem byteOf_lt (W i : Nat) : byteOf W i < 256 := Nat.mod_lt _ (by decide)
theorem byteOf_upper (W i : Nat) : byteOf W i = upper W i % 256 := rfl
theorem sumTo_le (W n : Nat) : sumTo W n ≤ 255 * n := by
  induction n with
  | zero => simp [sumTo]
  | succ n ih => have := byteOf_lt W n; simp only [sumTo]; omega
theorem shift_byte (W k : Nat) : W / 2 ^ (8 * k) % 256 = byteOf W k := by
  unfold byteOf
  rw [show (256 : Nat) = 2 ^ 8 from rfl, ← Nat.pow_mul]

/-- The word of the first n of some bytes. -/
def loadTo (f : Nat → Nat) : Nat → Nat
  | 0 => 0
  | n + 1 => loadTo f n + f n * 256 ^ n
/-- The word of the bytes from n on, as it is made from the highest one down, k of them. -/
def hornTo (f : Nat → Nat) (n : Nat) : Nat → Nat
  | 0 => 0
  | k + 1 => hornTo f n k * 256 + f (n - 1 - k)

theorem loadTo_succ (f : Nat → Nat) (n : Nat) : loadTo f (n + 1) = loadTo f n + f n * 256 ^ n := rfl
theorem loadTo_lt (f : Nat → Nat) (hf : ∀ i, f i < 256) (n : Nat) : loadTo f n < 256 ^ n := by
  induction n with
  | zero => simp [loadTo]
  | succ n ih =>
    have h := hf n
    have h2 : f n * 256 ^ n ≤ 255 * 256 ^ n := Nat.mul_le_mul_right _ (by omega)
    rw [loadTo_succ, Nat.pow_succ]
    omega
/-- Putting the next byte in its place by or. -/
theorem loadTo_or (f : Nat → Nat) (hf : ∀ i, f i < 256) (n : Nat) : loadTo f n ||| f n * 2 ^ (8 * n) = loadTo f (n + 1) := by
  have h := loadTo_lt f hf n
  have e : (256 : Nat) ^ n = 2 ^ (8 * n) := by rw [Nat.pow_mul]
  rw [e] at h
  rw [loadTo_succ, e, Nat.add_comm (loadTo f n), ← Nat.shiftLeft_eq, Nat.shiftLeft_add_eq_or_of_lt h, Nat.or_comm]
theorem hornTo_succ (f : Nat → Nat) (n k : Nat) : hornTo f n (k + 1) = hornTo f n k * 256 + f (n - 1 - k) := rfl
theorem horn_load (f : Nat → Nat) (n k : Nat) (hk : k ≤ n) : hornTo f n k * 256 ^ (n - k) + loadTo f (n - k) = loadTo f n := by
  induction k with
  | zero => simp [hornTo]
  | succ k ih =>
    have ih := ih (by omega)
    have e : n - k = (n - (k + 1)) + 1 := by omega
    rw [e, loadTo_succ, Nat.pow_succ] at ih
    rw [hornTo_succ, show n - 1 - k = n - (k + 1) by omega, Nat.add_mul, Nat.mul_assoc]
    rw [Nat.mul_comm 256 (256 ^ (n - (k + 1)))]
    omega
theorem horn_full (f : Nat → Nat) (n : Nat) : hornTo f n n = loadTo f n := by
  have := horn_load f n n (Nat.le_refl _)
  simpa [loadTo] using this
theorem hornTo_lt (f : Nat → Nat) (hf : ∀ i, f i < 256) (n k : Nat) : hornTo f n k < 256 ^ k := by
  induction k with
  | zero => simp [hornTo]
  | succ k ih => have := hf (n - 1 - k); rw [hornTo_succ, Nat.pow_succ]; omega
/-- The byte i of a loaded word is the byte i. -/
theorem byteOf_load (f : Nat → Nat) (hf : ∀ i, f i < 256) (n i : Nat) (hi : i < n) : byteOf (loadTo f n) i = f i := by
  induction n with
  | zero => omega
  | succ n ih =>
    unfold byteOf
    rw [loadTo_succ]
    by_cases e : i = n
    · subst e
      rw [Nat.add_mul_div_right _ _ (Nat.pow_pos (by decide)), Nat.div_eq_of_lt (loadTo_lt f hf i), Nat.zero_add, Nat.mod_eq_of_lt (hf i)]
    · obtain ⟨j, rfl⟩ : ∃ j, n = i + 1 + j := ⟨n - i - 1, by omega⟩
      rw [show f (i + 1 + j) * 256 ^ (i + 1 + j) = (f (i + 1 + j) * 256 ^ j * 256) * 256 ^ i by
        rw [Nat.pow_add, Nat.pow_add]; simp [Nat.mul_assoc, Nat.mul_comm, Nat.mul_left_comm]]
      rw [Nat.add_mul_div_right _ _ (Nat.pow_pos (by decide)), Nat.add_mul_mod_self_right]
      exact ih (by omega)
theorem load_step (W n : Nat) : W % 256 ^ n + byteOf W n * 256 ^ n = W % 256 ^ (n + 1) := by
  unfold byteOf
  rw [Nat.pow_succ, Nat.mod_mul, Nat.mul_comm (256 ^ n)]
/-- The bytes of a word, loaded, are the word. -/
theorem load_byteOf (W n : Nat) : loadTo (byteOf W) n = W % 256 ^ n := by
  induction n with
  | zero => simp [loadTo, Nat.mod_one]
  | succ n ih => rw [loadTo_succ, ih, load_step]
theorem load_store (W : Nat) (h : W < 18446744073709551616) : loadTo (byteOf W) 8 = W := by
  rw [load_byteOf, Nat.mod_eq_of_lt h]
theorem loadTo_congr (f g : Nat → Nat) (n : Nat) (h : ∀ i, i < n → f i = g i) : loadTo f n = loadTo g n := by
  induction n with
  | zero => rfl
  | succ n ih => rw [loadTo_succ, loadTo_succ, ih (fun i hi => h i (by omega)), h n (by omega)]
end Go.Proofs.YthakingpeegagaaDoor

/-
  What lanes.Store answers: the bytes of a word.
-/
namespace Go.Proofs.YthakingpeegagaaDoor
open Go.RowKit

/-- Eight cells of a byte array, of which the first k hold the bytes of W. -/
def rowTo (W k : Nat) : Array Value := Array.ofFn (n := 8) fun j => if j.val < k then .int .u8 ((byteOf W j.val : Nat) : Int) else .int .u8 0
/-- Eight cells that hold the bytes f 0 to f 7. -/
def byteArr (f : Nat → Nat) : Array Value := Array.ofFn (n := 8) fun j => .int .u8 ((f j.val : Nat) : Int)
theorem byteArr_at (f : Nat → Nat) (k : Nat) (h : k < 8) : (byteArr f)[k]? = some (.int .u8 ((f k : Nat) : Int)) := by
  simp [byteArr, h]

theorem rowTo_zero (W : Nat) : rowTo W 0 = #[.int .u8 0, .int .u8 0, .int .u8 0, .int .u8 0, .int .u8 0, .int .u8 0, .int .u8 0, .int .u8 0] := by
  simp [rowTo]; rfl

theorem rowTo_at (W k : Nat) (h : k < 8) : (rowTo W k)[k]? = some (.int .u8 0) := by
  simp [rowTo, h]
theorem rowTo_set (W k : Nat) : (rowTo W k).setIfInBounds k (.int .u8 ((byteOf W k : Nat) : Int)) = rowTo W (k + 1) := by
  apply Array.ext
  · simp [rowTo]
  · intro i h1 h2
    have hi : i < 8 := by simpa [rowTo] using h2
    by_cases e : k = i
    · subst e; simp [rowTo]
    · rw [Array.getElem_setIfInBounds_ne (by simp [rowTo]; omega) e]
      simp only [rowTo, Array.getElem_ofFn]
      by_cases l : i < k
      · rw [if_pos l, if_pos (by omega)]
      · rw [if_neg l, if_neg (by omega)]
theorem byteArr_full (W : Nat) : rowTo W 8 = byteArr (byteOf W) := rfl
theorem rowTo_full (W : Nat) : rowTo W 8 = #[.int .u8 ((byteOf W 0 : Nat) : Int), .int .u8 ((byteOf W 1 : Nat) : Int), .int .u8 ((byteOf W 2 : Nat) : Int), .int .u8 ((byteOf W 3 : Nat) : Int), .int .u8 ((byteOf W 4 : Nat) : Int), .int .u8 ((byteOf W 5 : Nat) : Int), .int .u8 ((byteOf W 6 : Nat) : Int), .int .u8 ((byteOf W 7 : Nat) : Int)] := by
  rfl

theorem setCell_drewN (w : World) (n : Nat) (a : Addr) (v : Value) : (w.drewN n).setCell a v = (w.setCell a v).drewN n := rfl
theorem shift_int (W k : Nat) : (W : Int) / 2 ^ (8 * k) % 256 = ((byteOf W k : Nat) : Int) := by
  rw [← shift_byte]; simp

set_option maxRecDepth 100000 in
set_option maxHeartbeats 400000 in
theorem store_calls (x : Int) (w : World) (hx : 0 ≤ x) (hx' : x < 18446744073709551616) :
    Calls Tryd.prog 71 #[.int .u64 x] w fun e w' => e = .returned (.agg (byteArr (byteOf x.toNat))) ∧ Below w.heap.size w w' := by
  obtain ⟨W, rfl⟩ := Int.eq_ofNat_of_zero_le hx
  go_enter Tryd.func71, Tryd.ntmps71
  go_wp2
  go_loopw [6] (fun i wr => ∃ k nq : Nat, k ≤ 8 ∧ i = .int .i64 k ∧ wr = ((w.alloc (.cells #[.int .u8 0, .int .u8 0, .int .u8 0, .int .u8 0, .int .u8 0, .int .u8 0, .int .u8 0, .int .u8 0] 92)).alloc (.cells (rowTo W k) 92)).drewN nq) (fun i _ => 8 - (intOf i).toNat)
  case atStart => exact ⟨0, 0, by omega, rfl, by rw [rowTo_zero]; rfl⟩
  case round =>
    obtain ⟨k, nq, hk, rfl, rfl⟩ := hrel
    by_cases hlt : k < 8
    · have hk8 : (k : Int) < 8 := by omega
      have hc : (rowTo W k)[k]? = some (.int .u8 0) := rowTo_at W k hlt
      go_wp2
      go_region
      go_wp2
      go_roundw
      case rel =>
        refine ⟨k + 1, nq + 1, by omega, by go_num, ?_⟩
        rw [setCell_drewN, World.setCell_alloc_at _ _ _ _ _ (by simp), shift_int, rowTo_set W k]
      case measure => simp [intOf]; omega
    · have hk' : k = 8 := by omega
      subst hk'
      rw [rowTo_full]
      go_wp2
      refine bodyPost_ret (v := .agg (byteArr (byteOf W))) (by rw [← byteArr_full, rowTo_full]; simp [results, Tryd.results71, go_sem]) rfl ⟨by simp, ?_⟩
      repeat (first | with_reducible exact Below.refl _ _ | with_reducible refine Below.setCell ?_ (by simp) _ | with_reducible refine below_drewN ?_ _ | with_reducible refine Below.alloc ?_ (by simp) _ | with_reducible refine Below.drew ?_)
end Go.Proofs.YthakingpeegagaaDoor

/-
  LanesLoadOnly, LanesEqualOnly.
-/
/-
  What lanes.Load answers.
-/
namespace Go.Proofs.YthakingpeegagaaDoor
open Go.RowKit

theorem pow8_le (k : Nat) (h : k ≤ 8) : (256 : Nat) ^ k ≤ 18446744073709551616 := by
  have : (256 : Nat) ^ k ≤ 256 ^ 8 := Nat.pow_le_pow_right (by decide) h
  simpa using this
theorem load_or_int (f : Nat → Nat) (hf : ∀ i, f i < 256) (k : Nat) (h : k < 8) :
    bits BinOp.or IntKind.u64 ((loadTo f k : Nat) : Int) (IntKind.u64.wrap (((f k : Nat) : Int) * 2 ^ (8 * k))) = ((loadTo f (k + 1) : Nat) : Int) := by
  have e : ((f k : Nat) : Int) * 2 ^ (8 * k) = ((f k * 2 ^ (8 * k) : Nat) : Int) := by simp
  have p1 := pow8_le (k + 1) (by omega)
  have e2 : (2 : Nat) ^ (8 * k) = 256 ^ k := by rw [Nat.pow_mul]
  have p2 : f k * 2 ^ (8 * k) < 18446744073709551616 := by
    have h1 := hf k
    have h2 : f k * 256 ^ k ≤ 255 * 256 ^ k := Nat.mul_le_mul_right _ (by omega)
    have h3 : 0 < 256 ^ k := Nat.pow_pos (by decide)
    rw [e2]
    rw [Nat.pow_succ] at p1
    omega
  have p3 := loadTo_lt f hf k
  have p4 := pow8_le k (by omega)
  have hm : (((f k * 2 ^ (8 * k) : Nat) : Int)) % 18446744073709551616 = ((f k * 2 ^ (8 * k) : Nat) : Int) := by
    generalize f k * 2 ^ (8 * k) = X at p2
    omega
  rw [e, IntKind.wrap_u64, hm, u64_or_nat _ _ (by omega) p2, loadTo_or f hf k]

set_option maxRecDepth 100000 in
set_option maxHeartbeats 400000 in
theorem load_nat (f : Nat → Nat) (hf : ∀ i, f i < 256) (S : Nat) (w : World) (HS : Hid (loadTo f 8 = S)) :
    Calls Tryd.prog 46 #[.agg (byteArr f)] w fun e w' => e = .returned (.int .u64 (S : Int)) ∧ Below w.heap.size w w' := by
  go_enter Tryd.func46, Tryd.ntmps46
  go_wp2
  go_loopw [3, 6] (fun x i wr => ∃ k nq : Nat, k ≤ 8 ∧ i = .int .i64 k ∧ x = .int .u64 ((loadTo f k : Nat) : Int) ∧ wr = (w.alloc (.cells (byteArr f) 92)).drewN nq) (fun _ i _ => 8 - (intOf i).toNat)
  case atStart => exact ⟨0, 0, by omega, rfl, rfl, rfl⟩
  case round =>
    obtain ⟨k, nq, hk, rfl, rfl, rfl⟩ := hrel
    by_cases hlt : k < 8
    · have hk8 : (k : Int) < 8 := by omega
      have hc := byteArr_at f k hlt
      have hfk := hf k
      go_wp2
      go_region
      go_wp2
      refine ⟨⟨k + 1, nq + 1, by omega, by go_num, by rw [load_or_int f hf k hlt], rfl⟩, by simp [intOf]; omega⟩
    · have hk' : k = 8 := by omega
      subst hk'
      go_wp2
      go_ret
      exact ⟨by rw [HS.out]; rfl, below_drewN ((Below.refl _ _).alloc (Nat.le_refl _) _) _⟩

theorem load_calls (f : Nat → Nat) (hf : ∀ i, f i < 256) (w : World) :
    Calls Tryd.prog 46 #[.agg (byteArr f)] w fun e w' => e = .returned (.int .u64 ((loadTo f 8 : Nat) : Int)) ∧ Below w.heap.size w w' := load_nat f hf _ w rfl
end Go.Proofs.YthakingpeegagaaDoor

/-
  What lanes.which answers, and with it Equal.
-/
namespace Go.Proofs.YthakingpeegagaaDoor
open Go.RowKit

/-- The word of bits of which the first n say whether p holds of the bytes of W. -/
def maskTo (p : Nat → Bool) (W : Nat) : Nat → Nat
  | 0 => 0
  | n + 1 => maskTo p W n + if p (byteOf W n) then 2 ^ n else 0
theorem maskTo_succ (p : Nat → Bool) (W n : Nat) : maskTo p W (n + 1) = maskTo p W n + if p (byteOf W n) then 2 ^ n else 0 := rfl
theorem maskTo_lt (p : Nat → Bool) (W n : Nat) : maskTo p W n < 2 ^ n := by
  induction n with
  | zero => simp [maskTo]
  | succ n ih => rw [maskTo_succ, Nat.pow_succ]; split <;> omega
theorem maskTo_or (p : Nat → Bool) (W n : Nat) (hp : p (byteOf W n) = true) : maskTo p W n ||| 2 ^ n = maskTo p W (n + 1) := by
  have h := maskTo_lt p W n
  rw [maskTo_succ, hp, if_pos rfl, Nat.add_comm (maskTo p W n)]
  have := Nat.shiftLeft_add_eq_or_of_lt h 1
  rw [Nat.shiftLeft_eq, Nat.one_mul] at this
  rw [this, Nat.or_comm]
theorem maskTo_off (p : Nat → Bool) (W n : Nat) (hp : p (byteOf W n) = false) : maskTo p W (n + 1) = maskTo p W n := by
  rw [maskTo_succ, hp]; simp
theorem mask_or_int (p : Nat → Bool) (W k : Nat) (h : k < 8) (hp : p (byteOf W k) = true) :
    bits BinOp.or IntKind.u8 ((maskTo p W k : Nat) : Int) (2 ^ k % 256) = ((maskTo p W (k + 1) : Nat) : Int) := by
  have h1 := maskTo_lt p W k
  have h2 : (2 : Nat) ^ (k + 1) ≤ 2 ^ 8 := Nat.pow_le_pow_right (by decide) (by omega)
  rw [Nat.pow_succ] at h2
  have h3 : ((2 : Int) ^ k) = ((2 ^ k : Nat) : Int) := by simp
  have hm : ((2 ^ k : Nat) : Int) % 256 = ((2 ^ k : Nat) : Int) := by
    generalize 2 ^ k = X at *
    omega
  rw [h3, hm, u8_or_nat _ _ (by omega) (by omega), maskTo_or p W k hp]

set_option maxRecDepth 100000 in
set_option maxHeartbeats 1000000 in
theorem which_nat (g : Nat) (cap : Array Value) (p : Nat → Bool) (W M : Nat) (HM : Hid (maskTo p W 8 = M)) (hW : W < 18446744073709551616) (w : World)
    (he : ∀ (args : Array Value) (w : World), (callFunc g args).run Tryd.prog w = .ok (.enter g args) w)
    (Hp : Hid (∀ (x : Nat) (wx : World), x < 256 → Below w.heap.size w wx → Calls Tryd.prog g (#[.int .u8 (x : Int)] ++ cap) wx fun e w' => e = .returned (.bool (p x)) ∧ w' = wx)) :
    Calls Tryd.prog 60 #[.int .u64 W, .func (.func g) #[] cap] w fun e w' => e = .returned (.int .u8 M) ∧ Below w.heap.size w w' := by
  go_enter Tryd.func60, Tryd.ntmps60
  go_wp2_with (go_at_call 71; refine (store_calls _ _ (by omega) (by omega)).mono ?_; rintro e w1 ⟨rfl, hb1⟩; rw [← byteArr_full, rowTo_full])
  rw [← rowTo_full, byteArr_full]
  go_loopw [6, 11] (fun x i wr => ∃ k nq : Nat, k ≤ 8 ∧ i = .int .i64 k ∧ x = .int .u8 ((maskTo p W k : Nat) : Int) ∧ wr = (w1.alloc (.cells (byteArr (byteOf W)) 92)).drewN nq) (fun _ i _ => 8 - (intOf i).toNat)
  case atStart => exact ⟨0, 0, by omega, rfl, rfl, rfl⟩
  case round =>
    obtain ⟨k, nq, hk, rfl, rfl, rfl⟩ := hrel
    by_cases hlt : k < 8
    · have hk8 : (k : Int) < 8 := by omega
      have hc := byteArr_at (byteOf W) k hlt
      have hfk := byteOf_lt W k
      go_wp2
      go_region
      go_wp2_with fail
      refine (Hp.out (byteOf W k) _ hfk (below_drewN (hb1.alloc hb1.size _) _)).mono ?_
      rintro e w2 ⟨rfl, rfl⟩
      cases hpk : p (byteOf W k)
      · go_wp2
        go_roundw
        case rel => exact ⟨k + 1, nq + 1, by omega, by go_num, by rw [maskTo_off p W k hpk], rfl⟩
        case measure => simp [intOf]; omega
      · go_wp2
        exact ⟨⟨k + 1, nq + 1, by omega, by go_num, by rw [mask_or_int p W k hlt hpk], rfl⟩, by simp [intOf]; omega⟩
    · have hk' : k = 8 := by omega
      subst hk'
      go_wp2
      go_ret
      exact ⟨by rw [HM.out]; rfl, below_drewN (hb1.alloc hb1.size _) _⟩

/-- The eight answers of p about the bytes of W. -/
def mask8 (p : Nat → Bool) (W : Nat) : Nat := maskTo p W 8

/-- The byte x as a signed number. -/
def sgn (x : Nat) : Int := if x < 128 then (x : Int) else (x : Int) - 256
def isB (c x : Nat) : Bool := decide (x = c)
theorem ret_bool {a b : Bool} (h : a = b) : Ending.returned (.bool a) = .returned (.bool b) := by rw [h]

theorem equal1_calls (b c x : Nat) (w : World) (hc : w.cell? ⟨b, 0, none⟩ = some (.int .u8 (c : Int))) :
    Calls Tryd.prog 61 #[.int .u8 (x : Int), .pointer (some ⟨b, 0, none⟩)] w fun e w' => e = .returned (.bool (isB c x)) ∧ w' = w := by
  go_enter Tryd.func61, Tryd.ntmps61
  go_wp2
  go_ret
  exact ⟨ret_bool (by rw [Bool.eq_iff_iff]; simp [isB]; omega), rfl⟩
theorem enter_eq : ∀ (args : Array Value) (w : World), (callFunc 61 args).run Tryd.prog w = .ok (.enter 61 args) w := fun _ _ => by kernel_rfl
/-- A cell of a block that the call has just made is still there in a later world. -/
theorem later_cell {w wx : World} {c : Array Value} {t : TypeId} (i : Nat) {v : Value} (h : c[i]? = some v) (hb : Below (w.alloc (.cells c t)).heap.size (w.alloc (.cells c t)) wx) : wx.cell? ⟨w.heap.size, i, none⟩ = some v := by
  rw [hb.cell (p := ⟨w.heap.size, i, none⟩) (by simp), World.cell?_alloc_at _ _ _ _ rfl]; exact h

set_option maxRecDepth 100000 in
set_option maxHeartbeats 400000 in
theorem equal_calls (x c : Int) (w : World) (hx : 0 ≤ x) (hx' : x < 18446744073709551616) (hc : 0 ≤ c) :
    Calls Tryd.prog 47 #[.int .u64 x, .int .u8 c] w fun e w' => e = .returned (.int .u8 ((mask8 (isB c.toNat) x.toNat : Nat) : Int)) ∧ Below w.heap.size w w' := by
  obtain ⟨W, rfl⟩ := Int.eq_ofNat_of_zero_le hx
  obtain ⟨C, rfl⟩ := Int.eq_ofNat_of_zero_le hc
  have hmf : ∀ (fn : Fn) (first cap : Array Value) (w : World), (Instr.makeFunc fn first cap).run Tryd.prog w = .ok (.func fn first cap) w := fun _ _ _ _ => rfl
  go_enter Tryd.func47, Tryd.ntmps47
  go_wp2_with fail
  refine (which_nat 61 #[.pointer (some ⟨w.heap.size, 0, none⟩)] (isB C) W _ rfl (by omega) _ enter_eq (fun x wx _ hb => equal1_calls _ C x wx (later_cell 0 rfl hb))).mono ?_
  rintro e w1 ⟨rfl, hb1⟩
  go_wp2
  go_ret
  exact ⟨rfl, ((Below.refl _ _).alloc (Nat.le_refl _) _).trans (hb1.mono (by simp))⟩

end Go.Proofs.YthakingpeegagaaDoor

/-
  BlockMask, BlockEqual, BlockCut, BlockCut2, BlockAwake, BlockSeq, BlockSeqK.
-/
/-
  What block.Mask and block.Equal answer.
-/
namespace Go.Proofs.YthakingpeegagaaDoor
open Go.RowKit

/-- 64 cells that hold the bytes f 0 to f 63. -/
def arr64 (f : Nat → Nat) : Array Value := Array.ofFn (n := 64) fun j => .int .u8 ((f j.val : Nat) : Int)
theorem arr64_at (f : Nat → Nat) (k : Nat) (h : k < 64) : (arr64 f)[k]? = some (.int .u8 ((f k : Nat) : Int)) := by
  simp [arr64, h]
theorem arr64_size (f : Nat → Nat) : (arr64 f).size = 64 := by simp [arr64]
theorem arr64_congr {f g : Nat → Nat} (h : ∀ j, j < 64 → f j = g j) : arr64 f = arr64 g := by
  unfold arr64
  congr 1
  funext j
  rw [h j.val j.isLt]

theorem arr64_list (f : Nat → Nat) : ∃ L : List Value, L.toArray = arr64 f ∧ L.length = 64 := ⟨(arr64 f).toList, by simp, by simp [arr64]⟩
theorem arr64_one (f : Nat → Nat) {L : List Value} (hL : L.toArray = arr64 f) : ∀ v ∈ L, v.oneCell' = true := by
  intro v hv
  have h1 : v ∈ arr64 f := by rw [← hL]; simpa using hv
  obtain ⟨j, rfl⟩ := (Array.mem_ofFn.1 h1)
  rfl
theorem info64 : (Tryd.prog.info? 57).map (·.size) = some 64 := by kernel_rfl

theorem pow_shift (B k : Nat) (hk : k < 64) (hB : B < 2) : IntKind.u64.wrap (((B : Nat) : Int) * 2 ^ k) = ((B * 2 ^ k : Nat) : Int) := by
  have e : ((B : Nat) : Int) * 2 ^ k = ((B * 2 ^ k : Nat) : Int) := by simp
  have h : B * 2 ^ k < 18446744073709551616 := by
    have h1 : (2 : Nat) ^ k < 2 ^ 64 := Nat.pow_lt_pow_right (by decide) hk
    have h2 : B * 2 ^ k ≤ 1 * 2 ^ k := Nat.mul_le_mul_right _ (by omega)
    have h3 : (2 : Nat) ^ 64 = 18446744073709551616 := by decide
    omega
  rw [e, IntKind.wrap_u64]
  generalize B * 2 ^ k = X at *
  omega
theorem mk_step (q : Nat → Bool) (k : Nat) (hk : k < 64) : bits BinOp.or IntKind.u64 ((mk q k : Nat) : Int) (IntKind.u64.wrap (((if q k then 1 else 0 : Nat) : Int) * 2 ^ k)) = ((mk q (k + 1) : Nat) : Int) := by
  rw [pow_shift _ k hk (by split <;> omega), u64_or_nat _ _ (mk_lt64 q k (by omega)) ?_, mk_succ]
  · congr 2
    split <;> simp
  · have h1 : (2 : Nat) ^ k < 2 ^ 64 := Nat.pow_lt_pow_right (by decide) hk
    split <;> omega
theorem bit_nat' (W i : Nat) (hW : W < 18446744073709551616) : bits BinOp.and IntKind.u64 ((W : Int) / 2 ^ i) 1 = ((if W.testBit i then 1 else 0 : Nat) : Int) := by
  have e : (W : Int) / 2 ^ i = ((W / 2 ^ i : Nat) : Int) := by simp
  have hl : W / 2 ^ i < 18446744073709551616 := Nat.lt_of_le_of_lt (Nat.div_le_self _ _) hW
  rw [e, show (1 : Int) = ((1 : Nat) : Int) from rfl, u64_and_nat _ _ hl (by decide), Nat.and_one_is_mod]
  congr 1
  rw [Nat.testBit_eq_decide_div_mod_eq]
  have := Nat.mod_two_eq_zero_or_one (W / 2 ^ i)
  by_cases h : W / 2 ^ i % 2 = 1
  · simp [h]
  · simp [h]; omega

end Go.Proofs.YthakingpeegagaaDoor

/-
  What block.Equal answers.
-/
namespace Go.Proofs.YthakingpeegagaaDoor
open Go.RowKit

theorem maskTo_mk (p : Nat → Bool) (W n : Nat) : maskTo p W n = mk (fun i => p (byteOf W i)) n := by
  induction n with
  | zero => rfl
  | succ n ih =>
    rw [mk_succ, ← ih]
    cases hp : p (byteOf W n)
    · rw [maskTo_off p W n hp]; simp
    · rw [← maskTo_or p W n hp]; simp
theorem mk_append (q : Nat → Bool) (a b : Nat) : mk q a ||| mk (fun i => q (a + i)) b * 2 ^ a = mk q (a + b) := by
  apply Nat.eq_of_testBit_eq
  intro i
  rw [Nat.testBit_or, mk_bit, mk_bit, Nat.testBit_mul_two_pow, mk_bit]
  by_cases h : i < a
  · have h1 : ¬ a ≤ i := by omega
    have h2 : i < a + b := by omega
    simp [h, h1, h2]
  · have h1 : a ≤ i := by omega
    have h2 : a + (i - a) = i := by omega
    by_cases h3 : i < a + b
    · have h4 : i - a < b := by omega
      simp [h, h1, h2, h3, h4]
    · have h4 : ¬ i - a < b := by omega
      simp [h, h3, h4]
/-- Eight answers of lanes.Equal, put in their place. -/
theorem equal_step (f : Nat → Nat) (hf : ∀ i, f i < 256) (x a : Nat) (ha : a + 8 ≤ 64) :
    bits BinOp.or IntKind.u64 ((mk (fun i => isB x (f i)) a : Nat) : Int) (IntKind.u64.wrap (((mask8 (isB x) (loadTo (fun j => f (a + j)) 8) : Nat) : Int) * 2 ^ a)) = ((mk (fun i => isB x (f i)) (a + 8) : Nat) : Int) := by
  have e1 : mask8 (isB x) (loadTo (fun j => f (a + j)) 8) = mk (fun i => (fun i => isB x (f i)) (a + i)) 8 := by
    unfold mask8
    rw [maskTo_mk]
    refine mk_congr _ _ 8 fun i hi => ?_
    rw [byteOf_load (fun j => f (a + j)) (fun j => hf _) 8 i hi]
  rw [e1]
  have hl := mk_lt (fun i => (fun i => isB x (f i)) (a + i)) 8
  generalize hM : mk (fun i => (fun i => isB x (f i)) (a + i)) 8 = M at hl
  have h2 : M * 2 ^ a < 18446744073709551616 := by
    have h1 : M * 2 ^ a < 2 ^ 8 * 2 ^ a := Nat.mul_lt_mul_of_pos_right hl (Nat.pow_pos (by decide))
    rw [← Nat.pow_add] at h1
    have h3 : (2 : Nat) ^ (8 + a) ≤ 2 ^ 64 := Nat.pow_le_pow_right (by decide) (by omega)
    have h4 : (2 : Nat) ^ 64 = 18446744073709551616 := by decide
    omega
  have e2 : IntKind.u64.wrap (((M : Nat) : Int) * 2 ^ a) = ((M * 2 ^ a : Nat) : Int) := by
    have e : ((M : Nat) : Int) * 2 ^ a = ((M * 2 ^ a : Nat) : Int) := by simp
    rw [e, IntKind.wrap_u64]
    generalize M * 2 ^ a = X at *
    omega
  rw [e2, u64_or_nat _ _ (mk_lt64 _ _ (by omega)) h2, ← hM, mk_append]
theorem byteArr_lit8 (f : Nat → Nat) (a : Nat) : #[.int .u8 ((f a : Nat) : Int), .int .u8 ((f (a + 1) : Nat) : Int), .int .u8 ((f (a + 2) : Nat) : Int), .int .u8 ((f (a + 3) : Nat) : Int), .int .u8 ((f (a + 4) : Nat) : Int), .int .u8 ((f (a + 5) : Nat) : Int), .int .u8 ((f (a + 6) : Nat) : Int), .int .u8 ((f (a + 7) : Nat) : Int)] = byteArr (fun j => f (a + j)) := rfl
theorem load_lt (f : Nat → Nat) (hf : ∀ i, f i < 256) : loadTo f 8 < 18446744073709551616 := by
  have h := loadTo_lt f hf 8
  have e : (256 : Nat) ^ 8 = 18446744073709551616 := by decide
  omega

theorem slice64 (b a : Nat) (ha : a + 8 ≤ 64) (w : World) : (Instr.sliceAt 57 (.pointer (some ⟨b, 0, none⟩)) (some (.int .i64 (a : Int))) (some (.int .i64 ((a : Int) + 8))) none).run Tryd.prog w = .ok (.slice (some ⟨b, a, none⟩) 8 (64 - a)) w := by
  have hl : Tryd.prog.arrayLen 57 = 64 := by kernel_rfl
  have hs : (sizeOf (Tryd.prog.elem 57)).run Tryd.prog w = .ok 1 w := by kernel_rfl
  rw [run_sliceAt_array_lh w _ _ (by kernel_rfl) _ _ _ _ (by omega) (by omega) (by rw [hl]; omega), hs, hl]
  have e1 : ((a : Int)).toNat = a := by omega
  have e2 : ((a : Int) + 8).toNat = a + 8 := by omega
  rw [Result.andThen_ok, e1, e2, slicedAt, if_neg (by omega), Nat.add_sub_cancel_left]
  simp only [Addr.add, Nat.mul_one, Nat.zero_add]
  split
  · rename_i h; rw [h]
  · rfl
theorem arrayAt8 (b a n : Nat) (w : World) : (Instr.arrayAt 92 (.slice (some ⟨b, a, none⟩) 8 n)).run Tryd.prog w = .ok (.pointer (some ⟨b, a, none⟩)) w := by
  simp [Instr.arrayAt, run_underlying Tryd.underlying92]

set_option maxRecDepth 100000 in
set_option maxHeartbeats 1000000 in
theorem equal_nat (f : Nat → Nat) (hf : ∀ i, f i < 256) (x : Nat) (hx : x < 256) (M : Nat) (HM : Hid (mk (fun i => isB x (f i)) 64 = M)) (w : World) :
    Calls Tryd.prog 28 #[.agg (arr64 f), .int .u8 (x : Int)] w fun e w' => e = .returned (.int .u64 (M : Int)) ∧ Below w.heap.size w w' := by
  go_enter Tryd.func28, Tryd.ntmps28
  go_wp2
  go_loopw [5, 6] (fun r i wr => ∃ a : Nat, a % 8 = 0 ∧ a ≤ 64 ∧ i = .int .i64 a ∧ r = .int .u64 ((mk (fun i => isB x (f i)) a : Nat) : Int) ∧ At wr w.heap.size (arr64 f) 57 ∧ Below w.heap.size w wr) (fun _ i _ => 64 - (intOf i).toNat)
  case atStart => exact ⟨0, rfl, by omega, rfl, rfl, At.new _ _ _, (Below.refl _ _).alloc (Nat.le_refl _) _⟩
  case round =>
    obtain ⟨a, hak, ha, rfl, rfl, hA, hBel⟩ := hrel
    by_cases hlt : a < 64
    · have hk8 : (a : Int) < 64 := by omega
      have ha8 : a + 8 ≤ 64 := by omega
      have hz8 : (a : Int) + 8 ≤ 64 := by omega
      have c0 : wr.cell? ⟨w.heap.size, a, none⟩ = some (.int .u8 ((f a : Nat) : Int)) := (hA.cell _).trans (arr64_at f _ (by omega))
      have c1 : wr.cell? ⟨w.heap.size, a + 1, none⟩ = some (.int .u8 ((f (a + 1) : Nat) : Int)) := (hA.cell _).trans (arr64_at f _ (by omega))
      have c2 : wr.cell? ⟨w.heap.size, a + 2, none⟩ = some (.int .u8 ((f (a + 2) : Nat) : Int)) := (hA.cell _).trans (arr64_at f _ (by omega))
      have c3 : wr.cell? ⟨w.heap.size, a + 3, none⟩ = some (.int .u8 ((f (a + 3) : Nat) : Int)) := (hA.cell _).trans (arr64_at f _ (by omega))
      have c4 : wr.cell? ⟨w.heap.size, a + 4, none⟩ = some (.int .u8 ((f (a + 4) : Nat) : Int)) := (hA.cell _).trans (arr64_at f _ (by omega))
      have c5 : wr.cell? ⟨w.heap.size, a + 5, none⟩ = some (.int .u8 ((f (a + 5) : Nat) : Int)) := (hA.cell _).trans (arr64_at f _ (by omega))
      have c6 : wr.cell? ⟨w.heap.size, a + 6, none⟩ = some (.int .u8 ((f (a + 6) : Nat) : Int)) := (hA.cell _).trans (arr64_at f _ (by omega))
      have c7 : wr.cell? ⟨w.heap.size, a + 7, none⟩ = some (.int .u8 ((f (a + 7) : Nat) : Int)) := (hA.cell _).trans (arr64_at f _ (by omega))
      have hsl := slice64 w.heap.size a ha8
      have hat := arrayAt8 w.heap.size a (64 - a)
      go_wp2_with fail
      rw [byteArr_lit8 f a]
      generalize hL : loadTo (fun j => f (a + j)) 8 = L
      have hLl : L < 18446744073709551616 := by rw [← hL]; exact load_lt _ (fun j => hf _)
      refine (load_nat (fun j => f (a + j)) (fun j => hf _) L _ hL).mono ?_
      rintro e w1 ⟨rfl, hb1⟩
      have hA1 := hA.keptAll hb1
      have hB1 := hBel.trans (hb1.mono hBel.size)
      go_wp2_with fail
      refine (equal_calls (L : Int) (x : Int) _ (by omega) (by omega) (by omega)).mono ?_
      rintro e w2 ⟨rfl, hb2⟩
      have hA2 := hA1.keptAll hb2
      have hB2 := hB1.trans (hb2.mono hB1.size)
      have hst := equal_step f hf x a ha8
      rw [hL] at hst
      have hm8 : mask8 (isB x) L < 256 := maskTo_lt _ _ 8
      simp only [Int.toNat_natCast]
      generalize mask8 (isB x) L = E at hst hm8 ⊢
      clear hsl hat c0 c1 c2 c3 c4 c5 c6 c7
      go_wp2
      exact ⟨⟨a + 8, by omega, by omega, by go_num, rfl, hA2, hB2⟩, by simp [intOf]; omega⟩
    · have hk' : a = 64 := by omega
      subst hk'
      go_wp2
      go_ret
      exact ⟨by rw [HM.out]; rfl, hBel⟩
end Go.Proofs.YthakingpeegagaaDoor

/-
  What bytes.Repeat of one byte, 64 times, answers.
-/
namespace Go.Proofs.YthakingpeegagaaDoor
open Go.RowKit

set_option maxRecDepth 100000 in
theorem mul_calls (w : World) : Calls Tryd.prog 69 #[.int .u64 1, .int .u64 64] w fun e w' => e = .returned (.tuple #[.int .u64 0, .int .u64 64]) ∧ w' = w := by
  go_enter Tryd.func69, Tryd.ntmps69
  go_wp2
  refine bodyPost_ret (v := .tuple #[.int .u64 0, .int .u64 64]) (by simp [results, Tryd.results69, go_sem]; decide) rfl ⟨rfl, rfl⟩

/-- The first n cells of a row of at least 64 hold the byte p. -/
def Padded (w : World) (b n p : Nat) : Prop := ∃ cs : Array Value, At w b cs 5 ∧ 64 ≤ cs.size ∧ ∀ i, i < n → cs[i]? = some (.int .u8 (p : Int))

theorem made64 (w : World) : ∃ cs : Array Value, (callFunc 70 #[.int .i64 64]).run Tryd.prog w = .ok (.value (.slice (some ⟨w.heap.size, 0, none⟩) 64 cs.size)) (w.drew.drew.alloc (.cells cs 5)) ∧ 64 ≤ cs.size := by
  obtain ⟨cs, hrun, hle, _⟩ := Lib.run_makeNoZero (P := Tryd.prog) w #[3] 28 5 Tryd.underlying28 64 (by decide)
  refine ⟨cs, ?_, hle⟩
  rw [run_callFunc_extern Tryd.func70 (by kernel_rfl) (by kernel_rfl) (by kernel_rfl) (e := Extern.BytealgMakeNoZero.makeNoZero #[3] #[28]) (by kernel_rfl)]
  have h64 : (Value.int .i64 64) = .int .i64 ((64 : Nat) : Int) := rfl
  rw [h64, hrun]
  rfl

theorem info8 : (Tryd.prog.info? 5).map (·.size) = some 1 := by kernel_rfl
/-- Of a row whose first n cells hold p, m of them are put behind these. -/
theorem copy_pad (w : World) (b n m p : Nat) (a : Addr) (sLen sCap dLen dCap : Nat) (h : Padded w b n p) (hm : Nat.min sLen dLen = m) (hfit : n + m ≤ 64) (hsrc : ∀ j, j < m → w.cell? (a.add j) = some (.int .u8 (p : Int))) :
    ∃ w1, (Builtin.copy_ #[28, 28] 3 #[.slice (some ⟨b, n, none⟩) dLen dCap, .slice (some a) sLen sCap]).run Tryd.prog w = .ok (.int .i64 (m : Int)) w1 ∧ Padded w1 b (n + m) p ∧ ∀ (k : Nat) (w0 : World), Below k w0 w → k ≤ b → Below k w0 w1 := by
  obtain ⟨cs, hA, hs, hc⟩ := h
  have hrun := run_copy_cells (P := Tryd.prog) w 28 28 3 5 b n dLen dCap a sLen sCap (List.replicate m (.int .u8 (p : Int))) Tryd.underlying28 info8 (by simp [hm])
    (fun j v hv => by
      have hj : j < m := by
        have := (List.getElem?_eq_some_iff.1 hv).1
        simpa using this
      rw [hsrc j hj]
      rw [List.getElem?_replicate, if_pos hj] at hv
      exact hv)
    (fun j hj => by rw [hA.cell, Array.getElem?_eq_getElem (by simp at hj; omega)]; rfl) (fun j _ => hA.frozen _) (fun v hv => by rw [List.eq_of_mem_replicate hv]; rfl)
  refine ⟨w.setCells b n (List.replicate m (.int .u8 (p : Int))), by rw [hrun]; simp [goInt], ?_, ?_⟩
  · obtain ⟨ds, h1, h2, h3, h4, _⟩ := At.setCells_at (List.replicate m (.int .u8 (p : Int))) n hA (by simp; omega)
    refine ⟨ds, h1, by omega, fun i hi => ?_⟩
    by_cases e : i < n
    · rw [h3 i e, hc i e]
    · have := h4 (i - n) (by simp; omega)
      rw [show n + (i - n) = i by omega, List.getElem?_replicate, if_pos (by omega)] at this
      exact this
  · exact fun k w0 hb hk => below_setCells hb hk _ _

set_option maxRecDepth 100000 in
set_option maxHeartbeats 1000000 in
theorem repeat_calls (p g : Nat) (w : World) (hA : At w g #[.int .u8 (p : Int)] 5) :
    Calls Tryd.prog 59 #[.slice (some ⟨g, 0, none⟩) 1 1, .int .i64 64] w fun e w' => e = .returned (.slice (some ⟨w.heap.size, 0, none⟩) 64 64) ∧ Padded w' w.heap.size 64 p ∧ Below w.heap.size w w' := by
  obtain ⟨cs, hmk, hge⟩ := made64 w
  have hgi : (64 : Int) ≤ (cs.size : Int) := by omega
  go_enter Tryd.func59, Tryd.ntmps59
  go_wp2_with (first | (go_at_call 69; refine (mul_calls _).mono ?_; rintro e w1 ⟨rfl, hw1⟩; rw [hw1]; clear hw1))
  have hA0 : At (w.alloc (.cells cs 5)).drew.drew w.heap.size cs 5 := At.new w cs 5
  have hP0 : Padded (w.alloc (.cells cs 5)).drew.drew w.heap.size 0 p := ⟨cs, hA0, hge, fun i hi => by omega⟩
  have hB0 : Below w.heap.size w (w.alloc (.cells cs 5)).drew.drew := ((Below.refl _ _).alloc (Nat.le_refl _) _).drew.drew
  have hg0 : At (w.alloc (.cells cs 5)).drew.drew g #[.int .u8 (p : Int)] 5 := hA.alloc _
  generalize (w.alloc (.cells cs 5)).drew.drew = W0 at *
  obtain ⟨W1, hrun1, hP1, hB1⟩ := copy_pad W0 w.heap.size 0 1 p ⟨g, 0, none⟩ 1 1 64 64 hP0 rfl (by omega) (fun j hj => by
    obtain rfl : j = 0 := by omega
    exact hg0.cell 0)
  have hB1 := hB1 _ _ hB0 (Nat.le_refl _)
  rw [hrun1]
  clear hmk hA hA0 hP0 hB0 hg0 hrun1
  go_wp2
  go_loopw [10] (fun i wr => ∃ n : Nat, 1 ≤ n ∧ n ≤ 64 ∧ i = .int .i64 n ∧ Padded wr w.heap.size n p ∧ Below w.heap.size w wr) (fun i _ => 64 - (intOf i).toNat)
  case atStart => exact ⟨1, by omega, by omega, rfl, hP1, hB1⟩
  case round =>
    obtain ⟨n, hn1, hn, rfl, hP, hBel⟩ := hrel
    by_cases hlt : n < 64
    · have hlti : (n : Int) < 64 := by omega
      have hlei : (n : Int) ≤ 64 := by omega
      have hmin : Nat.min n (64 - n) ≤ 64 - n := Nat.min_le_right _ _
      have hmn : Nat.min n (64 - n) ≤ n := Nat.min_le_left _ _
      have hm1 : 1 ≤ Nat.min n (64 - n) := Nat.le_min.2 ⟨hn1, by omega⟩
      obtain ⟨cs1, hA1, hs1, hc1⟩ := hP
      obtain ⟨W2, hrun2, hP2, hB2⟩ := copy_pad wr.drew w.heap.size n (Nat.min n (64 - n)) p ⟨w.heap.size, 0, none⟩ n 64 (64 - n) (64 - n) ⟨cs1, hA1.drew, hs1, hc1⟩ rfl (by omega) (fun j hj => by
        have e : (⟨w.heap.size, 0, none⟩ : Addr).add j = ⟨w.heap.size, j, none⟩ := by simp [Addr.add_mid]
        rw [e, hA1.drew.cell, hc1 j (by omega)])
      have hB2 := hB2 _ _ hBel.drew (Nat.le_refl _)
      generalize Nat.min n (64 - n) = m at *
      have hnm : n + m ≤ 64 := by omega
      clear hA1 hs1 hc1
      go_wp2
      go_region
      go_wp2
      go_roundw
      case rel => exact ⟨n + m, by omega, by omega, by go_num, hP2, hB2⟩
      case measure => simp [intOf]; omega
    · have hk' : n = 64 := by omega
      subst hk'
      go_wp2
      go_ret
      exact ⟨rfl, hP, hBel⟩
end Go.Proofs.YthakingpeegagaaDoor

/-
  What block.Cut answers.
-/
namespace Go.Proofs.YthakingpeegagaaDoor
open Go.RowKit

/-- The 64 bytes of a text from a place on, filled up. -/
def cutF (s : ByteArray) (at_ : Int) (p i : Nat) : Nat := if 0 ≤ at_ ∧ at_ + i < s.size then byteAt s (at_.toNat + i) else p
/-- How many of them are the text's. -/
def cutN (s : ByteArray) (at_ : Int) : Nat := if 0 ≤ at_ ∧ at_ < s.size then Nat.min (s.size - at_.toNat) 64 else 0
theorem cutF_lt (s : ByteArray) (at_ : Int) (p : Nat) (hp : p < 256) (i : Nat) : cutF s at_ p i < 256 := by
  unfold cutF
  split
  · exact byteAt_lt _ _
  · exact hp
/-- The first 64 cells of a row hold the bytes f. -/
def Row64 (w : World) (b : Nat) (f : Nat → Nat) : Prop := ∃ cs : Array Value, At w b cs 5 ∧ 64 ≤ cs.size ∧ ∀ i, i < 64 → cs[i]? = some (.int .u8 ((f i : Nat) : Int))
theorem Row64.range {w : World} {b : Nat} {f : Nat → Nat} (h : Row64 w b f) {L : List Value} (hL : L.toArray = arr64 f) (hl : L.length = 64) : w.rangeAt b 0 L := fun j v hv => by
  obtain ⟨cs, hA, _, hc⟩ := h
  have hj : j < 64 := by
    have := (List.getElem?_eq_some_iff.1 hv).1
    omega
  rw [Nat.zero_add, hA.cell, hc j hj, ← arr64_at f j hj, ← hL]
  simpa using hv
/-- A text is put over the bytes p. -/
theorem copy_text (w : World) (b p : Nat) (t : ByteArray) (h : Padded w b 64 p) :
    ∃ w1, (Builtin.copy_ #[28, 9] 3 #[.slice (some ⟨b, 0, none⟩) 64 64, .string t]).run Tryd.prog w = .ok (.int .i64 ((Nat.min t.size 64 : Nat) : Int)) w1 ∧ Row64 w1 b (fun i => if i < t.size then byteAt t i else p) ∧ (∀ (b' : Nat) (ds : Array Value) (t' : TypeId), b' ≠ b → At w b' ds t' → At w1 b' ds t') ∧ ∀ (k : Nat) (w0 : World), Below k w0 w → k ≤ b → Below k w0 w1 := by
  obtain ⟨cs, hA, hs, hc⟩ := h
  have hm64 : Nat.min t.size 64 ≤ 64 := Nat.min_le_right _ _
  have hmt : Nat.min t.size 64 ≤ t.size := Nat.min_le_left _ _
  have hmx : ∀ i, i < 64 → (i < Nat.min t.size 64 ↔ i < t.size) := fun i hi => ⟨fun h => by omega, fun h => Nat.lt_min.2 ⟨h, hi⟩⟩
  have hrun : ∀ n, Nat.min t.size 64 = n → (Builtin.copy_ #[28, 9] 3 #[.slice (some ⟨b, 0, none⟩) 64 64, .string t]).run Tryd.prog w = ((storeCells ⟨b, 0, none⟩ ((t.extract 0 n).data.map fun b => Value.int .u8 (b.toNat : Int)).toList).run Tryd.prog w).andThen fun _ w' => .ok (goInt n) w' := by
    intro n hn
    have hsz : (sizeOf 5).run Tryd.prog w = .ok 1 w := by kernel_rfl
    simp only [Builtin.copy_, List.getElem?_toArray, List.getElem?_cons_zero, List.getElem?_cons_succ, Sem.run_bind, run_underlying Tryd.underlying28, Result.andThen_ok, Builtin.lenOf, Builtin.firstCells, Sem.run_pure, hsz, hn]
  generalize Nat.min t.size 64 = m at *
  have hl : (((t.extract 0 m).data.map fun b => Value.int .u8 (b.toNat : Int)).toList).length = m := by
    simp only [Array.length_toList, Array.size_map]
    show (t.extract 0 m).size = m
    rw [ByteArray.size_extract]
    omega
  have hV : ∀ i, i < m → (((t.extract 0 m).data.map fun b => Value.int .u8 (b.toNat : Int)).toList)[i]? = some (.int .u8 ((byteAt t i : Nat) : Int)) := by
    intro i hi
    have h1 : i < t.data.size := by show i < t.size; omega
    simp only [byteAt, ByteArray.data_extract, Array.getElem?_toList, Array.getElem?_map, Array.getElem?_extract, Nat.zero_add, Nat.sub_zero]
    rw [if_pos (by omega), Array.getElem?_eq_getElem h1]
    rfl
  have h1c : ∀ v ∈ ((t.extract 0 m).data.map fun b => Value.int .u8 (b.toNat : Int)).toList, v.oneCell' = true := fun v hv => by
    simp only [Array.toList_map, List.mem_map] at hv
    obtain ⟨x, _, rfl⟩ := hv
    rfl
  have hrun := hrun m rfl
  generalize ((t.extract 0 m).data.map fun b => Value.int .u8 (b.toNat : Int)).toList = V at *
  have hst := run_storeCells_cells (P := Tryd.prog) b 0 V 0 w
    (fun j hj => by rw [Nat.add_zero, Nat.zero_add, hA.cell, Array.getElem?_eq_getElem (by omega)]; rfl) (fun j _ => hA.frozen _) h1c
  refine ⟨w.setCells b 0 V, ?_, ?_, fun b' ds t' hne hD => hD.setCells_other hne _ _, ?_⟩
  · rw [hrun, hst]
    rfl
  · obtain ⟨ds, h1, h2, _, h4, h5⟩ := At.setCells_at V 0 hA (by omega)
    refine ⟨ds, h1, by omega, fun i hi => ?_⟩
    by_cases e : i < m
    · have := h4 i (by omega)
      rw [Nat.zero_add, hV i e] at this
      rw [this]
      simp only [(hmx i hi).1 e, if_true]
    · rw [h5 i (by omega), hc i hi]
      show _ = some (Value.int .u8 ((if i < t.size then byteAt t i else p : Nat) : Int))
      rw [if_neg (fun h => e ((hmx i hi).2 h))]
  · exact fun k w0 hb hk => below_setCells hb hk _ _

theorem Row64.congr {w : World} {b : Nat} {f g : Nat → Nat} (h : Row64 w b f) (e : ∀ i, i < 64 → f i = g i) : Row64 w b g := by
  obtain ⟨cs, hA, hs, hc⟩ := h
  exact ⟨cs, hA, hs, fun i hi => by rw [hc i hi, e i hi]⟩
theorem cut_bytes (s : ByteArray) (A p : Nat) (hA : A < s.size) (i : Nat) : (if i < (s.extract A s.size).size then byteAt (s.extract A s.size) i else p) = cutF s A p i := by
  have hsz : (s.extract A s.size).size = s.size - A := by rw [ByteArray.size_extract]; omega
  unfold cutF
  rw [hsz, Int.toNat_natCast]
  by_cases h : i < s.size - A
  · rw [if_pos h, if_pos ⟨by omega, by omega⟩]
    have h2 : A + i < s.data.size := by show A + i < s.size; omega
    simp only [byteAt, ByteArray.data_extract, Array.getElem?_extract]
    rw [if_pos (by show i < min s.size s.data.size - A; have : s.data.size = s.size := rfl; omega)]
  · rw [if_neg h, if_neg (by omega)]
theorem arrayAt64 (b n : Nat) (w : World) : (Instr.arrayAt 57 (.slice (some ⟨b, 0, none⟩) 64 n)).run Tryd.prog w = .ok (.pointer (some ⟨b, 0, none⟩)) w := by
  simp [Instr.arrayAt, run_underlying Tryd.underlying57]
theorem zero64 : #[.int .u8 0, .int .u8 0, .int .u8 0, .int .u8 0, .int .u8 0, .int .u8 0, .int .u8 0, .int .u8 0, .int .u8 0, .int .u8 0, .int .u8 0, .int .u8 0, .int .u8 0, .int .u8 0, .int .u8 0, .int .u8 0, .int .u8 0, .int .u8 0, .int .u8 0, .int .u8 0, .int .u8 0, .int .u8 0, .int .u8 0, .int .u8 0, .int .u8 0, .int .u8 0, .int .u8 0, .int .u8 0, .int .u8 0, .int .u8 0, .int .u8 0, .int .u8 0, .int .u8 0, .int .u8 0, .int .u8 0, .int .u8 0, .int .u8 0, .int .u8 0, .int .u8 0, .int .u8 0, .int .u8 0, .int .u8 0, .int .u8 0, .int .u8 0, .int .u8 0, .int .u8 0, .int .u8 0, .int .u8 0, .int .u8 0, .int .u8 0, .int .u8 0, .int .u8 0, .int .u8 0, .int .u8 0, .int .u8 0, .int .u8 0, .int .u8 0, .int .u8 0, .int .u8 0, .int .u8 0, .int .u8 0, .int .u8 0, .int .u8 0, .int .u8 0] = arr64 (fun _ => 0) := by rfl

set_option maxRecDepth 100000 in
set_option maxHeartbeats 1000000 in
theorem cut_nat (s : ByteArray) (a : Int) (p : Nat) (n : Nat) (Hn : Hid (cutN s a = n)) (w : World) :
    Calls Tryd.prog 45 #[.string s, .int .i64 a, .int .u8 (p : Int)] w fun e w' => e = .returned (.tuple #[.agg (arr64 (cutF s a p)), .int .i64 (n : Int)]) ∧ Below w.heap.size w w' := by
  go_enter Tryd.func45, Tryd.ntmps45
  go_wp2_with fail
  rw [zero64]
  have hR0 := (At.new w (arr64 fun _ => 0) 57).alloc (.cells #[.int .u8 (p : Int)] 5)
  have hQ0 := At.new (w.alloc (.cells (arr64 fun _ => 0) 57)) #[.int .u8 (p : Int)] 5
  have hB0 : Below w.heap.size w ((w.alloc (.cells (arr64 fun _ => 0) 57)).alloc (.cells #[.int .u8 (p : Int)] 5)) := by repeat (first | with_reducible exact Below.refl _ _ | with_reducible refine Below.setCell ?_ (by first | (simp; done) | (simp; omega)) _ | with_reducible refine below_drewN ?_ _ | with_reducible refine Below.alloc ?_ (by first | (simp; done) | (simp; omega)) _ | with_reducible refine Below.drew ?_)
  have hz0 : ((w.alloc (.cells (arr64 fun _ => 0) 57)).alloc (.cells #[.int .u8 (p : Int)] 5)).heap.size = w.heap.size + 2 := by simp
  simp only [World.size_alloc] at hQ0
  generalize (w.alloc (.cells (arr64 fun _ => 0) 57)).alloc (.cells #[.int .u8 (p : Int)] 5) = W0 at *
  refine (repeat_calls p (w.heap.size + 1) W0 hQ0).mono ?_
  rintro e w1 ⟨rfl, hP, hb⟩
  have hR1 := hR0.keptAll hb
  have hB1 := hB0.trans (hb.mono hB0.size)
  rw [hz0] at hP ⊢
  clear hR0 hQ0 hB0 hb hz0
  by_cases hin : 0 ≤ a ∧ a < s.size
  · obtain ⟨h0, h1⟩ := hin
    obtain ⟨A, rfl⟩ := Int.eq_ofNat_of_zero_le h0
    have hA : A < s.size := by omega
    have hsz : (s.extract A s.size).size = s.size - A := by rw [ByteArray.size_extract]; omega
    obtain ⟨W2, hrun2, hRow, hO2, hB2⟩ := copy_text w1 (w.heap.size + 2) p (s.extract A s.size) hP
    have hB2 := hB2 _ _ hB1 (by omega)
    have hR2 := hO2 w.heap.size _ _ (by omega) hR1
    have hcong : ∀ i, i < 64 → (fun i => if i < (s.extract A s.size).size then byteAt (s.extract A s.size) i else p) i = cutF s A p i := fun i _ => cut_bytes s A p hA i
    have hRow' := hRow.congr hcong
    have hn : Nat.min (s.extract A s.size).size 64 = n := by
      rw [← Hn.out, cutN, if_pos ⟨h0, h1⟩, hsz]; rfl
    rw [hn] at hrun2
    clear hRow hcong hP hR1 hB1 hO2
    obtain ⟨L, hLt, hLl⟩ := arr64_list (cutF s A p)
    have hL1 := arr64_one _ hLt
    have hiL : (Tryd.prog.info? 57).map (·.size) = some L.length := by rw [hLl]; exact info64
    have hrg := Row64.range hRow' hLt hLl
    have hth := At.there hR2 64 (arr64_size _)
    have hth' : W2.there w.heap.size 0 L.toArray.size := by simpa [hLl] using hth
    have hiL' : (Tryd.prog.info? 57).map (·.size) = some L.toArray.size := by simpa using hiL
    have hR3 := hR2.setCells L (by rw [arr64_size, hLl])
    have hB3 := below_setCells hB2 (Nat.le_refl _) L 0
    have har := arrayAt64 (w.heap.size + 2) 64
    generalize hW3 : (W2).setCells w.heap.size 0 L = W3 at hR3 hB3
    have hLt' : Hid (L.toArray = arr64 (cutF s A p)) := hLt
    clear hLt
    go_wp2_with (first
      | (refine wpList_load_mid rfl 57 _ rfl (w.heap.size + 2) 0 rfl L _ hrg Tryd.underlying57 rfl hiL ?_)
      | (refine wpList_store_mid rfl 57 _ _ rfl w.heap.size 0 L.toArray rfl rfl hth' hiL' (all_oneCell_toArray hL1) ?_))
    refine bodyPost_ret (v := .tuple #[.agg (arr64 (cutF s A p)), .int .i64 (n : Int)]) ?_ rfl ⟨rfl, hB3⟩
    rw [results_cell_tmp rfl]
    have hl3 := run_loadVar_mid (P := Tryd.prog) W3 w.heap.size 0 57 L _ (hR3.range rfl) Tryd.underlying57 rfl hiL
    rw [hLt'.out] at hl3
    simp [asAddr, hl3]
  · have hRow : Row64 w1 (w.heap.size + 2) (cutF s a p) := by
      obtain ⟨cs, hA, hs', hc⟩ := hP
      refine ⟨cs, hA, hs', fun i hi => ?_⟩
      rw [hc i hi, cutF, if_neg (by omega)]
    by_cases h0 : 0 ≤ a
    · obtain ⟨L, hLt, hLl⟩ := arr64_list (cutF s a p)
      have hL1 := arr64_one _ hLt
      have hiL : (Tryd.prog.info? 57).map (·.size) = some L.length := by rw [hLl]; exact info64
      have hrg := Row64.range hRow hLt hLl
      have hth := At.there hR1 64 (arr64_size _)
      have hth' : w1.there w.heap.size 0 L.toArray.size := by simpa [hLl] using hth
      have hiL' : (Tryd.prog.info? 57).map (·.size) = some L.toArray.size := by simpa using hiL
      have hR3 := hR1.setCells L (by rw [arr64_size, hLl])
      have hB3 := below_setCells hB1 (Nat.le_refl _) L 0
      have har := arrayAt64 (w.heap.size + 2) 64
      generalize hW3 : (w1).setCells w.heap.size 0 L = W3 at hR3 hB3
      have hLt' : Hid (L.toArray = arr64 (cutF s a p)) := hLt
      have hn : Hid ((0 : Int) = (n : Int)) := by rw [← Hn.out, cutN, if_neg hin]; rfl
      clear hLt
      have hw : ¬ a < (s.size : Int) := by omega
      go_wp2_with (first
        | (refine wpList_load_mid rfl 57 _ rfl (w.heap.size + 2) 0 rfl L _ hrg Tryd.underlying57 rfl hiL ?_)
        | (refine wpList_store_mid rfl 57 _ _ rfl w.heap.size 0 L.toArray rfl rfl hth' hiL' (all_oneCell_toArray hL1) ?_))
      refine bodyPost_ret (v := .tuple #[.agg (arr64 (cutF s a p)), .int .i64 0]) ?_ rfl ⟨by rw [hn.out], hB3⟩
      rw [results_cell_tmp rfl]
      have hl3 := run_loadVar_mid (P := Tryd.prog) W3 w.heap.size 0 57 L _ (hR3.range rfl) Tryd.underlying57 rfl hiL
      rw [hLt'.out] at hl3
      simp [asAddr, hl3]
    · obtain ⟨L, hLt, hLl⟩ := arr64_list (cutF s a p)
      have hL1 := arr64_one _ hLt
      have hiL : (Tryd.prog.info? 57).map (·.size) = some L.length := by rw [hLl]; exact info64
      have hrg := Row64.range hRow hLt hLl
      have hth := At.there hR1 64 (arr64_size _)
      have hth' : w1.there w.heap.size 0 L.toArray.size := by simpa [hLl] using hth
      have hiL' : (Tryd.prog.info? 57).map (·.size) = some L.toArray.size := by simpa using hiL
      have hR3 := hR1.setCells L (by rw [arr64_size, hLl])
      have hB3 := below_setCells hB1 (Nat.le_refl _) L 0
      have har := arrayAt64 (w.heap.size + 2) 64
      generalize hW3 : (w1).setCells w.heap.size 0 L = W3 at hR3 hB3
      have hLt' : Hid (L.toArray = arr64 (cutF s a p)) := hLt
      have hn : Hid ((0 : Int) = (n : Int)) := by rw [← Hn.out, cutN, if_neg hin]; rfl
      clear hLt
      have hw : a < 0 := by omega
      go_wp2_with (first
        | (refine wpList_load_mid rfl 57 _ rfl (w.heap.size + 2) 0 rfl L _ hrg Tryd.underlying57 rfl hiL ?_)
        | (refine wpList_store_mid rfl 57 _ _ rfl w.heap.size 0 L.toArray rfl rfl hth' hiL' (all_oneCell_toArray hL1) ?_))
      refine bodyPost_ret (v := .tuple #[.agg (arr64 (cutF s a p)), .int .i64 0]) ?_ rfl ⟨by rw [hn.out], hB3⟩
      rw [results_cell_tmp rfl]
      have hl3 := run_loadVar_mid (P := Tryd.prog) W3 w.heap.size 0 57 L _ (hR3.range rfl) Tryd.underlying57 rfl hiL
      rw [hLt'.out] at hl3
      simp [asAddr, hl3]
end Go.Proofs.YthakingpeegagaaDoor

/-
  What quarrylaw02.awake answers: true.
-/
namespace Go.Proofs.YthakingpeegagaaDoor
open Go.RowKit

/-- A new block of 64 bytes, laid over at once. -/
theorem laid64 (w : World) (L : List Value) (hl : L.length = 64) : (w.alloc (.cells #[.int .u8 0, .int .u8 0, .int .u8 0, .int .u8 0, .int .u8 0, .int .u8 0, .int .u8 0, .int .u8 0, .int .u8 0, .int .u8 0, .int .u8 0, .int .u8 0, .int .u8 0, .int .u8 0, .int .u8 0, .int .u8 0, .int .u8 0, .int .u8 0, .int .u8 0, .int .u8 0, .int .u8 0, .int .u8 0, .int .u8 0, .int .u8 0, .int .u8 0, .int .u8 0, .int .u8 0, .int .u8 0, .int .u8 0, .int .u8 0, .int .u8 0, .int .u8 0, .int .u8 0, .int .u8 0, .int .u8 0, .int .u8 0, .int .u8 0, .int .u8 0, .int .u8 0, .int .u8 0, .int .u8 0, .int .u8 0, .int .u8 0, .int .u8 0, .int .u8 0, .int .u8 0, .int .u8 0, .int .u8 0, .int .u8 0, .int .u8 0, .int .u8 0, .int .u8 0, .int .u8 0, .int .u8 0, .int .u8 0, .int .u8 0, .int .u8 0, .int .u8 0, .int .u8 0, .int .u8 0, .int .u8 0, .int .u8 0, .int .u8 0, .int .u8 0] 57)).there w.heap.size 0 L.toArray.size ∧
    ∃ W, (w.alloc (.cells #[.int .u8 0, .int .u8 0, .int .u8 0, .int .u8 0, .int .u8 0, .int .u8 0, .int .u8 0, .int .u8 0, .int .u8 0, .int .u8 0, .int .u8 0, .int .u8 0, .int .u8 0, .int .u8 0, .int .u8 0, .int .u8 0, .int .u8 0, .int .u8 0, .int .u8 0, .int .u8 0, .int .u8 0, .int .u8 0, .int .u8 0, .int .u8 0, .int .u8 0, .int .u8 0, .int .u8 0, .int .u8 0, .int .u8 0, .int .u8 0, .int .u8 0, .int .u8 0, .int .u8 0, .int .u8 0, .int .u8 0, .int .u8 0, .int .u8 0, .int .u8 0, .int .u8 0, .int .u8 0, .int .u8 0, .int .u8 0, .int .u8 0, .int .u8 0, .int .u8 0, .int .u8 0, .int .u8 0, .int .u8 0, .int .u8 0, .int .u8 0, .int .u8 0, .int .u8 0, .int .u8 0, .int .u8 0, .int .u8 0, .int .u8 0, .int .u8 0, .int .u8 0, .int .u8 0, .int .u8 0, .int .u8 0, .int .u8 0, .int .u8 0, .int .u8 0] 57)).setCells w.heap.size 0 L = W ∧ At W w.heap.size L.toArray 57 ∧ Below w.heap.size w W := by
  have hA := At.new w #[.int .u8 0, .int .u8 0, .int .u8 0, .int .u8 0, .int .u8 0, .int .u8 0, .int .u8 0, .int .u8 0, .int .u8 0, .int .u8 0, .int .u8 0, .int .u8 0, .int .u8 0, .int .u8 0, .int .u8 0, .int .u8 0, .int .u8 0, .int .u8 0, .int .u8 0, .int .u8 0, .int .u8 0, .int .u8 0, .int .u8 0, .int .u8 0, .int .u8 0, .int .u8 0, .int .u8 0, .int .u8 0, .int .u8 0, .int .u8 0, .int .u8 0, .int .u8 0, .int .u8 0, .int .u8 0, .int .u8 0, .int .u8 0, .int .u8 0, .int .u8 0, .int .u8 0, .int .u8 0, .int .u8 0, .int .u8 0, .int .u8 0, .int .u8 0, .int .u8 0, .int .u8 0, .int .u8 0, .int .u8 0, .int .u8 0, .int .u8 0, .int .u8 0, .int .u8 0, .int .u8 0, .int .u8 0, .int .u8 0, .int .u8 0, .int .u8 0, .int .u8 0, .int .u8 0, .int .u8 0, .int .u8 0, .int .u8 0, .int .u8 0, .int .u8 0] 57
  refine ⟨hA.there _ (by simp [hl]), _, rfl, hA.setCells L (by simp [hl]), below_setCells ((Below.refl _ _).alloc (Nat.le_refl _) _) (Nat.le_refl _) _ _⟩

theorem kept_range {w wx w1 : World} {L : List Value} {b : Nat} (h : wx.rangeAt b 0 L ∧ Below w.heap.size w wx) (hb : Below wx.heap.size wx w1) : w1.rangeAt b 0 L ∧ Below w.heap.size w w1 :=
  ⟨range_kept h.1 hb, h.2.trans (hb.mono h.2.size)⟩

end Go.Proofs.YthakingpeegagaaDoor

/-
  What block.Blocks tells: the blocks of a text, one behind the other.
-/
namespace Go.Proofs.YthakingpeegagaaDoor
open Go.RowKit Go.Shelf

attribute [local go_sem] Oper.semAt_some

/-- How many blocks a text has. -/
def blocksOf (s : ByteArray) : Nat := (s.size + 63) / 64
/-- What is told of the block number r (of those behind the last one: as of the one right behind it). -/
def encB (s : ByteArray) (p r : Nat) : Array Value := #[.int .i64 ((64 * min r (blocksOf s) : Nat) : Int), .agg (arr64 (cutF s ((64 * min r (blocksOf s) : Nat) : Int) p))]

set_option maxRecDepth 100000 in
set_option maxHeartbeats 4000000 in
theorem blocks1_in (n : Nat) (l Bs Bp n0 : Nat) (s : ByteArray) (hs : s.size ≤ 9223372036854775000) (p : Nat) (hBs : Bs < n0) (hBp : Bp < n0) (J Jx : List Nat → World → Prop) (W : World) (hn0 : n0 ≤ W.heap.size) (hJ : AbidesFrom W.heap.size J)
    (hY : ∀ pre x W1, J pre W1 → pre.length < blocksOf s → YieldAt Fence.wide (n - 1) Tryd.prog l (encB s p x) W1 fun e W' =>
      (e = .returned (.bool true) ∧ J (pre ++ [x]) W' ∧ Below n0 W1 W') ∨ (e = .returned (.bool false) ∧ Jx (pre ++ [x]) W'))
    (cs : W.cell? ⟨Bs, 0, none⟩ = some (.string s)) (cp : W.cell? ⟨Bp, 0, none⟩ = some (.int .u8 (p : Int))) (h0 : J [] W) :
    CallsIn Fence.wide n Tryd.prog 44 #[.func (.yield l) #[] #[], .pointer (some ⟨Bs, 0, none⟩), .pointer (some ⟨Bp, 0, none⟩)] W fun e W' => (∃ v, e = .returned v) ∧
      ((∃ xs, xs = List.range (blocksOf s) ∧ J xs W') ∨ (∃ pre, (∃ k, k ≤ blocksOf s ∧ pre = List.range k) ∧ Jx pre W')) := by
  refine callsIn_of_wp Tryd.func44 rfl trivial ?_ rfl
  simp only [Tryd.ntmps44, List.size_toArray, List.length_cons, List.length_nil, Nat.reduceAdd, Nat.reduceSub, Array.replicate_succ, Array.replicate_zero, List.push_toArray, List.append_toArray, List.nil_append, List.cons_append]
  gi_wp2
  gi_loopw [4] (fun i wr => ∃ r A : Nat, Hid (A = 64 * r) ∧ r ≤ blocksOf s ∧ i = .int .i64 (A : Int) ∧ J (List.range r) wr ∧ Below n0 W wr) (fun i _ => s.size + 64 - (intOf i).toNat)
  case atStart => exact ⟨0, 0, rfl, Nat.zero_le _, rfl, h0, Below.refl _ _⟩
  case round =>
    obtain ⟨r, A, hA, hr, rfl, hJr, hB⟩ := hrel
    have cs' := (hB.cell (p := ⟨Bs, 0, none⟩) hBs).trans cs
    have cp' := (hB.cell (p := ⟨Bp, 0, none⟩) hBp).trans cp
    by_cases hlt : r < blocksOf s
    · have hlen : A < s.size := by rw [hA.out]; unfold blocksOf at hlt; omega
      have hli : (A : Int) < (s.size : Int) := by omega
      have hov : (A : Int) + 64 ≤ 9223372036854775807 := by omega
      gi_wp2_with fail
      refine ⟨trivial, (fun h => by cases h), ?_⟩
      refine (callsIn_wide.2 (cut_nat s (A : Int) p _ rfl _)).mono ?_
      rintro e w1 ⟨rfl, hb1⟩
      obtain ⟨L, hLt, hLl⟩ := arr64_list (cutF s (A : Int) p)
      have hL1 := arr64_one _ hLt
      have hiL : (Tryd.prog.info? 57).map (·.size) = some L.length := by rw [hLl]; exact info64
      have hiL' : (Tryd.prog.info? 57).map (·.size) = some L.toArray.size := by simpa using hiL
      obtain ⟨hth, W2, hW2, hA2, hB2⟩ := laid64 w1 L hLl
      have hrg := hA2.range rfl
      have hbb : Below wr.heap.size wr W2 := hb1.trans (hB2.mono hb1.size)
      have hJ2 := abides_below hJ hJr hbb
      have hB3 : Below n0 W W2 := hB.trans (hbb.mono (Nat.le_trans hn0 hB.size))
      obtain ⟨fn, tmps, assign, body, hy, hR⟩ := hY (List.range r) r W2 hJ2 (by simpa using hlt)
      have he : encB s p r = #[.int .i64 (A : Int), .agg L.toArray] := by rw [hLt, encB, Nat.min_eq_left hr, hA.out]
      rw [he] at hy
      rw [← hLt]
      generalize cutN s (A : Int) = nn
      clear hLt hY hJr hJ2
      gi_wp2_with (first | (refine wpListIn_store_want 57 _ _ (w1.heap.size) 0 L.toArray hth hiL' (all_oneCell_toArray hL1) rfl rfl rfl (by rfl) ?_) | (refine wpListIn_load_want 57 _ (w1.heap.size) 0 L _ hrg Tryd.underlying57 hiL rfl rfl rfl (by rfl) ?_))
      refine ⟨(fun h => by cases h), ?_⟩
      refine hR.mono ?_
      rintro e W3 (⟨rfl, hJ3, hk3⟩ | ⟨rfl, hJx3⟩)
      · clear hy hR
        gi_wp2
        go_roundw
        case rel => exact ⟨r + 1, A + 64, by show A + 64 = 64 * (r + 1); have := hA.out; omega, hlt, by simp, by rw [List.range_succ]; exact hJ3, hB3.trans hk3⟩
        case measure => simp [intOf]; omega
      · clear hy hR
        gi_wp2
        refine bodyPost_ret (results_none rfl _ _ _) rfl ?_
        exact ⟨⟨_, rfl⟩, .inr ⟨_, ⟨r + 1, by omega, (List.range_succ).symm⟩, hJx3⟩⟩
    · obtain rfl : r = blocksOf s := by omega
      have hge : ¬ (A : Int) < (s.size : Int) := by have := hA.out; unfold blocksOf at this; omega
      gi_wp2
      go_end0
      exact ⟨⟨_, rfl⟩, .inl hJr⟩

theorem blocks_stops (n : Nat) (Bs Bp n0 : Nat) (s : ByteArray) (hs : s.size ≤ 9223372036854775000) (p : Nat) (w : World) (hBs : Bs < n0) (hBp : Bp < n0) (hn0 : n0 ≤ w.heap.size)
    (cs : w.cell? ⟨Bs, 0, none⟩ = some (.string s)) (cp : w.cell? ⟨Bp, 0, none⟩ = some (.int .u8 (p : Int))) :
    SeqStopsK Fence.wide n Tryd.prog 44 #[.pointer (some ⟨Bs, 0, none⟩), .pointer (some ⟨Bp, 0, none⟩)] (encB s p) (Below n0) (fun xs => xs = List.range (blocksOf s)) (fun pre => ∃ k, k ≤ blocksOf s ∧ pre = List.range k) (blocksOf s) w :=
  fun l J Jx W hW hJ _ hY h0 => blocks1_in n l Bs Bp n0 s hs p hBs hBp J Jx W (Nat.le_trans hn0 hW.size) hJ hY ((hW.cell (p := ⟨Bs, 0, none⟩) (Nat.lt_of_lt_of_le hBs hn0)).trans cs) ((hW.cell (p := ⟨Bp, 0, none⟩) (Nat.lt_of_lt_of_le hBp hn0)).trans cp) h0

theorem blocks_calls (s : ByteArray) (p : Nat) (w : World) :
    Calls Tryd.prog 27 #[.string s, .int .u8 (p : Int)] w fun e w' => e = .returned (.func (.func 44) #[] #[.pointer (some ⟨w.heap.size, 0, none⟩), .pointer (some ⟨w.heap.size + 1, 0, none⟩)]) ∧ w' = (w.alloc (.cells #[.string s] 9)).alloc (.cells #[.int .u8 (p : Int)] 5) := by
  have hmf : ∀ (fn : Fn) (first cap : Array Value) (w : World), (Instr.makeFunc fn first cap).run Tryd.prog w = .ok (.func fn first cap) w := fun _ _ _ _ => rfl
  go_enter Tryd.func27, Tryd.ntmps27
  go_wp2
  go_ret
  exact ⟨rfl, rfl⟩
end Go.Proofs.YthakingpeegagaaDoor

/-
  What block.Blocks tells, where its two variables lie among others that the caller's rounds turn.
-/
namespace Go.Proofs.YthakingpeegagaaDoor
open Go.RowKit Go.Shelf

attribute [local go_sem] Oper.semAt_some

/-- The two variables of the sequence are as they were. -/
def KeepB (Bs Bp : Nat) (A B : World) : Prop := A.heap.size ≤ B.heap.size ∧ (∀ cs t, At A Bs cs t → At B Bs cs t) ∧ ∀ cs t, At A Bp cs t → At B Bp cs t
section
variable {Bs Bp : Nat} {A B C : World}
theorem KeepB.refl (Bs Bp : Nat) (A : World) : KeepB Bs Bp A A := ⟨Nat.le_refl _, fun _ _ h => h, fun _ _ h => h⟩
theorem KeepB.trans (h : KeepB Bs Bp A B) (k : KeepB Bs Bp B C) : KeepB Bs Bp A C := ⟨Nat.le_trans h.1 k.1, fun _ _ x => k.2.1 _ _ (h.2.1 _ _ x), fun _ _ x => k.2.2 _ _ (h.2.2 _ _ x)⟩
theorem KeepB.of_below (h : Below A.heap.size A B) : KeepB Bs Bp A B := ⟨h.size, fun _ _ x => x.keptAll h, fun _ _ x => x.keptAll h⟩
theorem keepB_b {w : World} (W : World) (l : Nat) (o o' : Obj) (_ : w.heap.size ≤ l) (h : W.heap[l]? = some o) (hc : o.isCells = false) (_ : o.isWalk = false) : KeepB Bs Bp W (W.putObj l o') :=
  ⟨(grownBy_putObj' W l o').size, fun _ _ x => x.own (grownBy_putObj' W l o') (fun r e => by cases e; exact ⟨o, h, hc⟩), fun _ _ x => x.own (grownBy_putObj' W l o') (fun r e => by cases e; exact ⟨o, h, hc⟩)⟩
end

set_option maxRecDepth 100000 in
set_option maxHeartbeats 4000000 in
theorem blocks1_g (n : Nat) (l Bs Bp : Nat) (s : ByteArray) (hs : s.size ≤ 9223372036854775000) (p : Nat) (enc : Nat → Array Value) (henc : ∀ r, r < blocksOf s → enc r = encB s p r) (J Jx : List Nat → World → Prop) (W : World) (hJ : AbidesFrom W.heap.size J)
    (hY : ∀ pre x W1, J pre W1 → pre.length < blocksOf s → YieldAt Fence.wide (n - 1) Tryd.prog l (enc x) W1 fun e W' =>
      (e = .returned (.bool true) ∧ J (pre ++ [x]) W' ∧ KeepB Bs Bp W1 W') ∨ (e = .returned (.bool false) ∧ Jx (pre ++ [x]) W'))
    (hAs : At W Bs #[.string s] 9) (hAp : At W Bp #[.int .u8 (p : Int)] 5) (h0 : J [] W) :
    CallsIn Fence.wide n Tryd.prog 44 #[.func (.yield l) #[] #[], .pointer (some ⟨Bs, 0, none⟩), .pointer (some ⟨Bp, 0, none⟩)] W fun e W' => (∃ v, e = .returned v) ∧
      ((∃ xs, xs = List.range (blocksOf s) ∧ J xs W') ∨ (∃ pre, (∃ k, k ≤ blocksOf s ∧ pre = List.range k) ∧ Jx pre W')) := by
  refine callsIn_of_wp Tryd.func44 rfl trivial ?_ rfl
  simp only [Tryd.ntmps44, List.size_toArray, List.length_cons, List.length_nil, Nat.reduceAdd, Nat.reduceSub, Array.replicate_succ, Array.replicate_zero, List.push_toArray, List.append_toArray, List.nil_append, List.cons_append]
  gi_wp2
  gi_loopw [4] (fun i wr => ∃ r A : Nat, Hid (A = 64 * r) ∧ r ≤ blocksOf s ∧ i = .int .i64 (A : Int) ∧ J (List.range r) wr ∧ KeepB Bs Bp W wr) (fun i _ => s.size + 64 - (intOf i).toNat)
  case atStart => exact ⟨0, 0, rfl, Nat.zero_le _, rfl, h0, KeepB.refl _ _ _⟩
  case round =>
    obtain ⟨r, A, hA, hr, rfl, hJr, hB⟩ := hrel
    have cs' := (hB.2.1 _ _ hAs).cell 0
    have cp' := (hB.2.2 _ _ hAp).cell 0
    simp only [List.getElem?_toArray, List.getElem?_cons_zero] at cs' cp'
    by_cases hlt : r < blocksOf s
    · have hlen : A < s.size := by rw [hA.out]; unfold blocksOf at hlt; omega
      have hli : (A : Int) < (s.size : Int) := by omega
      have hov : (A : Int) + 64 ≤ 9223372036854775807 := by omega
      gi_wp2_with fail
      refine ⟨trivial, (fun h => by cases h), ?_⟩
      refine (callsIn_wide.2 (cut_nat s (A : Int) p _ rfl _)).mono ?_
      rintro e w1 ⟨rfl, hb1⟩
      obtain ⟨L, hLt, hLl⟩ := arr64_list (cutF s (A : Int) p)
      have hL1 := arr64_one _ hLt
      have hiL : (Tryd.prog.info? 57).map (·.size) = some L.length := by rw [hLl]; exact info64
      have hiL' : (Tryd.prog.info? 57).map (·.size) = some L.toArray.size := by simpa using hiL
      obtain ⟨hth, W2, hW2, hA2, hB2⟩ := laid64 w1 L hLl
      have hrg := hA2.range rfl
      have hbb : Below wr.heap.size wr W2 := hb1.trans (hB2.mono hb1.size)
      have hJ2 := abides_below hJ hJr hbb
      have hB3 : KeepB Bs Bp W W2 := hB.trans (KeepB.of_below hbb)
      obtain ⟨fn, tmps, assign, body, hy, hR⟩ := hY (List.range r) r W2 hJ2 (by simpa using hlt)
      have he : enc r = #[.int .i64 (A : Int), .agg L.toArray] := by rw [henc r hlt, hLt, encB, Nat.min_eq_left hr, hA.out]
      rw [he] at hy
      rw [← hLt]
      generalize cutN s (A : Int) = nn
      clear hLt hY hJr hJ2
      gi_wp2_with (first | (refine wpListIn_store_want 57 _ _ (w1.heap.size) 0 L.toArray hth hiL' (all_oneCell_toArray hL1) rfl rfl rfl (by rfl) ?_) | (refine wpListIn_load_want 57 _ (w1.heap.size) 0 L _ hrg Tryd.underlying57 hiL rfl rfl rfl (by rfl) ?_))
      refine ⟨(fun h => by cases h), ?_⟩
      refine hR.mono ?_
      rintro e W3 (⟨rfl, hJ3, hk3⟩ | ⟨rfl, hJx3⟩)
      · clear hy hR
        gi_wp2
        go_roundw
        case rel => exact ⟨r + 1, A + 64, by show A + 64 = 64 * (r + 1); have := hA.out; omega, hlt, by simp, by rw [List.range_succ]; exact hJ3, hB3.trans hk3⟩
        case measure => simp [intOf]; omega
      · clear hy hR
        gi_wp2
        refine bodyPost_ret (results_none rfl _ _ _) rfl ?_
        exact ⟨⟨_, rfl⟩, .inr ⟨_, ⟨r + 1, by omega, (List.range_succ).symm⟩, hJx3⟩⟩
    · obtain rfl : r = blocksOf s := by omega
      have hge : ¬ (A : Int) < (s.size : Int) := by have := hA.out; unfold blocksOf at this; omega
      gi_wp2
      go_end0
      exact ⟨⟨_, rfl⟩, .inl hJr⟩

theorem blocks_stops_g (n : Nat) (Bs Bp : Nat) (s : ByteArray) (hs : s.size ≤ 9223372036854775000) (p : Nat) (enc : Nat → Array Value) (henc : ∀ r, r < blocksOf s → enc r = encB s p r) (w : World) (hAs : At w Bs #[.string s] 9) (hAp : At w Bp #[.int .u8 (p : Int)] 5) :
    SeqStopsK Fence.wide n Tryd.prog 44 #[.pointer (some ⟨Bs, 0, none⟩), .pointer (some ⟨Bp, 0, none⟩)] enc (KeepB Bs Bp) (fun xs => xs = List.range (blocksOf s)) (fun pre => ∃ k, k ≤ blocksOf s ∧ pre = List.range k) (blocksOf s) w :=
  fun l J Jx W hW hJ _ hY h0 => blocks1_g n l Bs Bp s hs p enc henc J Jx W hJ hY (hAs.keptAll hW) (hAp.keptAll hW) h0
theorem blocks_stops_k (n : Nat) (Bs Bp : Nat) (s : ByteArray) (hs : s.size ≤ 9223372036854775000) (p : Nat) (w : World) (hAs : At w Bs #[.string s] 9) (hAp : At w Bp #[.int .u8 (p : Int)] 5) :
    SeqStopsK Fence.wide n Tryd.prog 44 #[.pointer (some ⟨Bs, 0, none⟩), .pointer (some ⟨Bp, 0, none⟩)] (encB s p) (KeepB Bs Bp) (fun xs => xs = List.range (blocksOf s)) (fun pre => ∃ k, k ≤ blocksOf s ∧ pre = List.range k) (blocksOf s) w :=
  blocks_stops_g n Bs Bp s hs p (encB s p) (fun _ _ => rfl) w hAs hAp

/-- What is told of the block number r (of those behind the last one: as of the last one). -/
def encL (s : ByteArray) (p r : Nat) : Array Value := encB s p (min r (blocksOf s - 1))
theorem encL_eq (s : ByteArray) (p r : Nat) (h : r < blocksOf s) : encL s p r = encB s p r := by unfold encL; rw [Nat.min_eq_left (by omega)]
end Go.Proofs.YthakingpeegagaaDoor

/-
  RankWalk, EachSeq, RunsSeq, EscapedWalk, SelectWalk.
-/
/-
  What math/bits.OnesCount64, math/bits.TrailingZeros64, words.Rank come to.
-/
namespace Go.Proofs.YthakingpeegagaaDoor
open Go.RowKit

theorem bits_and_i64_nat (a b : Nat) (ha : a < 9223372036854775808) (hb : b < 9223372036854775808) : bits .and .i64 (a : Int) (b : Int) = ((a &&& b : Nat) : Int) := by
  have hx : a &&& b < 2 ^ 63 := Nat.and_lt_two_pow _ hb
  have h1 : (BitVec.ofInt 64 (a : Int)).toNat = a := by
    rw [BitVec.ofInt_natCast, BitVec.toNat_ofNat]; exact Nat.mod_eq_of_lt (by omega)
  have h2 : (BitVec.ofInt 64 (b : Int)).toNat = b := by
    rw [BitVec.ofInt_natCast, BitVec.toNat_ofNat]; exact Nat.mod_eq_of_lt (by omega)
  show IntKind.i64.wrap ((BitVec.ofInt 64 (a : Int) &&& BitVec.ofInt 64 (b : Int)).toNat : Int) = _
  rw [BitVec.toNat_and, h1, h2]
  simp [IntKind.wrap, IntKind.signed, IntKind.bits]
  omega
theorem and_wrap {a b y : Nat} (h : a + b = y) (hy : y < 18446744073709551616) : IntKind.u64.wrap ((a : Int) + (b : Int)) = (y : Int) := by rw [IntKind.wrap_u64]; omega

/-- The table of math/bits lies in its variable. -/
abbrev Tab (w : World) : Prop := TabAt 0 Lib.deBruijn64tab w
theorem Tab.below {n₀ : Nat} {w w' : World} (h : Tab w) (hb : Below n₀ w w') (h0 : 0 < n₀) : Tab w' := fun j hj => (hb.cell (p := ⟨0, j, none⟩) h0).trans (h j hj)

set_option maxHeartbeats 1000000 in
theorem tz_core (x k idx : Nat) (w : World) (hx0 : ((x : Int) == 0) = false)
    (key : IntKind.u64.wrap (bits BinOp.and IntKind.u64 (x : Int) (IntKind.u64.wrap (-(x : Int))) * 285870213051353865) / 288230376151711744 = (idx : Int))
    (hi : idx < 64) (hk : k < 64) (hcell : w.cell? ⟨0, idx, none⟩ = some (.int .u8 k)) :
    Calls Tryd.prog 39 #[.int .u64 x] w fun e w' => e = .returned (.int .i64 k) ∧ w' = w := by
  go_enter Tryd.func39, Tryd.ntmps39
  go_wp2_with (simp only [key])
  go_ret
  exact ⟨rfl, rfl⟩
theorem tz_zero (w : World) : Calls Tryd.prog 39 #[.int .u64 0] w fun e w' => e = .returned (.int .i64 64) ∧ w' = w := by
  go_enter Tryd.func39, Tryd.ntmps39
  go_wp2
  go_ret
  exact ⟨rfl, rfl⟩
theorem tz_calls (x K : Nat) (hx : x < 18446744073709551616) (hK : Hid (Lib.ctz 64 x = K)) (w : World) (hT : Tab w) :
    Calls Tryd.prog 39 #[.int .u64 (x : Int)] w fun e w' => e = .returned (.int .i64 (K : Int)) ∧ w' = w := by
  rw [← hK.out]
  by_cases hx0 : x = 0
  · subst hx0
    exact tz_zero w
  · obtain ⟨hlow, hk⟩ := Lib.lowest_bit 64 x hx0 hx
    obtain ⟨hi, htab⟩ := Lib.deBruijn64_at _ hk
    have hcell := hT _ hi
    rw [htab] at hcell
    exact tz_core x _ _ w (by simp; omega) (tz64_key x _ hx hx0 hlow) hi hk hcell

/-- How many are set below any number. -/
def rankW (x : Nat) (i : Int) : Nat := cnt x (min i.toNat 64)
end Go.Proofs.YthakingpeegagaaDoor

/-
  What words.Each tells: the places of the set bits, one behind the other.
-/
namespace Go.Proofs.YthakingpeegagaaDoor
open Go.RowKit Go.Shelf

attribute [local go_sem] Oper.semAt_some

/-- What is told of a place. -/
def encE (p : Nat) : Array Value := #[.int .i64 ((p % 64 : Nat) : Int)]

set_option maxRecDepth 100000 in
set_option maxHeartbeats 4000000 in
theorem each1_in (n : Nat) (l Bx n0 x : Nat) (hx : x < 18446744073709551616) (h0 : 0 < n0) (J Jx : List Nat → World → Prop) (W : World)
    (hY : ∀ pre p W1, J pre W1 → pre.length < (places x).length → YieldAt Fence.wide (n - 1) Tryd.prog l (encE p) W1 fun e W' =>
      (e = .returned (.bool true) ∧ J (pre ++ [p]) W' ∧ Below n0 W1 W') ∨ (e = .returned (.bool false) ∧ Jx (pre ++ [p]) W'))
    (hT : Tab W) (cx : W.cell? ⟨Bx, 0, none⟩ = some (.int .u64 (x : Int))) (hJ0 : J [] W) :
    CallsIn Fence.wide n Tryd.prog 52 #[.func (.yield l) #[] #[], .pointer (some ⟨Bx, 0, none⟩)] W fun e W' => (∃ v, e = .returned v) ∧
      ((∃ xs, xs = places x ∧ J xs W') ∨ (∃ pre, pre <+: places x ∧ Jx pre W')) := by
  refine callsIn_of_wp Tryd.func52 rfl trivial ?_ rfl
  simp only [Tryd.ntmps52, List.size_toArray, List.length_cons, List.length_nil, Nat.reduceAdd, Nat.reduceSub, Array.replicate_succ, Array.replicate_zero, List.push_toArray, List.append_toArray, List.nil_append, List.cons_append]
  gi_wp2
  gi_loopw [3] (fun r wr => ∃ (R : Nat) (pre : List Nat), Hid (places x = pre ++ places R) ∧ R < 18446744073709551616 ∧ r = .int .u64 (R : Int) ∧ J pre wr ∧ Tab wr) (fun r _ => (places (intOf r).toNat).length)
  case atStart => exact ⟨x, [], rfl, hx, rfl, hJ0, hT⟩
  case round =>
    obtain ⟨R, pre, hR, hRl, rfl, hJr, hTr⟩ := hrel
    by_cases hz : R = 0
    · subst hz
      have hpx : Hid (places x = pre) := hR.out.trans (by rw [places_zero, List.append_nil])
      clear hR
      gi_wp2
      go_end0
      exact ⟨⟨_, rfl⟩, .inl ⟨pre, hpx.out.symm, hJr⟩⟩
    · have hst := places_step hz hRl
      obtain ⟨R', hR'⟩ : ∃ R', R &&& (R - 1) = R' := ⟨_, rfl⟩
      obtain ⟨K, hK⟩ : ∃ K, Hid (Lib.ctz 64 R = K) := ⟨_, rfl⟩
      have hKl : K < 64 := hK.out ▸ ctz_lt hz hRl
      rw [hR', hK.out] at hst
      have hRl' : R' < 18446744073709551616 := hR' ▸ Nat.lt_of_le_of_lt Nat.and_le_left hRl
      have e1 : bits BinOp.and IntKind.u64 (R : Int) (IntKind.u64.wrap ((R : Int) - 1)) = (R' : Int) := by
        rw [show IntKind.u64.wrap ((R : Int) - 1) = ((R - 1 : Nat) : Int) by rw [IntKind.wrap_u64]; omega, bits_and_u64_nat _ _ hRl (by omega), hR']
      have e2 : bits BinOp.and IntKind.u64 (R : Int) ((R : Int) - 1) = (R' : Int) := by
        rw [show ((R : Int) - 1) = ((R - 1 : Nat) : Int) by omega, bits_and_u64_nat _ _ hRl (by omega), hR']
      have hz' : ((R : Int) != 0) = true := by simp; omega
      have hpl : pre.length < (places x).length := by rw [hR.out, hst]; simp
      have hst' : Hid (places R = K :: places R') := hst
      obtain ⟨fn, tmps, assign, body, hy, hRd⟩ := hY pre K wr hJr hpl
      rw [show encE K = #[.int .i64 (K : Int)] by rw [encE, Nat.mod_eq_of_lt hKl]] at hy
      clear hst hR' hY hpl
      gi_wp2_with fail
      refine ⟨trivial, (fun h => by cases h), ?_⟩
      refine (callsIn_wide.2 (tz_calls R K hRl hK _ hTr)).mono ?_
      rintro e w1 ⟨rfl, rfl⟩
      gi_wp2
      refine ⟨(fun h => by cases h), ?_⟩
      refine hRd.mono ?_
      rintro e W3 (⟨rfl, hJ3, hk3⟩ | ⟨rfl, hJx3⟩)
      · have hT3 := hTr.below hk3 h0
        clear hy hRd
        gi_wp2
        go_roundw
        case rel => exact ⟨R', pre ++ [K], by show _ = _; rw [hR.out, hst'.out]; simp, hRl', rfl, hJ3, hT3⟩
        case measure => simp [intOf, hst'.out]
      · clear hy hRd
        gi_wp2
        refine bodyPost_ret (results_none rfl _ _ _) rfl ?_
        exact ⟨⟨_, rfl⟩, .inr ⟨_, ⟨places R', by rw [hR.out, hst'.out]; simp⟩, hJx3⟩⟩

theorem each_stops (n : Nat) (Bx n0 x : Nat) (hx : x < 18446744073709551616) (h0 : 0 < n0) (w : World) (hBx : Bx < w.heap.size) (hw0 : 0 < w.heap.size) (hT : Tab w) (cx : w.cell? ⟨Bx, 0, none⟩ = some (.int .u64 (x : Int))) :
    SeqStopsK Fence.wide n Tryd.prog 52 #[.pointer (some ⟨Bx, 0, none⟩)] encE (Below n0) (fun xs => xs = places x) (fun pre => pre <+: places x) (places x).length w :=
  fun l J Jx W hW _ _ hY hJ0 => each1_in n l Bx n0 x hx h0 J Jx W hY (hT.below hW hw0) ((hW.cell (p := ⟨Bx, 0, none⟩) hBx).trans cx) hJ0

theorem each_calls (x : Nat) (w : World) :
    Calls Tryd.prog 33 #[.int .u64 (x : Int)] w fun e w' => e = .returned (.func (.func 52) #[] #[.pointer (some ⟨w.heap.size, 0, none⟩)]) ∧ w' = w.alloc (.cells #[.int .u64 (x : Int)] 58) := by
  have hmf : ∀ (fn : Fn) (first cap : Array Value) (w : World), (Instr.makeFunc fn first cap).run Tryd.prog w = .ok (.func fn first cap) w := fun _ _ _ _ => rfl
  go_enter Tryd.func33, Tryd.ntmps33
  go_wp2
  go_ret
  exact ⟨rfl, rfl⟩
end Go.Proofs.YthakingpeegagaaDoor

/-
  What words.Runs tells: the rows of set bits, one behind the other. It ranges over words.Each and calls its yield in those rounds.
-/
namespace Go.Proofs.YthakingpeegagaaDoor
open Go.RowKit Go.Shelf

attribute [local go_sem] Oper.semAt_some

/-- What is told of a row that begins at p. -/
def encR (x p : Nat) : Array Value := #[.int .i64 ((p % 64 : Nat) : Int), .int .i64 ((runLen x (p % 64) : Nat) : Int)]

theorem comp_eq {x q : Nat} (h : x / 2 ^ q < 18446744073709551616) : bits BinOp.xor IntKind.u64 (if IntKind.u64.signed = true then -1 else IntKind.u64.max) ((x : Int) / 2 ^ q) = ((comp (x / 2 ^ q) : Nat) : Int) := by
  have e : ((x : Int) / 2 ^ q) = ((x / 2 ^ q : Nat) : Int) := by simp
  rw [e, show (if IntKind.u64.signed = true then (-1 : Int) else IntKind.u64.max) = ((18446744073709551615 : Nat) : Int) by decide]
  exact bits_xor_u64 18446744073709551615 (x / 2 ^ q) (by decide) h

set_option maxRecDepth 100000 in
set_option maxHeartbeats 1000000 in
theorem runs1_in (n : Nat) (hn : 1 ≤ n) (l Bx n0 B x : Nat) (hx : x < 18446744073709551616) (h0 : 0 < n0) (J Jx : List Nat → World → Prop) (W : World) (hn0 : n0 ≤ W.heap.size) (hB : B ≤ W.heap.size)
    (hJ : OwnFrom W.heap.size J) (hJx : OwnFrom W.heap.size Jx)
    (hY : ∀ pre p W1, J pre W1 → pre.length < (starts x).length → YieldAt Fence.wide (n - 1) Tryd.prog l (encR x p) W1 fun e W' =>
      (e = .returned (.bool true) ∧ J (pre ++ [p]) W' ∧ Held n0 B Bx W1 W') ∨ (e = .returned (.bool false) ∧ Jx (pre ++ [p]) W' ∧ Held n0 B Bx W1 W'))
    (hT : Tab W) (ax : At W Bx #[.int .u64 (x : Int)] 58) (hJ0 : J [] W) :
    CallsIn Fence.wide n Tryd.prog 68 #[.func (.yield l) #[] #[], .pointer (some ⟨Bx, 0, none⟩)] W fun e W' => (∃ v, e = .returned v) ∧
      ((∃ xs, xs = starts x ∧ J xs W') ∨ (∃ pre, pre <+: starts x ∧ Jx pre W')) := by
  have hf := firstsW_lt hx
  have cx := (ax.alloc (.cells #[.func (.yield l) #[] #[]] 118)).cell 0
  simp only [List.getElem?_toArray, List.getElem?_cons_zero] at cx
  have e1 : IntKind.u64.wrap ((x : Int) * 2) = ((x * 2 % 18446744073709551616 : Nat) : Int) := by rw [IntKind.wrap_u64]; omega
  have e2 : bits BinOp.andNot IntKind.u64 (x : Int) ((x * 2 % 18446744073709551616 : Nat) : Int) = ((firstsW x : Nat) : Int) := bits_andn x _ hx (Nat.mod_lt _ (by decide))
  obtain ⟨Y, hYd⟩ : ∃ Y, x * 2 % 18446744073709551616 = Y := ⟨_, rfl⟩
  rw [hYd] at e1 e2
  obtain ⟨Fs, hFs⟩ : ∃ Fs, firstsW x = Fs := ⟨_, rfl⟩
  have hst : Hid (starts x = places Fs) := by show _ = _; rw [starts, hFs]
  rw [hFs] at e2 hf
  clear hYd hFs
  refine callsIn_of_wp_marks Tryd.func68 rfl trivial ?_ rfl
  simp only [Tryd.ntmps68, List.size_toArray, List.length_cons, List.length_nil, Nat.reduceAdd, Nat.reduceSub, Array.replicate_succ, Array.replicate_zero, List.push_toArray, List.append_toArray, List.nil_append, List.cons_append]
  gi_wp2_with fail
  refine ⟨trivial, ?_⟩
  refine (callsIn_wide.2 (each_calls Fs _)).mono ?_
  rintro e w1 ⟨rfl, hw1⟩
  have a0 : At w1 W.heap.size #[.func (.yield l) #[] #[]] 118 := by rw [hw1]; exact (At.new W _ _).alloc _
  have a1 : At w1 (W.heap.size + 1) #[.int .u64 (Fs : Int)] 58 := by
    have h := At.new (W.alloc (.cells #[.func (.yield l) #[] #[]] 118)) #[.int .u64 (Fs : Int)] 58
    rw [hw1]; simpa using h
  have axw : At w1 Bx #[.int .u64 (x : Int)] 58 := by rw [hw1]; exact (ax.alloc _).alloc _
  have hbW : Below W.heap.size W w1 := by rw [hw1]; repeat (first | with_reducible exact Below.refl _ _ | with_reducible refine Below.setCell ?_ (by first | (simp; done) | (simp; omega)) _ | with_reducible refine below_drewN ?_ _ | with_reducible refine Below.alloc ?_ (by first | (simp; done) | (simp; omega)) _ | with_reducible refine Below.drew ?_)
  have hz : w1.heap.size = W.heap.size + 1 + 1 := by rw [hw1]; simp
  have hJ1 : J [] w1 := by rw [hw1]; exact hJ.alloc _ (hJ.alloc _ hJ0)
  clear hw1
  have hT1 := hT.below hbW (by omega)
  gi_wp2_with fail
  refine wpIn_rangeFunc_ownH rfl (n := n) hn (gf := 52) (lb := #[.pointer (some ⟨W.heap.size + 1, 0, none⟩)]) rfl trivial (enters_of Tryd.func52 (by kernel_rfl) rfl)
    (each_stops (n - 1) (W.heap.size + 1) n0 Fs hf h0 w1 a1.lt (by omega) hT1 (a1.cell 0)) belowK_t (belowK_b (by omega)) (Below.refl _ _) (fun _ => rfl)
    (fun pre Wi => J pre Wi ∧ At Wi W.heap.size #[.func (.yield l) #[] #[]] 118 ∧ At Wi Bx #[.int .u64 (x : Int)] 58 ∧ Tab Wi ∧ w1.heap.size ≤ Wi.heap.size)
    (fun c pre Wi => c = .ret ∧ Jx pre Wi)
    (fun s X Y row ⟨h1, h2, h3, h4, h5⟩ hg hr => ⟨hJ s X Y row h1 hg (fun r e => ⟨by have := (hr r e).1; omega, (hr r e).2⟩), h2.own hg (fun r e => (hr r e).2), h3.own hg (fun r e => (hr r e).2),
      fun j hj => (World.cell?_of_block (w := X) (hg.block 0 (by omega) (fun e => by have := (hr 0 e.symm).1; omega))).trans (h4 j hj), Nat.le_trans h5 hg.size⟩)
    (fun c s X Y row ⟨h1, h2⟩ hg hr => ⟨h1, hJx s X Y row h2 hg (fun r e => ⟨by have := (hr r e).1; omega, (hr r e).2⟩)⟩)
    ⟨hJ1, a0, axw, hT1, Nat.le_refl _⟩
    (fun p a' _ => ∃ q : Nat, Hid (q = p % 64) ∧ a' = { tmps := #[.func (.yield l) #[] #[], .pointer (some ⟨Bx, 0, none⟩), .pointer (some ⟨W.heap.size, 0, none⟩), .int .u64 (Fs : Int), .int .i64 (q : Int), .int .u64 (x : Int), .int .u64 (x : Int), .int .u64 (Y : Int), .int .u64 (Fs : Int), .int .u64 (Fs : Int), .func (.func 52) #[] #[.pointer (some ⟨W.heap.size + 1, 0, none⟩)], .int .i64 (q : Int), undef, undef, undef, undef, undef, undef, undef, undef, undef], defers := [] })
    (fun _ _ _ _ _ _ hs _ _ => hs) ?assign ?body ?done ?stop
  case assign =>
    intro l2 pre p Wi K hI hK
    obtain ⟨q, hq⟩ : ∃ q, Hid (q = p % 64) := ⟨_, rfl⟩
    rw [encE, ← hq.out]
    have hK' := fun a' => hK a' Wi (KeepsFrom.refl _ _) (Below.refl _ _) hI
    clear hK
    gi_wp2
    exact ⟨q, hq, rfl⟩
  case body =>
    rintro l2 pre p a' Wi hll ⟨rec, hrec⟩ ⟨hJi, ay, axi, hTi, hzi⟩ ⟨q, hq, rfl⟩ hlt
    have hq64 : q < 64 := by rw [hq.out]; exact Nat.mod_lt _ (by decide)
    have cy := ay.cell 0
    have ci := axi.cell 0
    simp only [List.getElem?_toArray, List.getElem?_cons_zero] at cy ci
    have hq1 : (q : Int) ≤ 63 := by omega
    obtain ⟨Cv, hCvd⟩ : ∃ Cv, comp (x / 2 ^ q) = Cv := ⟨_, rfl⟩
    have hdl : x / 2 ^ q < 18446744073709551616 := Nat.lt_of_le_of_lt (Nat.div_le_self _ _) hx
    have hCv : Cv < 18446744073709551616 := hCvd ▸ comp_lt hdl
    have e3 : Hid (bits BinOp.xor IntKind.u64 (if IntKind.u64.signed = true then -1 else IntKind.u64.max) ((x : Int) / 2 ^ q) = (Cv : Int)) := by rw [← hCvd]; exact comp_eq hdl
    obtain ⟨R, hR⟩ : ∃ R, Hid (Lib.ctz 64 Cv = R) := ⟨_, rfl⟩
    have hRl : runLen x q = R := by rw [runLen, hCvd]; exact hR.out
    have hTd : Tab Wi.drew := hTi
    have hJd : J pre Wi.drew := hJ pre Wi Wi.drew none hJi (grown_of_below ((Below.refl _ _).drew)) (fun r e => by cases e)
    obtain ⟨fn, tmps, assign, body, hy, hRd⟩ := hY pre p Wi.drew hJd (by rw [hst.out]; exact hlt)
    rw [show encR x p = #[.int .i64 (q : Int), .int .i64 (R : Int)] by rw [encR, ← hq.out, hRl]] at hy
    clear hY hCvd hRl hlt hJd
    gi_wp2_with fail
    refine wpIn_region_lift (by kernel_rfl) (by kernel_rfl) ?_
    (refine' wpAnyIn_take (i := 1) rfl rfl (by kernel_rfl) (by kernel_rfl) (by kernel_rfl) (fun _ _ _ h => h) ⟨Or.inl ⟨by rfl, ?_⟩, fun _ => by rfl⟩ ?_; rotate_left; (· (intro wq; go_simp; first | done | with_reducible rfl)); simp only [Act.put, List.getElem_toArray, List.getElem_cons_zero, List.getElem_cons_succ, List.setIfInBounds_toArray, List.set_cons_zero, List.set_cons_succ])
    (refine' wpAnyIn_take (i := 3) rfl rfl (by kernel_rfl) (by kernel_rfl) (by kernel_rfl) (fun _ _ _ h => h) ⟨Or.inl ⟨by rfl, ?_⟩, fun _ => by rfl⟩ ?_; rotate_left; (· (intro wq; go_simp; first | done | with_reducible rfl)); simp only [Act.put, List.getElem_toArray, List.getElem_cons_zero, List.getElem_cons_succ, List.setIfInBounds_toArray, List.set_cons_zero, List.set_cons_succ])
    refine wpAnyIn_ready (rs := [0, 2]) (by kernel_rfl) (by simp) ?_
    refine AllReadyIn.cons rfl (fun K hK => ?_) ?_
    · rw [if_pos (by rfl)]
      unfold Oper.wpIn
      go_simp
      refine hK _ _ ?_
      clear hK K
      refine wpAnyIn_ready (rs := [2]) (by kernel_rfl) (by simp) ?_
      refine AllReadyIn.cons rfl (fun K hK => ?_) ?_
      · rw [if_pos (by rfl)]
        unfold Oper.wpIn
        go_simp
        refine hK _ _ ?_
        clear hK K
        (refine' wpAnyIn_take (i := 4) rfl rfl (by kernel_rfl) (by kernel_rfl) (by kernel_rfl) (fun _ _ _ h => h) ⟨Or.inl ⟨by rfl, ?_⟩, fun _ => by rfl⟩ ?_; rotate_left; (· (intro wq; go_simp; first | done | with_reducible rfl)); simp only [Act.put, List.getElem_toArray, List.getElem_cons_zero, List.getElem_cons_succ, List.setIfInBounds_toArray, List.set_cons_zero, List.set_cons_succ])
        (refine' wpAnyIn_take (i := 5) rfl rfl (by kernel_rfl) (by kernel_rfl) (by kernel_rfl) (fun _ _ _ h => h) ⟨Or.inl ⟨by rfl, ?_⟩, fun _ => by rfl⟩ ?_; rotate_left; (· (intro wq; go_simp; first | done | with_reducible rfl)); simp only [Act.put, List.getElem_toArray, List.getElem_cons_zero, List.getElem_cons_succ, List.setIfInBounds_toArray, List.set_cons_zero, List.set_cons_succ])
        refine wpAnyIn_ready (rs := [6]) (by kernel_rfl) (by simp) ?_
        refine AllReadyIn.cons rfl (fun K hK => ?_) ?_
        · rw [if_pos (by rfl)]
          unfold Oper.wpIn
          go_simp
          rw [e3.out]
          refine ⟨trivial, (fun h => by cases h), ?_⟩
          refine (callsIn_wide.2 (tz_calls Cv R hCv hR _ hTd)).mono ?_
          rintro e w3 ⟨rfl, rfl⟩
          refine hK _ _ ?_
          clear hK K
          refine wpAnyIn_ready (rs := [7]) (by kernel_rfl) (by simp) ?_
          refine AllReadyIn.cons rfl (fun K hK => ?_) ?_
          · rw [if_pos (by rfl)]
            unfold Oper.wpIn
            go_simp
            refine ⟨(fun h => by cases h), (roundIn_any hRd).mono ?_⟩
            rintro e W3 (⟨rfl, hJ3, hk3⟩ | ⟨rfl, hJx3, hk3⟩)
            · refine hK _ _ ?_
              clear hK K
              (refine' wpAnyIn_take (i := 8) rfl rfl (by kernel_rfl) (by kernel_rfl) (by kernel_rfl) (fun _ _ _ h => h) ⟨Or.inl ⟨by rfl, ?_⟩, fun _ => by rfl⟩ ?_; rotate_left; (· (intro wq; go_simp; first | done | with_reducible rfl)); simp only [Act.put, List.getElem_toArray, List.getElem_cons_zero, List.getElem_cons_succ, List.setIfInBounds_toArray, List.set_cons_zero, List.set_cons_succ])
              refine wpAnyIn_done (by kernel_rfl) ?_ _
              have a2 := hk3.at ay (.inl hB)
              have a3 := hk3.at axi (.inr rfl)
              have hT3 := hTd.below hk3.1 h0
              have hs3 : w1.heap.size ≤ W3.heap.size := Nat.le_trans hzi hk3.2.1
              have kf : KeepsFrom w1.heap.size Wi W3 := KeepsFrom.trans ((KeepsOthers.drew Wi).from _) (hk3.from (by omega))
              have hbl : Below n0 Wi W3 := ((Below.refl _ Wi).drew).trans hk3.1
              clear hy hRd hJi hrec hk3
              rename_i Kz hKz
              refine hKz _ _ ?_
              gi_wp2
              exact ⟨kf, hbl, hJ3, a2, a3, hT3, hs3⟩
            · refine hK _ _ ?_
              clear hK K
              (refine' wpAnyIn_take (i := 8) rfl rfl (by kernel_rfl) (by kernel_rfl) (by kernel_rfl) (fun _ _ _ h => h) ⟨Or.inl ⟨by rfl, ?_⟩, fun _ => by rfl⟩ ?_; rotate_left; (· (intro wq; go_simp; first | done | with_reducible rfl)); simp only [Act.put, List.getElem_toArray, List.getElem_cons_zero, List.getElem_cons_succ, List.setIfInBounds_toArray, List.set_cons_zero, List.set_cons_succ])
              refine wpAnyIn_done (by kernel_rfl) ?_ _
              have kf : KeepsFrom w1.heap.size Wi W3 := KeepsFrom.trans ((KeepsOthers.drew Wi).from _) (hk3.from (by omega))
              clear hy hRd hJi hrec hk3
              rename_i Kz hKz
              refine hKz _ _ ?_
              gi_wp2
              exact ⟨kf, rfl, hJx3⟩
          · exact AllReadyIn.nil
        · exact AllReadyIn.nil
      · exact AllReadyIn.nil
    · refine AllReadyIn.cons rfl (fun K hK => ?_) ?_
      · rw [if_pos (by rfl)]
        unfold Oper.wpIn
        go_simp
        refine hK _ _ ?_
        clear hK K
        (refine' wpAnyIn_take (i := 4) rfl rfl (by kernel_rfl) (by kernel_rfl) (by kernel_rfl) (fun _ _ _ h => h) ⟨Or.inl ⟨by rfl, ?_⟩, fun _ => by rfl⟩ ?_; rotate_left; (· (intro wq; go_simp; first | done | with_reducible rfl)); simp only [Act.put, List.getElem_toArray, List.getElem_cons_zero, List.getElem_cons_succ, List.setIfInBounds_toArray, List.set_cons_zero, List.set_cons_succ])
        (refine' wpAnyIn_take (i := 5) rfl rfl (by kernel_rfl) (by kernel_rfl) (by kernel_rfl) (fun _ _ _ h => h) ⟨Or.inl ⟨by rfl, ?_⟩, fun _ => by rfl⟩ ?_; rotate_left; (· (intro wq; go_simp; first | done | with_reducible rfl)); simp only [Act.put, List.getElem_toArray, List.getElem_cons_zero, List.getElem_cons_succ, List.setIfInBounds_toArray, List.set_cons_zero, List.set_cons_succ])
        refine wpAnyIn_ready (rs := [0, 6]) (by kernel_rfl) (by simp) ?_
        refine AllReadyIn.cons rfl (fun K hK => ?_) ?_
        · rw [if_pos (by rfl)]
          unfold Oper.wpIn
          go_simp
          refine hK _ _ ?_
          clear hK K
          refine wpAnyIn_ready (rs := [6]) (by kernel_rfl) (by simp) ?_
          refine AllReadyIn.cons rfl (fun K hK => ?_) ?_
          · rw [if_pos (by rfl)]
            unfold Oper.wpIn
            go_simp
            rw [e3.out]
            refine ⟨trivial, (fun h => by cases h), ?_⟩
            refine (callsIn_wide.2 (tz_calls Cv R hCv hR _ hTd)).mono ?_
            rintro e w3 ⟨rfl, rfl⟩
            refine hK _ _ ?_
            clear hK K
            refine wpAnyIn_ready (rs := [7]) (by kernel_rfl) (by simp) ?_
            refine AllReadyIn.cons rfl (fun K hK => ?_) ?_
            · rw [if_pos (by rfl)]
              unfold Oper.wpIn
              go_simp
              refine ⟨(fun h => by cases h), (roundIn_any hRd).mono ?_⟩
              rintro e W3 (⟨rfl, hJ3, hk3⟩ | ⟨rfl, hJx3, hk3⟩)
              · refine hK _ _ ?_
                clear hK K
                (refine' wpAnyIn_take (i := 8) rfl rfl (by kernel_rfl) (by kernel_rfl) (by kernel_rfl) (fun _ _ _ h => h) ⟨Or.inl ⟨by rfl, ?_⟩, fun _ => by rfl⟩ ?_; rotate_left; (· (intro wq; go_simp; first | done | with_reducible rfl)); simp only [Act.put, List.getElem_toArray, List.getElem_cons_zero, List.getElem_cons_succ, List.setIfInBounds_toArray, List.set_cons_zero, List.set_cons_succ])
                refine wpAnyIn_done (by kernel_rfl) ?_ _
                have a2 := hk3.at ay (.inl hB)
                have a3 := hk3.at axi (.inr rfl)
                have hT3 := hTd.below hk3.1 h0
                have hs3 : w1.heap.size ≤ W3.heap.size := Nat.le_trans hzi hk3.2.1
                have kf : KeepsFrom w1.heap.size Wi W3 := KeepsFrom.trans ((KeepsOthers.drew Wi).from _) (hk3.from (by omega))
                have hbl : Below n0 Wi W3 := ((Below.refl _ Wi).drew).trans hk3.1
                clear hy hRd hJi hrec hk3
                rename_i Kz hKz
                refine hKz _ _ ?_
                gi_wp2
                exact ⟨kf, hbl, hJ3, a2, a3, hT3, hs3⟩
              · refine hK _ _ ?_
                clear hK K
                (refine' wpAnyIn_take (i := 8) rfl rfl (by kernel_rfl) (by kernel_rfl) (by kernel_rfl) (fun _ _ _ h => h) ⟨Or.inl ⟨by rfl, ?_⟩, fun _ => by rfl⟩ ?_; rotate_left; (· (intro wq; go_simp; first | done | with_reducible rfl)); simp only [Act.put, List.getElem_toArray, List.getElem_cons_zero, List.getElem_cons_succ, List.setIfInBounds_toArray, List.set_cons_zero, List.set_cons_succ])
                refine wpAnyIn_done (by kernel_rfl) ?_ _
                have kf : KeepsFrom w1.heap.size Wi W3 := KeepsFrom.trans ((KeepsOthers.drew Wi).from _) (hk3.from (by omega))
                clear hy hRd hJi hrec hk3
                rename_i Kz hKz
                refine hKz _ _ ?_
                gi_wp2
                exact ⟨kf, rfl, hJx3⟩
            · exact AllReadyIn.nil
          · exact AllReadyIn.nil
        · refine AllReadyIn.cons rfl (fun K hK => ?_) ?_
          · rw [if_pos (by rfl)]
            unfold Oper.wpIn
            go_simp
            rw [e3.out]
            refine ⟨trivial, (fun h => by cases h), ?_⟩
            refine (callsIn_wide.2 (tz_calls Cv R hCv hR _ hTd)).mono ?_
            rintro e w3 ⟨rfl, rfl⟩
            refine hK _ _ ?_
            clear hK K
            refine wpAnyIn_ready (rs := [0]) (by kernel_rfl) (by simp) ?_
            refine AllReadyIn.cons rfl (fun K hK => ?_) ?_
            · rw [if_pos (by rfl)]
              unfold Oper.wpIn
              go_simp
              refine hK _ _ ?_
              clear hK K
              refine wpAnyIn_ready (rs := [7]) (by kernel_rfl) (by simp) ?_
              refine AllReadyIn.cons rfl (fun K hK => ?_) ?_
              · rw [if_pos (by rfl)]
                unfold Oper.wpIn
                go_simp
                refine ⟨(fun h => by cases h), (roundIn_any hRd).mono ?_⟩
                rintro e W3 (⟨rfl, hJ3, hk3⟩ | ⟨rfl, hJx3, hk3⟩)
                · refine hK _ _ ?_
                  clear hK K
                  (refine' wpAnyIn_take (i := 8) rfl rfl (by kernel_rfl) (by kernel_rfl) (by kernel_rfl) (fun _ _ _ h => h) ⟨Or.inl ⟨by rfl, ?_⟩, fun _ => by rfl⟩ ?_; rotate_left; (· (intro wq; go_simp; first | done | with_reducible rfl)); simp only [Act.put, List.getElem_toArray, List.getElem_cons_zero, List.getElem_cons_succ, List.setIfInBounds_toArray, List.set_cons_zero, List.set_cons_succ])
                  refine wpAnyIn_done (by kernel_rfl) ?_ _
                  have a2 := hk3.at ay (.inl hB)
                  have a3 := hk3.at axi (.inr rfl)
                  have hT3 := hTd.below hk3.1 h0
                  have hs3 : w1.heap.size ≤ W3.heap.size := Nat.le_trans hzi hk3.2.1
                  have kf : KeepsFrom w1.heap.size Wi W3 := KeepsFrom.trans ((KeepsOthers.drew Wi).from _) (hk3.from (by omega))
                  have hbl : Below n0 Wi W3 := ((Below.refl _ Wi).drew).trans hk3.1
                  clear hy hRd hJi hrec hk3
                  rename_i Kz hKz
                  refine hKz _ _ ?_
                  gi_wp2
                  exact ⟨kf, hbl, hJ3, a2, a3, hT3, hs3⟩
                · refine hK _ _ ?_
                  clear hK K
                  (refine' wpAnyIn_take (i := 8) rfl rfl (by kernel_rfl) (by kernel_rfl) (by kernel_rfl) (fun _ _ _ h => h) ⟨Or.inl ⟨by rfl, ?_⟩, fun _ => by rfl⟩ ?_; rotate_left; (· (intro wq; go_simp; first | done | with_reducible rfl)); simp only [Act.put, List.getElem_toArray, List.getElem_cons_zero, List.getElem_cons_succ, List.setIfInBounds_toArray, List.set_cons_zero, List.set_cons_succ])
                  refine wpAnyIn_done (by kernel_rfl) ?_ _
                  have kf : KeepsFrom w1.heap.size Wi W3 := KeepsFrom.trans ((KeepsOthers.drew Wi).from _) (hk3.from (by omega))
                  clear hy hRd hJi hrec hk3
                  rename_i Kz hKz
                  refine hKz _ _ ?_
                  gi_wp2
                  exact ⟨kf, rfl, hJx3⟩
              · exact AllReadyIn.nil
            · exact AllReadyIn.nil
          · exact AllReadyIn.nil
      · exact AllReadyIn.nil
  case done =>
    rintro D xs Wi hD hxs ⟨hJi, -, -, -, -⟩ hK
    clear hY
    gi_wp2
    refine ⟨by simp, .inl ⟨_, _, rfl, run_takeDeferred hK, ?_⟩⟩
    refine ⟨_, results_none rfl _ _ _, ⟨_, rfl⟩, .inl ⟨xs, hxs.trans hst.out.symm, hJ.putObj _ hJi (by omega) hK rfl⟩⟩
  case stop =>
    rintro D c pre Wi hD hpre ⟨rfl, hX⟩ hK
    clear hY
    gi_wp2
    refine ⟨by simp, .inl ⟨_, _, rfl, run_takeDeferred hK, ?_⟩⟩
    refine ⟨_, results_none rfl _ _ _, ⟨_, rfl⟩, .inr ⟨pre, by rw [hst.out]; exact hpre, hJx.putObj _ hX (by omega) hK rfl⟩⟩

theorem runs_held (n : Nat) (hn : 1 ≤ n) (Bx n0 B x : Nat) (hx : x < 18446744073709551616) (h0 : 0 < n0) (w : World) (hn0 : n0 ≤ w.heap.size) (hw0 : 0 < w.heap.size) (hB : B ≤ w.heap.size + 1 + 1) (hT : Tab w) (ax : At w Bx #[.int .u64 (x : Int)] 58) :
    SeqHeld n Tryd.prog 68 #[.pointer (some ⟨Bx, 0, none⟩)] (encR x) (Held n0 B Bx) (fun xs => xs = starts x) (fun pre => pre <+: starts x) (starts x).length w :=
  fun l J Jx W hW hJ hJx hY hJ0 hsz => runs1_in n hn l Bx n0 B x hx h0 J Jx W (Nat.le_trans hn0 hW.size) (Nat.le_trans hB hsz) hJ hJx hY (hT.below hW hw0) (ax.keptAll hW) hJ0

theorem runs_calls (x : Nat) (w : World) :
    Calls Tryd.prog 58 #[.int .u64 (x : Int)] w fun e w' => e = .returned (.func (.func 68) #[] #[.pointer (some ⟨w.heap.size, 0, none⟩)]) ∧ w' = w.alloc (.cells #[.int .u64 (x : Int)] 58) := by
  have hmf : ∀ (fn : Fn) (first cap : Array Value) (w : World), (Instr.makeFunc fn first cap).run Tryd.prog w = .ok (.func fn first cap) w := fun _ _ _ _ => rfl
  go_enter Tryd.func58, Tryd.ntmps58
  go_wp2
  go_ret
  exact ⟨rfl, rfl⟩
end Go.Proofs.YthakingpeegagaaDoor

/-
  What words.Escaped answers.
-/
namespace Go.Proofs.YthakingpeegagaaDoor
open Go.RowKit Go.Shelf

attribute [local go_sem] Oper.semAt_some

/-- The frame in which a round's body begins. -/
def escFrame (x e0 y b : Nat) (c : Bool) (q r : Nat) : Act :=
  { tmps := #[.int .u64 (x : Int), .bool c, undef, undef, .int .u64 0, .bool false, .pointer (some ⟨b, 0, none⟩), .int .i64 (q : Int), .int .i64 (r : Int), undef, .bool c, .int .u64 (e0 : Int), .int .u64 (x : Int), .int .u64 (e0 : Int), .int .u64 (y : Int),
      .func (.func 68) #[] #[.pointer (some ⟨b + 1, 0, none⟩)], .int .i64 (q : Int), .int .i64 (r : Int), undef, undef, undef, undef, undef, undef, undef, undef, undef, undef, undef, undef, undef, undef, undef, undef], defers := [] }

theorem row_eq (q r1 V : Nat) (hV : V = (12297829382473034410 &&& (2 ^ min r1 64 - 1)) * 2 ^ q % 18446744073709551616) :
    IntKind.u64.wrap (bits BinOp.and IntKind.u64 12297829382473034410 (IntKind.u64.wrap (IntKind.u64.wrap ((2 : Int) ^ min r1 64) - 1)) * 2 ^ q) = (V : Int) := by
  obtain ⟨m, hm, hm64⟩ : ∃ m, min r1 64 = m ∧ m ≤ 64 := ⟨_, rfl, Nat.min_le_right _ _⟩
  rw [hm] at hV ⊢
  have hp : (2 : Nat) ^ m ≤ 18446744073709551616 := Nat.pow_le_pow_right (n := 2) (j := 64) (by decide) hm64
  have hp0 : 0 < (2 : Nat) ^ m := Nat.pow_pos (by decide)
  have e : ((2 : Int) ^ m) = ((2 ^ m : Nat) : Int) := by simp
  have e1 : IntKind.u64.wrap (IntKind.u64.wrap ((2 : Int) ^ m) - 1) = ((2 ^ m - 1 : Nat) : Int) := by
    rw [e, IntKind.wrap_u64, IntKind.wrap_u64]
    by_cases h : 2 ^ m = 18446744073709551616
    · rw [h]; rfl
    · omega
  have b : bits BinOp.and IntKind.u64 12297829382473034410 ((2 ^ m - 1 : Nat) : Int) = ((12297829382473034410 &&& (2 ^ m - 1) : Nat) : Int) := bits_and_u64_nat 12297829382473034410 (2 ^ m - 1) (by decide) (by omega)
  rw [e1, b, hV, IntKind.wrap_u64]
  simp

set_option maxRecDepth 100000 in
set_option maxHeartbeats 1000000 in
theorem escaped_in (x S : Nat) (c C : Bool) (hx : x < 18446744073709551616) (hS : Hid (escW x c = S ∧ escC x c 64 = C)) (w : World) (hT : Tab w) (h0 : 0 < w.heap.size) :
    CallsIn Fence.wide 3 Tryd.prog 42 #[.int .u64 (x : Int), .bool c] w fun e w' => e = .returned (.tuple #[.int .u64 (S : Int), .bool C]) ∧ Below w.heap.size w w' := by
  obtain ⟨e0, he0⟩ : ∃ e0, c.toNat = e0 := ⟨_, rfl⟩
  have hone : ∀ w, Calls Tryd.prog 57 #[.bool c] w fun e w' => e = .returned (.int .u64 (e0 : Int)) ∧ w' = w := by
    intro w
    subst he0
    cases c <;> (go_enter Tryd.func57, Tryd.ntmps57; go_wp2; go_ret; exact ⟨rfl, rfl⟩)
  have hel : e0 < 18446744073709551616 := by rw [← he0]; cases c <;> decide
  obtain ⟨y, hyd⟩ : ∃ y, andn x e0 = y := ⟨_, rfl⟩
  have hy : y < 18446744073709551616 := hyd ▸ andn_lt hx
  have e1 : bits BinOp.andNot IntKind.u64 (x : Int) (e0 : Int) = (y : Int) := by rw [bits_andn x e0 hx hel, hyd]
  have hfin : Hid (rowsW y e0 (starts y) = S) := by
    show _ = _
    have := esc_rows x c hx
    rw [he0, hyd] at this
    exact this.trans hS.out.1
  have hout : Hid (andn x S / 9223372036854775808 = C.toNat) := by
    show _ = _
    have := esc_out x c hx
    rw [hS.out.1, hS.out.2] at this
    exact this
  have hSl : S < 18446744073709551616 := hS.out.1 ▸ escW_lt x c
  have hone' : Hid _ := hone
  clear hone he0 hyd hS
  refine callsIn_of_wp_marks Tryd.func42 rfl trivial ?_ rfl
  simp only [Tryd.ntmps42, List.size_toArray, List.length_cons, List.length_nil, Nat.reduceAdd, Nat.reduceSub, Array.replicate_succ, Array.replicate_zero, List.push_toArray, List.append_toArray, List.nil_append, List.cons_append]
  gi_wp2_with fail
  refine ⟨trivial, ?_⟩
  refine (callsIn_wide.2 (hone'.out _)).mono ?_
  rintro e w0 ⟨rfl, rfl⟩
  gi_wp2_with fail
  refine ⟨trivial, ?_⟩
  refine (callsIn_wide.2 (runs_calls y _)).mono ?_
  rintro e w1 ⟨rfl, hw1⟩
  have a0 : At w1 w0.heap.size #[.int .u64 (e0 : Int)] 58 := by rw [hw1]; exact (At.new w0 _ _).alloc _
  have a1 : At w1 (w0.heap.size + 1) #[.int .u64 (y : Int)] 58 := by
    have h := At.new (w0.alloc (.cells #[.int .u64 (e0 : Int)] 58)) #[.int .u64 (y : Int)] 58
    rw [hw1]; simpa using h
  have hB : Below w0.heap.size w0 w1 := by rw [hw1]; repeat (first | with_reducible exact Below.refl _ _ | with_reducible refine Below.setCell ?_ (by first | (simp; done) | (simp; omega)) _ | with_reducible refine below_drewN ?_ _ | with_reducible refine Below.alloc ?_ (by first | (simp; done) | (simp; omega)) _ | with_reducible refine Below.drew ?_)
  have hz : w1.heap.size = w0.heap.size + 1 + 1 := by rw [hw1]; simp
  have hzb : (w0.alloc (.cells #[.int .u64 (e0 : Int)] 58)).heap.size = w0.heap.size + 1 := by simp
  rw [hzb]
  clear hw1 hzb
  have hT1 := hT.below hB h0
  gi_wp2_with fail
  refine range_held (n := 3) (by decide) (gf := 68) (lb := #[.pointer (some ⟨w0.heap.size + 1, 0, none⟩)]) rfl (enters_of Tryd.func68 (by kernel_rfl) rfl)
    (runs_held (3 - 1) (by decide) (w0.heap.size + 1) w0.heap.size (w1.heap.size + 1 + 1) y hy h0 w1 (by omega) (by omega) (Nat.le_refl _) hT1 a1) (Below.refl _ _) (fun _ => rfl) Held.trans (fun W r r' h => Held.turn h (by omega) (by omega) (by omega))
    (fun pre W => At W w0.heap.size #[.int .u64 ((rowsW y e0 pre : Nat) : Int)] 58 ∧ Below w0.heap.size w0 W)
    (fun _ _ _ => False)
    (fun _ X Y row ⟨h1, hb⟩ hg hr => ⟨h1.own hg (fun r e => (hr r e).2), ownFrom_below (β := List Nat) (Nat.le_refl _) (by omega) [] X Y row hb hg hr⟩)
    (fun _ _ _ _ _ hs _ _ => hs)
    ⟨a0, hB⟩
    (fun p => escFrame x e0 y w0.heap.size c (p % 64) (runLen y (p % 64)))
    ?assign ?body ?done ?stop
  case assign =>
    intro l p W K hK
    rw [encR]
    generalize runLen y (p % 64) = r at *
    generalize p % 64 = q at *
    gi_wp2
    exact hK
  case body =>
    intro l pre p W hll ⟨h1, hb⟩ hlt
    have hq : p % 64 < 64 := Nat.mod_lt _ (by decide)
    have hr : runLen y (p % 64) ≤ 64 := by have := (run_spec hy hq).2.2; omega
    have hrow := rowW_lt y p
    have hpl := rowsW_lt y e0 hel pre
    have hsn := rowsW_snoc y e0 pre p
    have hdef : rowW y p = (12297829382473034410 &&& (2 ^ min (runLen y (p % 64) + 1) 64 - 1)) * 2 ^ (p % 64) % 18446744073709551616 := rfl
    obtain ⟨V, hV⟩ : ∃ V, rowW y p = V := ⟨_, rfl⟩
    rw [hV] at hrow hsn hdef
    generalize rowsW y e0 pre = E at *
    generalize runLen y (p % 64) = r at *
    generalize p % 64 = q at *
    have hor := bits_or_u64 E V hpl hrow
    have c1 := h1.cell 0
    have f1 := h1.frozen 0
    simp only [List.getElem?_toArray, List.getElem?_cons_zero] at c1
    have hdef' : Hid _ := hdef
    have hsn' : Hid _ := hsn
    clear hdef hsn hV
    obtain ⟨r1, hr1⟩ : ∃ r1, r + 1 = r1 := ⟨_, rfl⟩
    rw [hr1] at hdef'
    have e4 : (r : Int) + 1 = (r1 : Int) := by omega
    have hr1l : r1 ≤ 65 := by omega
    clear hr1 hr
    unfold escFrame
    have e5 := row_eq q r1 V hdef'.out
    replace e5 : Hid _ := e5
    gi_wp2_with fail
    refine wpIn_region_lift (by kernel_rfl) (by kernel_rfl) ?_
    (refine' wpAnyIn_take (i := 1) rfl rfl (by kernel_rfl) (by kernel_rfl) (by kernel_rfl) (fun _ _ _ h => h) ⟨Or.inl ⟨by rfl, ?_⟩, fun _ => by rfl⟩ ?_; rotate_left; (· (intro wq; go_simp; first | done | with_reducible rfl)); simp only [Act.put, List.getElem_toArray, List.getElem_cons_zero, List.getElem_cons_succ, List.setIfInBounds_toArray, List.set_cons_zero, List.set_cons_succ])
    (refine' wpAnyIn_take (i := 2) rfl rfl (by kernel_rfl) (by kernel_rfl) (by kernel_rfl) (fun _ _ _ h => h) ⟨Or.inl ⟨by rfl, ?_⟩, fun _ => by rfl⟩ ?_; rotate_left; (· (intro wq; go_simp; first | done | with_reducible rfl)); simp only [Act.put, List.getElem_toArray, List.getElem_cons_zero, List.getElem_cons_succ, List.setIfInBounds_toArray, List.set_cons_zero, List.set_cons_succ])
    (refine' wpAnyIn_take (i := 3) rfl rfl (by kernel_rfl) (by kernel_rfl) (by kernel_rfl) (fun _ _ _ h => h) ⟨Or.inl ⟨by rfl, ?_⟩, fun _ => by rfl⟩ ?_; rotate_left; (· (intro wq; go_simp; first | done | with_reducible rfl)); simp only [Act.put, List.getElem_toArray, List.getElem_cons_zero, List.getElem_cons_succ, List.setIfInBounds_toArray, List.set_cons_zero, List.set_cons_succ])
    (refine' wpAnyIn_take (i := 4) rfl rfl (by kernel_rfl) (by kernel_rfl) (by kernel_rfl) (fun _ _ _ h => h) ⟨Or.inl ⟨by rfl, ?_⟩, fun _ => by rfl⟩ ?_; rotate_left; (· (intro wq; go_simp; first | done | with_reducible rfl)); simp only [Act.put, List.getElem_toArray, List.getElem_cons_zero, List.getElem_cons_succ, List.setIfInBounds_toArray, List.set_cons_zero, List.set_cons_succ])
    refine wpAnyIn_ready (rs := [0]) (by kernel_rfl) (by simp) ?_
    refine AllReadyIn.cons rfl (fun K hK => ?_) ?_
    · rw [if_pos (by rfl)]
      unfold Oper.wpIn
      go_simp
      refine hK _ _ ?_
      clear hK K
      rw [e5.out]
      (refine' wpAnyIn_take (i := 5) rfl rfl (by kernel_rfl) (by kernel_rfl) (by kernel_rfl) (fun _ _ _ h => h) ⟨Or.inl ⟨by rfl, ?_⟩, fun _ => by rfl⟩ ?_; rotate_left; (· (intro wq; go_simp; first | done | with_reducible rfl)); simp only [Act.put, List.getElem_toArray, List.getElem_cons_zero, List.getElem_cons_succ, List.setIfInBounds_toArray, List.set_cons_zero, List.set_cons_succ])
      refine wpAnyIn_ready (rs := [6]) (by kernel_rfl) (by simp) ?_
      refine AllReadyIn.cons rfl (fun K hK => ?_) ?_
      · rw [if_pos (by rfl)]
        unfold Oper.wpIn
        go_simp
        refine hK _ _ ?_
        clear hK K
        refine wpAnyIn_done (by kernel_rfl) ?_ _
        refine ⟨((KeepsOthers.drew W).trans (KeepsOthers.setCell _ _ _)).from _, (Held.drew W).trans (Held.setCell (b := w0.heap.size) _ _ (Nat.le_refl _) (by omega) (by omega)), ?_, (hb.drew).setCell (p := ⟨w0.heap.size, 0, none⟩) (Nat.le_refl _) _⟩
        rw [hsn'.out]
        exact h1.drew.set 0 _
      · exact AllReadyIn.nil
    · exact AllReadyIn.nil
  case done =>
    rintro D xs W hD rfl ⟨h1, hb⟩ hK
    rw [hfin.out] at h1
    have c1 := h1.cell 0
    simp only [List.getElem?_toArray, List.getElem?_cons_zero] at c1
    obtain ⟨Z, hZ⟩ : ∃ Z, andn x S = Z := ⟨_, rfl⟩
    have b2 : bits BinOp.andNot IntKind.u64 (x : Int) (S : Int) = (Z : Int) := by rw [bits_andn x S hx hSl, hZ]
    have b3 : ((Z : Int) / 9223372036854775808 == 1) = C := by
      have h := hout.out
      rw [hZ] at h
      have e : ((Z : Int) / 9223372036854775808) = ((Z / 9223372036854775808 : Nat) : Int) := by simp
      rw [e, h]
      cases C <;> rfl
    gi_wp2
    gi_region
    all_goals gi_wp2
    refine ⟨by simp, .inl ⟨_, _, rfl, run_takeDeferred (w := W.drew) hK, ?_⟩⟩
    exact ⟨_, results_tmp2 rfl _ _ _, rfl, hb.drew.trans (belowK_b (w := w0) (Nat.le_refl _) W.drew D _ _ (by omega) hK rfl rfl)⟩
  case stop =>
    rintro D c pre W _ _ h _
    exact h.elim

theorem escaped_calls (x S : Nat) (c C : Bool) (hx : x < 18446744073709551616) (hS : Hid (escW x c = S ∧ escC x c 64 = C)) (w : World) (hT : Tab w) (h0 : 0 < w.heap.size) :
    Calls Tryd.prog 42 #[.int .u64 (x : Int), .bool c] w fun e w' => e = .returned (.tuple #[.int .u64 (S : Int), .bool C]) ∧ Below w.heap.size w w' := callsIn_wide.1 (escaped_in x S c C hx hS w hT h0)
end Go.Proofs.YthakingpeegagaaDoor

/-
  What words.Select answers.
-/
namespace Go.Proofs.YthakingpeegagaaDoor
open Go.RowKit Go.Shelf

attribute [local go_sem] Oper.semAt_some

/-- The place of the set bit that has k set ones below it, or -1. -/
def selW (x : Nat) (k : Int) : Int := if 0 ≤ k then (match (places x)[k.toNat]? with | some p => (p : Int) | none => -1) else -1
theorem selW_at {x : Nat} {pre : List Nat} {p : Nat} {k : Int} (h : pre ++ [p] <+: places x) (hk : (pre.length : Int) = k) : selW x k = ((p % 64 : Nat) : Int) := by
  obtain ⟨t, ht⟩ := h
  subst hk
  have e : (places x)[pre.length]? = some p := by rw [← ht]; simp
  have hp : p < 64 := (places_lt (List.mem_of_getElem? e)).1
  rw [selW, if_pos (by omega), Int.toNat_natCast, e, Nat.mod_eq_of_lt hp]
theorem selW_none {x : Nat} {k : Int} (h : k < 0 ∨ (places x).length ≤ k) : selW x k = -1 := by
  rw [selW]
  split
  · rw [List.getElem?_eq_none (by omega)]
  · rfl

end Go.Proofs.YthakingpeegagaaDoor

/-
  A row of bits that comes in by value; lists of words.
-/
namespace Go.Proofs.YthakingpeegagaaDoor
open Go.ChangeShapes Go.WideShapes Go.ChangeAt Go.RowKit
set_option maxRecDepth 100000

/-- The slice's cells hold these words. -/
def Wds (w : World) (ao : Option Addr) (k : Nat) (X : Nat → Nat) : Prop :=
  ∀ j, j < k → X j < 18446744073709551616 ∧ ∃ g off, ao = some ⟨g, off, none⟩ ∧ w.cell? ⟨g, off + j, none⟩ = some (.int .u64 ((X j : Nat) : Int))
/-- The slice's cells hold these numbers. -/
def Nums (w : World) (ao : Option Addr) (k : Nat) (Z : Nat → Int) : Prop :=
  ∀ j, j < k → (Lit.int .i64 (Z j)).wf = true ∧ ∃ g off, ao = some ⟨g, off, none⟩ ∧ w.cell? ⟨g, off + j, none⟩ = some (.int .i64 (Z j))

theorem cell_block {w : World} {a : Addr} {v : Value} (h : w.cell? a = some v) : a.block < w.heap.size := by
  unfold World.cell? at h
  cases ho : w.heap[a.block]? with
  | none => simp [ho] at h
  | some o => exact (Array.getElem?_eq_some_iff.1 ho).1
theorem Wds.kept {w w' : World} {ao : Option Addr} {k : Nat} {X : Nat → Nat} (h : Wds w ao k X) (hb : Below w.heap.size w w') : Wds w' ao k X := fun j hj => by
  obtain ⟨h1, g, off, h2, h3⟩ := h j hj
  exact ⟨h1, g, off, h2, (hb.cell (p := ⟨g, off + j, none⟩) (cell_block h3)).trans h3⟩
theorem Nums.kept {w w' : World} {ao : Option Addr} {k : Nat} {Z : Nat → Int} (h : Nums w ao k Z) (hb : Below w.heap.size w w') : Nums w' ao k Z := fun j hj => by
  obtain ⟨h1, g, off, h2, h3⟩ := h j hj
  exact ⟨h1, g, off, h2, (hb.cell (p := ⟨g, off + j, none⟩) (cell_block h3)).trans h3⟩
theorem Wds.le {w : World} {ao : Option Addr} {k k' : Nat} {X : Nat → Nat} (h : Wds w ao k X) (hk : k' ≤ k) : Wds w ao k' X := fun j hj => h j (by omega)

section
variable {H : Type} {enc : TypeId × Value → H} {P : Program} {w : World} {base : Nat} {spare : Nat → Bool} {held : Bool}
/-- What the datum of a slice tells of its length. -/
def Long (d : DataW H) (k : Nat) : Prop := k = 0 ∨ ∃ elems spare, d = .slice elems spare ∧ elems.length = k

theorem ints_slice {t e : TypeId} {k : IntKind} {fuel : Nat} {v : Value} {x : DataW H × List MemPlace} (ht : P.underlying t = some (.slice e)) (he : P.underlying e = some (.int k)) (hc : P.cellsOf e = 1)
    (h : DataW.trod enc P w base spare held fuel t [v] = some x) :
    ∃ (ao : Option Addr) (len cap : Nat) (Z : Nat → Int), v = .slice ao len cap ∧ len ≤ cap ∧ cap ≤ maxLen ∧ Long x.1 len ∧
      ∀ j, j < len → (Lit.int k (Z j)).wf = true ∧ ∃ g off, ao = some ⟨g, off, none⟩ ∧ w.cell? ⟨g, off + j, none⟩ = some (.int k (Z j)) := by
  rcases open_ints ht he hc h with ⟨hcs, _⟩ | ⟨a, len, cap, zs, hcs, _, hl, hm, hz, hx, hcell, hwz⟩
  · simp at hcs
    subst hcs
    exact ⟨none, 0, 0, fun _ => 0, rfl, Nat.le_refl _, Nat.zero_le _, .inl rfl, fun j hj => by omega⟩
  · simp at hcs
    subst hcs
    have hlz : len ≤ zs.length := by rw [hz]; split <;> omega
    refine ⟨some a, len, cap, fun j => zs.getD j 0, rfl, hl, hm, .inr ⟨_, _, by rw [hx], by simp [lits]; omega⟩, fun i hi => ?_⟩
    obtain ⟨b, off, spot⟩ := a
    have hspot : spot = none := by simpa [Addr.add] using World.cell?_spot (hcell 0 (by omega))
    subst hspot
    have hci := hcell i (by omega)
    have e : (⟨b, off, none⟩ : Addr).add i = ⟨b, off + i, none⟩ := by by_cases h : i = 0 <;> simp [Addr.add, h]
    rw [e] at hci
    refine ⟨hwz _ ?_, b, off, rfl, hci⟩
    show zs.getD i 0 ∈ zs
    rw [show zs.getD i 0 = zs[i]'(by omega) by simp [List.getD, show i < zs.length by omega]]
    exact List.getElem_mem _
end

section
variable {H : Type} {enc : TypeId × Value → H} {w : World} {base : Nat} {spare : Nat → Bool} {held : Bool}
theorem cellsBits : Tryd.prog.cellsOf 25 = 2 := by kernel_rfl
theorem cellsSl : Tryd.prog.cellsOf 23 = 1 := by kernel_rfl
theorem cellsW : Tryd.prog.cellsOf 58 = 1 := by kernel_rfl
theorem cellsI : Tryd.prog.cellsOf 3 = 1 := by kernel_rfl
theorem okWide_strct {P : Program} {r : Reach} {b0 : Nat} {t : TypeId} {v : Value} {fs : Array Field} (ht : P.underlying t = some (.struct fs)) (h : Value.okWide P w r b0 t v) : ∃ cs, v = .agg cs ∧ cs.size = P.cellsOf t := by
  simp only [Value.okWide, ht] at h
  obtain ⟨cs, h1, h2, _⟩ := h
  exact ⟨cs, h1, h2⟩

set_option maxRecDepth 100000 in
/-- A row of bits by value. -/
theorem open_bits {r : Reach} {b0 : Nat} {v : Value} {d : DataW H} {ps : List MemPlace} (hval : Value.okWide Tryd.prog w r b0 25 v) (hd : DataW.Trod enc Tryd.prog w base spare held 25 v d ps) :
    ∃ (n : Int) (ao : Option Addr) (k cap : Nat) (X : Nat → Nat) (d1 : DataW H), v = .agg #[.int .i64 n, .slice ao k cap] ∧ (Lit.int .i64 n).wf = true ∧ k ≤ maxLen ∧ d = .agg [.lit (.int .i64 n), d1] ∧ Long d1 k ∧ Wds w ao k X := by
  obtain ⟨cs, rfl, hs⟩ := okWide_strct Tryd.underlying25 hval
  obtain ⟨fuel, hf⟩ := hd
  obtain ⟨y0, y1, m, hx, hl, h0, h1⟩ := trod_struct2 Tryd.underlying25 hf
  rw [cellsBits] at hs hl
  obtain ⟨c0, c1, rfl⟩ : ∃ c0 c1, cs = #[c0, c1] := by
    obtain ⟨l⟩ := cs
    match l, hs with
    | [c0, c1], _ => exact ⟨c0, c1, rfl⟩
  have e0 : (((Value.agg #[c0, c1]).cells.toList.drop 0).take (Tryd.prog.cellsOf 3)) = [c0] := by rw [cellsI]; rfl
  have e1 : (((Value.agg #[c0, c1]).cells.toList.drop 1).take (Tryd.prog.cellsOf 23)) = [c1] := by rw [cellsSl]; rfl
  have h0' : DataW.trod enc Tryd.prog w base spare held m 3 [c0] = some y0 := by rw [← e0]; exact h0
  have h1' : DataW.trod enc Tryd.prog w base spare held m 23 [c1] = some y1 := by rw [← e1]; exact h1
  obtain ⟨n, hn, hd0, hw⟩ := DataW.trod_int Tryd.underlying3 h0'
  obtain ⟨ao, len, cap, Z, rfl, hlc, hm, hlong, hz⟩ := ints_slice Tryd.underlying23 Tryd.underlying58 cellsW h1'
  simp at hn
  subst hn
  refine ⟨n, ao, len, cap, fun j => (Z j).toNat, y1.1, rfl, hw, by omega, ?_, hlong, fun j hj => ?_⟩
  · have := congrArg Prod.fst hx
    simp only at this
    rw [this, hd0]
  · obtain ⟨hw1, g, off, h3, h4⟩ := hz j hj
    obtain ⟨b0, b1⟩ := wf_u64 hw1
    have e : ((Z j).toNat : Int) = Z j := by omega
    refine ⟨show (Z j).toNat < _ by omega, g, off, h3, ?_⟩
    show _ = some (Value.int .u64 (((Z j).toNat : Nat) : Int))
    rw [e]
    exact h4
/-- A list of numbers. -/
theorem open_nums {r : Reach} {b0 : Nat} {v : Value} {d : DataW H} {ps : List MemPlace} (hval : Value.okWide Tryd.prog w r b0 27 v) (hd : DataW.Trod enc Tryd.prog w base spare held 27 v d ps) :
    ∃ (ao : Option Addr) (k cap : Nat) (Z : Nat → Int), v = .slice ao k cap ∧ k ≤ maxLen ∧ Long d k ∧ Nums w ao k Z := by
  obtain ⟨ao, len, cap, rfl⟩ := okWide_slice Tryd.underlying27 hval
  obtain ⟨fuel, hf⟩ := hd
  obtain ⟨ao', len', cap', Z, he, hlc, hm, hlong, hz⟩ := ints_slice Tryd.underlying27 Tryd.underlying3 cellsI hf
  cases he
  exact ⟨ao, len, cap, Z, rfl, by omega, hlong, hz⟩

/-- What the row's own reach pays. -/
theorem sized_bits {ts : List TypeId} {ds : List (DataW H)} (h : (DataW.weightsEach Tryd.prog ts ds).all (· ≤ reachBytes) = true) {j : Nat} {n : Int} {k : Nat} {d1 : DataW H} (ht : ts[j]? = some 25) (hd : ds[j]? = some (.agg [.lit (.int .i64 n), d1])) (hk : Long d1 k) : k * 8 ≤ 140737488351232 := by
  rcases hk with rfl | ⟨el, sp, rfl, rfl⟩
  · simp
  · have hb : Tryd.prog.bytesOf 58 = 8 := by kernel_rfl
    have hm : (el.length + sp.length) * Tryd.prog.bytesOf 58 ∈ DataW.weights Tryd.prog 25 (DataW.agg (H := H) [.lit (.int .i64 n), .slice el sp]) := by
      simp [DataW.weights, DataW.weightsEach, Tryd.underlying25, Tryd.underlying23]
    have := List.all_eq_true.1 h _ (DataW.weights_mem_each ht hd _ hm)
    rw [hb] at this
    have h2 : (el.length + sp.length) * 8 ≤ reachBytes := by simpa using this
    unfold reachBytes at h2
    omega
theorem sized_nums {ts : List TypeId} {ds : List (DataW H)} (h : (DataW.weightsEach Tryd.prog ts ds).all (· ≤ reachBytes) = true) {j : Nat} {k : Nat} {d : DataW H} (ht : ts[j]? = some 27) (hd : ds[j]? = some d) (hk : Long d k) : k * 8 ≤ 140737488351232 := by
  rcases hk with rfl | ⟨el, sp, rfl, rfl⟩
  · simp
  · have hb : Tryd.prog.bytesOf 3 = 8 := by kernel_rfl
    have h2 := sized_slice h ht hd Tryd.underlying27
    rw [hb] at h2
    unfold reachBytes at h2
    omega
end
end Go.Proofs.YthakingpeegagaaDoor

/-
  What bitmap.needed, bitmap.below and bitmap.Formed answer.
-/
namespace Go.Proofs.YthakingpeegagaaDoor
open Go.RowKit

/-- A row of bits by value. -/
abbrev bv (n : Int) (ao : Option Addr) (k cap : Nat) : Value := .agg #[.int .i64 n, .slice ao k cap]

theorem needed_calls (N : Nat) (M : Nat) (hN : N < 9223372036854775808) (hM : Hid (need N = M)) (w : World) : Calls Tryd.prog 53 #[.int .i64 (N : Int)] w fun e w' => e = .returned (.int .i64 (M : Int)) ∧ w' = w := by
  have hM' := hM.out
  unfold need at hM'
  have e1 : ((N : Int) / 64 + ((N : Int) % 64 + 63) / 64) = (M : Int) := by omega
  clear hM hM'
  go_enter Tryd.func53, Tryd.ntmps53
  go_wp2
  go_ret
  refine ⟨?_, rfl⟩
  congr 2

set_option maxRecDepth 10000 in
theorem below_calls (i : Int) (M : Nat) (hM : Hid (lowm i = M)) (w : World) : Calls Tryd.prog 38 #[.int .i64 i] w fun e w' => e = .returned (.int .u64 (M : Int)) ∧ w' = w := by
  have hm := hM.out
  go_enter Tryd.func38, Tryd.ntmps38
  by_cases h0 : i ≤ 0
  · obtain rfl : M = 0 := by rw [← hm, lowm, show min i.toNat 64 = 0 by omega]
    clear hm hM
    go_wp2
    go_ret
    exact ⟨rfl, rfl⟩
  · obtain ⟨I, rfl⟩ := Int.eq_ofNat_of_zero_le (show 0 ≤ i by omega)
    have hI : 0 < I := by omega
    by_cases h64 : I < 64
    · have hp : (2 : Nat) ^ I ≤ 9223372036854775808 := Nat.pow_le_pow_right (n := 2) (j := 63) (by decide) (by omega)
      have hp0 : 0 < (2 : Nat) ^ I := Nat.pow_pos (by decide)
      have b : IntKind.u64.wrap (IntKind.u64.wrap ((2 : Int) ^ I) - 1) = (M : Int) := by
        have w1 : IntKind.u64.wrap ((2 : Int) ^ I) = ((2 ^ I : Nat) : Int) := (put_bit (X := 0) (by omega) h64).1
        rw [w1, IntKind.wrap_u64, ← hm, lowm, show min ((I : Nat) : Int).toNat 64 = I by simp; omega]
        omega
      replace b : Hid _ := b
      clear hm hM hp hp0 h0
      go_wp2
      go_ret
      refine ⟨?_, rfl⟩
      first | (rw [b.out]; rfl) | rfl
    · have b : IntKind.u64.wrap (IntKind.u64.wrap ((2 : Int) ^ min I 64) - 1) = (M : Int) := by
        rw [← hm, lowm, show min I 64 = 64 by omega, show min ((I : Nat) : Int).toNat 64 = 64 by simp; omega]
        decide
      replace b : Hid _ := b
      clear hm hM h0
      go_wp2
      go_ret
      refine ⟨?_, rfl⟩
      first | (rw [b.out]; rfl) | rfl

set_option maxRecDepth 10000 in
set_option maxHeartbeats 1000000 in
theorem formed_calls (n : Int) (ao : Option Addr) (k cap : Nat) (X : Nat → Nat) (B : Bool) (hn : (Lit.int .i64 n).wf = true) (hk : k ≤ 17592186044416) (hB : Hid (formed n k X ↔ B = true)) (w : World) (hW : Wds w ao k X) :
    Calls Tryd.prog 34 #[bv n ao k cap] w fun e w' => e = .returned (.bool B) ∧ Below w.heap.size w w' := by
  obtain ⟨hn1, hn2⟩ := wf_i64 hn
  clear hn
  go_enter Tryd.func34, Tryd.ntmps34
  by_cases h0 : n < 0
  · obtain rfl : B = false := by
      cases B
      · rfl
      · have := (hB.out.2 rfl).1; omega
    clear hB hW
    go_wp2
    go_quiet (fail)
    go_wp2
    go_ret
    exact ⟨rfl, by repeat (first | with_reducible exact Below.refl _ _ | with_reducible refine Below.setCell ?_ (by first | (simp; done) | (simp; omega)) _ | with_reducible refine below_drewN ?_ _ | with_reducible refine Below.alloc ?_ (by first | (simp; done) | (simp; omega)) _ | with_reducible refine Below.drew ?_)⟩
  · obtain ⟨N, rfl⟩ := Int.eq_ofNat_of_zero_le (show 0 ≤ n by omega)
    obtain ⟨M, hM⟩ : ∃ M, Hid (need N = M) := ⟨_, rfl⟩
    have hNl : N < 9223372036854775808 := by omega
    have hneed := fun w => needed_calls N M hNl hM w
    have hneed' : Hid _ := hneed
    clear hneed
    by_cases hkM : k = M
    · by_cases hN0 : N = 0
      · subst hN0
        obtain rfl : k = 0 := by rw [hkM, ← hM.out]; rfl
        obtain rfl : B = true := hB.out.1 (formed_none X)
        subst hkM
        clear hB hW hM
        go_wp2
        go_quiet ((go_at_call 53; refine (hneed'.out _).mono ?_; rintro e w' ⟨rfl, rfl⟩; exact ⟨rfl, _, rfl⟩))
        go_wp2
        go_ret
        exact ⟨rfl, by repeat (first | with_reducible exact Below.refl _ _ | with_reducible refine Below.setCell ?_ (by first | (simp; done) | (simp; omega)) _ | with_reducible refine below_drewN ?_ _ | with_reducible refine Below.alloc ?_ (by first | (simp; done) | (simp; omega)) _ | with_reducible refine Below.drew ?_)⟩
      · subst hkM
        have hk1 : 0 < k := by
          have := hM.out
          unfold need at this
          omega
        obtain ⟨hx, g, off, rfl, hcell⟩ := hW (k - 1) (by omega)
        obtain ⟨m, hm⟩ : ∃ m, Hid (lowm ((N : Int) - 64 * ((k - 1 : Nat) : Int)) = m) := ⟨_, rfl⟩
        obtain ⟨y, hy⟩ : ∃ y, Hid (X (k - 1) = y) := ⟨_, rfl⟩
        have hml : m < 18446744073709551616 := hm.out ▸ lowm_lt _
        have hf := formed_last (X := X) (N := N) (k := k) (by omega) hM.out.symm hx
        rw [hm.out, hy.out] at hf
        rw [hy.out] at hcell hx
        obtain ⟨L, hL⟩ : ∃ L, Hid (k = L + 1) := ⟨k - 1, by show _ = _; omega⟩
        rw [show k - 1 = L by have := hL.out; omega] at hcell hm
        have hb1 : (bits BinOp.andNot IntKind.u64 (y : Int) (m : Int) == 0) = B := by
          rw [u64_andNot_nat y m hx hml]
          have h1 := hf.trans hB.out
          cases B
          · have h2 : ¬ (y &&& (18446744073709551615 - m) = 0) := fun h => by cases h1.1 h
            simp; omega
          · have h2 := h1.2 rfl
            simp [h2]
        have hbelow := fun w => below_calls ((N : Int) - 64 * (L : Int)) m hm w
        have hbelow' : Hid _ := hbelow
        clear hbelow hf hB hW hM hm hy
        have e2 : ((N : Int) == 0) = false := by simp; omega
        have hLk : L < k := by have := hL.out; omega
        have e3 : (k : Int) - 1 = (L : Int) := by have := hL.out; omega
        clear hL hn1 hn2 h0 hN0
        have hg := cell_block hcell
        have hcell2 : (w.alloc (.cells #[.int .i64 (N : Int), .slice (some ⟨g, off, none⟩) k cap] 25)).cell? ⟨g, off + L, none⟩ = some (.int .u64 (y : Int)) := (((Below.refl _ w).alloc (Nat.le_refl _) _).cell (p := ⟨g, off + L, none⟩) hg).trans hcell
        go_wp2
        go_quiet ((go_at_call 53; refine (hneed'.out _).mono ?_; rintro e w' ⟨rfl, rfl⟩; exact ⟨rfl, _, rfl⟩))
        go_wp2
        go_quiet ((go_at_call 38; refine (hbelow'.out _).mono ?_; rintro e w' ⟨rfl, rfl⟩; exact ⟨rfl, _, rfl⟩))
        go_wp2
        go_ret
        exact ⟨rfl, by repeat (first | with_reducible exact Below.refl _ _ | with_reducible refine Below.setCell ?_ (by first | (simp; done) | (simp; omega)) _ | with_reducible refine below_drewN ?_ _ | with_reducible refine Below.alloc ?_ (by first | (simp; done) | (simp; omega)) _ | with_reducible refine Below.drew ?_)⟩
    · obtain rfl : B = false := by
        cases B
        · rfl
        · have := (hB.out.2 rfl).2.1
          simp at this
          exact (hkM (this.trans hM.out)).elim
      clear hB hW hM
      have hne : ((k : Int) != (M : Int)) = true := by simp; omega
      go_wp2
      go_quiet ((go_at_call 53; refine (hneed'.out _).mono ?_; rintro e w' ⟨rfl, rfl⟩; exact ⟨rfl, _, rfl⟩))
      go_wp2
      go_ret
      exact ⟨rfl, by repeat (first | with_reducible exact Below.refl _ _ | with_reducible refine Below.setCell ?_ (by first | (simp; done) | (simp; omega)) _ | with_reducible refine below_drewN ?_ _ | with_reducible refine Below.alloc ?_ (by first | (simp; done) | (simp; omega)) _ | with_reducible refine Below.drew ?_)⟩
end Go.Proofs.YthakingpeegagaaDoor
