/-
  LanesA, LanesB, one behind the other.
-/
import Derived.Test.YtlckhiflhnlgpaaGreatDoorRows
import Derived.WalkKit
import Derived.WalkSpells
import Derived.WalkLawsBesides
import Derived.BigQuiet
import Derived.Deep.QuietTactic
import Derived.Outline
import Derived.Test.YtlckhiflhnlgpaaGreatDoorKit
/- LanesMath, LanesStore. -/
/-
  Plain facts on the eight bytes of a word: no program, no memory.
-/
namespace Go.Proofs.YtlckhiflhnlgpaaGreatDoor

/-- The byte i of the word W. -/
def byteOf (W i : Nat) : Nat := W / 256 ^ i % 256
theorem byteOf_lt (W i : Nat) : byteOf W i < 256 := Nat.mod_lt _ (by decide)
theorem shift_byte (W k : Nat) : W / 2 ^ (8 * k) % 256 = byteOf W k := by
  unfold byteOf
  rw [show (256 : Nat) = 2 ^ 8 from rfl, ← Nat.pow_mul]

/-- The word of the first n of some bytes. -/
def loadTo (f : Nat → Nat) : Nat → Nat
  | 0 => 0
  | n + 1 => loadTo f n + f n * 256 ^ n
theorem loadTo_succ (f : Nat → Nat) (n : Nat) : loadTo f (n + 1) = loadTo f n + f n * 256 ^ n := rfl
theorem loadTo_lt (f : Nat → Nat) (hf : ∀ i, f i < 256) (n : Nat) : loadTo f n < 256 ^ n := by
  induction n with
  | zero => simp [loadTo]
  | succ n ih =>
    have h := hf n
    have h2 : f n * 256 ^ n ≤ 255 * 256 ^ n := Nat.mul_le_mul_right _ (by omega)
    rw [loadTo_succ, Nat.pow_succ]
    omega
/-- Putting the next byte in its place by or. -/
theorem loadTo_or (f : Nat → Nat) (hf : ∀ i, f i < 256) (n : Nat) : loadTo f n ||| f n * 2 ^ (8 * n) = loadTo f (n + 1) := by
  have h := loadTo_lt f hf n
  have e : (256 : Nat) ^ n = 2 ^ (8 * n) := by rw [Nat.pow_mul]
  rw [e] at h
  rw [loadTo_succ, e, Nat.add_comm (loadTo f n), ← Nat.shiftLeft_eq, Nat.shiftLeft_add_eq_or_of_lt h, Nat.or_comm]
/-- The byte i of a loaded word is the byte i. -/
theorem byteOf_load (f : Nat → Nat) (hf : ∀ i, f i < 256) (n i : Nat) (hi : i < n) : byteOf (loadTo f n) i = f i := by
  induction n with
  | zero => omega
  | succ n ih =>
    unfold byteOf
    rw [loadTo_succ]
    by_cases e : i = n
    · subst e
      rw [Nat.add_mul_div_right _ _ (Nat.pow_pos (by decide)), Nat.div_eq_of_lt (loadTo_lt f hf i), Nat.zero_add, Nat.mod_eq_of_lt (hf i)]
    · obtain ⟨j, rfl⟩ : ∃ j, n = i + 1 + j := ⟨n - i - 1, by omega⟩
      rw [show f (i + 1 + j) * 256 ^ (i + 1 + j) = (f (i + 1 + j) * 256 ^ j * 256) * 256 ^ i by
        rw [Nat.pow_add, Nat.pow_add]; simp [Nat.mul_assoc, Nat.mul_comm, Nat.mul_left_comm]]
      rw [Nat.add_mul_div_right _ _ (Nat.pow_pos (by decide)), Nat.add_mul_mod_self_right]
      exact ih (by omega)
end Go.Proofs.YtlckhiflhnlgpaaGreatDoor

/-
  What lanes.Store answers: the bytes of a word.
-/
namespace Go.Proofs.YtlckhiflhnlgpaaGreatDoor
open Go.RowKit

/-- Eight cells of a byte array, of which the first k hold the bytes of W. -/
def rowTo (W k : Nat) : Array Value := Array.ofFn (n := 8) fun j => if j.val < k then .int .u8 ((byteOf W j.val : Nat) : Int) else .int .u8 0
/-- Eight cells that hold the bytes f 0 to f 7. -/
def byteArr (f : Nat → Nat) : Array Value := Array.ofFn (n := 8) fun j => .int .u8 ((f j.val : Nat) : Int)
theorem byteArr_at (f : Nat → Nat) (k : Nat) (h : k < 8) : (byteArr f)[k]? = some (.int .u8 ((f k : Nat) : Int)) := by
  simp [byteArr, h]

theorem rowTo_zero (W : Nat) : rowTo W 0 = #[.int .u8 0, .int .u8 0, .int .u8 0, .int .u8 0, .int .u8 0, .int .u8 0, .int .u8 0, .int .u8 0] := by
  simp [rowTo]; rfl

theorem rowTo_at (W k : Nat) (h : k < 8) : (rowTo W k)[k]? = some (.int .u8 0) := by
  simp [rowTo, h]
theorem rowTo_set (W k : Nat) : (rowTo W k).setIfInBounds k (.int .u8 ((byteOf W k : Nat) : Int)) = rowTo W (k + 1) := by
  apply Array.ext
  · simp [rowTo]
  · intro i h1 h2
    have hi : i < 8 := by simpa [rowTo] using h2
    by_cases e : k = i
    · subst e; simp [rowTo]
    · rw [Array.getElem_setIfInBounds_ne (by simp [rowTo]; omega) e]
      simp only [rowTo, Array.getElem_ofFn]
      by_cases l : i < k
      · rw [if_pos l, if_pos (by omega)]
      · rw [if_neg l, if_neg (by omega)]
theorem byteArr_full (W : Nat) : rowTo W 8 = byteArr (byteOf W) := rfl
theorem rowTo_full (W : Nat) : rowTo W 8 = #[.int .u8 ((byteOf W 0 : Nat) : Int), .int .u8 ((byteOf W 1 : Nat) : Int), .int .u8 ((byteOf W 2 : Nat) : Int), .int .u8 ((byteOf W 3 : Nat) : Int), .int .u8 ((byteOf W 4 : Nat) : Int), .int .u8 ((byteOf W 5 : Nat) : Int), .int .u8 ((byteOf W 6 : Nat) : Int), .int .u8 ((byteOf W 7 : Nat) : Int)] := by
  rfl

theorem setCell_drewN (w : World) (n : Nat) (a : Addr) (v : Value) : (w.drewN n).setCell a v = (w.setCell a v).drewN n := rfl
theorem shift_int (W k : Nat) : (W : Int) / 2 ^ (8 * k) % 256 = ((byteOf W k : Nat) : Int) := by
  rw [← shift_byte]; simp

set_option maxRecDepth 100000 in
set_option maxHeartbeats 400000 in
theorem store_calls (x : Int) (w : World) (hx : 0 ≤ x) (hx' : x < 18446744073709551616) :
    Calls Tryz.prog 140 #[.int .u64 x] w fun e w' => e = .returned (.agg (byteArr (byteOf x.toNat))) ∧ Below w.heap.size w w' := by
  obtain ⟨W, rfl⟩ := Int.eq_ofNat_of_zero_le hx
  go_enter Tryz.func140, Tryz.ntmps140
  go_wp2
  go_loopw [6] (fun i wr => ∃ k nq : Nat, k ≤ 8 ∧ i = .int .i64 k ∧ wr = ((w.alloc (.cells #[.int .u8 0, .int .u8 0, .int .u8 0, .int .u8 0, .int .u8 0, .int .u8 0, .int .u8 0, .int .u8 0] 114)).alloc (.cells (rowTo W k) 114)).drewN nq) (fun i _ => 8 - (intOf i).toNat)
  case atStart => exact ⟨0, 0, by omega, rfl, by rw [rowTo_zero]; rfl⟩
  case round =>
    obtain ⟨k, nq, hk, rfl, rfl⟩ := hrel
    by_cases hlt : k < 8
    · have hk8 : (k : Int) < 8 := by omega
      have hc : (rowTo W k)[k]? = some (.int .u8 0) := rowTo_at W k hlt
      go_wp2
      go_region
      go_wp2
      go_roundw
      case rel =>
        refine ⟨k + 1, nq + 1, by omega, by go_num, ?_⟩
        rw [setCell_drewN, World.setCell_alloc_at _ _ _ _ _ (by simp), shift_int, rowTo_set W k]
      case measure => simp [intOf]; omega
    · have hk' : k = 8 := by omega
      subst hk'
      rw [rowTo_full]
      go_wp2
      refine bodyPost_ret (v := .agg (byteArr (byteOf W))) (by rw [← byteArr_full, rowTo_full]; simp [results, Tryz.results140, go_sem]) rfl ⟨by simp, ?_⟩
      repeat (first | with_reducible exact Below.refl _ _ | with_reducible refine Below.setCell ?_ (by simp) _ | with_reducible refine below_drewN ?_ _ | with_reducible refine Below.alloc ?_ (by simp) _ | with_reducible refine Below.drew ?_)
end Go.Proofs.YtlckhiflhnlgpaaGreatDoor

/- LanesLoadOnly, LanesEqualOnly. -/
/-
  What lanes.Load answers.
-/
namespace Go.Proofs.YtlckhiflhnlgpaaGreatDoor
open Go.RowKit

theorem pow8_le (k : Nat) (h : k ≤ 8) : (256 : Nat) ^ k ≤ 18446744073709551616 := by
  have : (256 : Nat) ^ k ≤ 256 ^ 8 := Nat.pow_le_pow_right (by decide) h
  simpa using this
theorem load_or_int (f : Nat → Nat) (hf : ∀ i, f i < 256) (k : Nat) (h : k < 8) :
    bits BinOp.or IntKind.u64 ((loadTo f k : Nat) : Int) (IntKind.u64.wrap (((f k : Nat) : Int) * 2 ^ (8 * k))) = ((loadTo f (k + 1) : Nat) : Int) := by
  have e : ((f k : Nat) : Int) * 2 ^ (8 * k) = ((f k * 2 ^ (8 * k) : Nat) : Int) := by simp
  have p1 := pow8_le (k + 1) (by omega)
  have e2 : (2 : Nat) ^ (8 * k) = 256 ^ k := by rw [Nat.pow_mul]
  have p2 : f k * 2 ^ (8 * k) < 18446744073709551616 := by
    have h1 := hf k
    have h2 : f k * 256 ^ k ≤ 255 * 256 ^ k := Nat.mul_le_mul_right _ (by omega)
    have h3 : 0 < 256 ^ k := Nat.pow_pos (by decide)
    rw [e2]
    rw [Nat.pow_succ] at p1
    omega
  have p3 := loadTo_lt f hf k
  have p4 := pow8_le k (by omega)
  have hm : (((f k * 2 ^ (8 * k) : Nat) : Int)) % 18446744073709551616 = ((f k * 2 ^ (8 * k) : Nat) : Int) := by
    generalize f k * 2 ^ (8 * k) = X at p2
    omega
  rw [e, IntKind.wrap_u64, hm, u64_or_nat _ _ (by omega) p2, loadTo_or f hf k]

set_option maxRecDepth 100000 in
set_option maxHeartbeats 400000 in
theorem load_nat (f : Nat → Nat) (hf : ∀ i, f i < 256) (S : Nat) (w : World) (HS : Hid (loadTo f 8 = S)) :
    Calls Tryz.prog 106 #[.agg (byteArr f)] w fun e w' => e = .returned (.int .u64 (S : Int)) ∧ Below w.heap.size w w' := by
  go_enter Tryz.func106, Tryz.ntmps106
  go_wp2
  go_loopw [3, 6] (fun x i wr => ∃ k nq : Nat, k ≤ 8 ∧ i = .int .i64 k ∧ x = .int .u64 ((loadTo f k : Nat) : Int) ∧ wr = (w.alloc (.cells (byteArr f) 114)).drewN nq) (fun _ i _ => 8 - (intOf i).toNat)
  case atStart => exact ⟨0, 0, by omega, rfl, rfl, rfl⟩
  case round =>
    obtain ⟨k, nq, hk, rfl, rfl, rfl⟩ := hrel
    by_cases hlt : k < 8
    · have hk8 : (k : Int) < 8 := by omega
      have hc := byteArr_at f k hlt
      have hfk := hf k
      go_wp2
      go_region
      go_wp2
      refine ⟨⟨k + 1, nq + 1, by omega, by go_num, by rw [load_or_int f hf k hlt], rfl⟩, by simp [intOf]; omega⟩
    · have hk' : k = 8 := by omega
      subst hk'
      go_wp2
      go_ret
      exact ⟨by rw [HS.out]; rfl, below_drewN ((Below.refl _ _).alloc (Nat.le_refl _) _) _⟩

end Go.Proofs.YtlckhiflhnlgpaaGreatDoor

/-
  What lanes.which answers, and with it Equal.
-/
namespace Go.Proofs.YtlckhiflhnlgpaaGreatDoor
open Go.RowKit

/-- The word of bits of which the first n say whether p holds of the bytes of W. -/
def maskTo (p : Nat → Bool) (W : Nat) : Nat → Nat
  | 0 => 0
  | n + 1 => maskTo p W n + if p (byteOf W n) then 2 ^ n else 0
theorem maskTo_succ (p : Nat → Bool) (W n : Nat) : maskTo p W (n + 1) = maskTo p W n + if p (byteOf W n) then 2 ^ n else 0 := rfl
theorem maskTo_lt (p : Nat → Bool) (W n : Nat) : maskTo p W n < 2 ^ n := by
  induction n with
  | zero => simp [maskTo]
  | succ n ih => rw [maskTo_succ, Nat.pow_succ]; split <;> omega
theorem maskTo_or (p : Nat → Bool) (W n : Nat) (hp : p (byteOf W n) = true) : maskTo p W n ||| 2 ^ n = maskTo p W (n + 1) := by
  have h := maskTo_lt p W n
  rw [maskTo_succ, hp, if_pos rfl, Nat.add_comm (maskTo p W n)]
  have := Nat.shiftLeft_add_eq_or_of_lt h 1
  rw [Nat.shiftLeft_eq, Nat.one_mul] at this
  rw [this, Nat.or_comm]
theorem maskTo_off (p : Nat → Bool) (W n : Nat) (hp : p (byteOf W n) = false) : maskTo p W (n + 1) = maskTo p W n := by
  rw [maskTo_succ, hp]; simp
theorem mask_or_int (p : Nat → Bool) (W k : Nat) (h : k < 8) (hp : p (byteOf W k) = true) :
    bits BinOp.or IntKind.u8 ((maskTo p W k : Nat) : Int) (2 ^ k % 256) = ((maskTo p W (k + 1) : Nat) : Int) := by
  have h1 := maskTo_lt p W k
  have h2 : (2 : Nat) ^ (k + 1) ≤ 2 ^ 8 := Nat.pow_le_pow_right (by decide) (by omega)
  rw [Nat.pow_succ] at h2
  have h3 : ((2 : Int) ^ k) = ((2 ^ k : Nat) : Int) := by simp
  have hm : ((2 ^ k : Nat) : Int) % 256 = ((2 ^ k : Nat) : Int) := by
    generalize 2 ^ k = X at *
    omega
  rw [h3, hm, u8_or_nat _ _ (by omega) (by omega), maskTo_or p W k hp]

set_option maxRecDepth 100000 in
set_option maxHeartbeats 1000000 in
theorem which_nat (g : Nat) (cap : Array Value) (p : Nat → Bool) (W M : Nat) (HM : Hid (maskTo p W 8 = M)) (hW : W < 18446744073709551616) (w : World)
    (he : ∀ (args : Array Value) (w : World), (callFunc g args).run Tryz.prog w = .ok (.enter g args) w)
    (Hp : Hid (∀ (x : Nat) (wx : World), x < 256 → Below w.heap.size w wx → Calls Tryz.prog g (#[.int .u8 (x : Int)] ++ cap) wx fun e w' => e = .returned (.bool (p x)) ∧ w' = wx)) :
    Calls Tryz.prog 124 #[.int .u64 W, .func (.func g) #[] cap] w fun e w' => e = .returned (.int .u8 M) ∧ Below w.heap.size w w' := by
  go_enter Tryz.func124, Tryz.ntmps124
  go_wp2_with (go_at_call 140; refine (store_calls _ _ (by omega) (by omega)).mono ?_; rintro e w1 ⟨rfl, hb1⟩; rw [← byteArr_full, rowTo_full])
  rw [← rowTo_full, byteArr_full]
  go_loopw [6, 11] (fun x i wr => ∃ k nq : Nat, k ≤ 8 ∧ i = .int .i64 k ∧ x = .int .u8 ((maskTo p W k : Nat) : Int) ∧ wr = (w1.alloc (.cells (byteArr (byteOf W)) 114)).drewN nq) (fun _ i _ => 8 - (intOf i).toNat)
  case atStart => exact ⟨0, 0, by omega, rfl, rfl, rfl⟩
  case round =>
    obtain ⟨k, nq, hk, rfl, rfl, rfl⟩ := hrel
    by_cases hlt : k < 8
    · have hk8 : (k : Int) < 8 := by omega
      have hc := byteArr_at (byteOf W) k hlt
      have hfk := byteOf_lt W k
      go_wp2
      go_region
      go_wp2_with fail
      refine (Hp.out (byteOf W k) _ hfk (below_drewN (hb1.alloc hb1.size _) _)).mono ?_
      rintro e w2 ⟨rfl, rfl⟩
      cases hpk : p (byteOf W k)
      · go_wp2
        go_roundw
        case rel => exact ⟨k + 1, nq + 1, by omega, by go_num, by rw [maskTo_off p W k hpk], rfl⟩
        case measure => simp [intOf]; omega
      · go_wp2
        exact ⟨⟨k + 1, nq + 1, by omega, by go_num, by rw [mask_or_int p W k hlt hpk], rfl⟩, by simp [intOf]; omega⟩
    · have hk' : k = 8 := by omega
      subst hk'
      go_wp2
      go_ret
      exact ⟨by rw [HM.out]; rfl, below_drewN (hb1.alloc hb1.size _) _⟩

/-- The eight answers of p about the bytes of W. -/
def mask8 (p : Nat → Bool) (W : Nat) : Nat := maskTo p W 8

def isB (c x : Nat) : Bool := decide (x = c)
theorem ret_bool {a b : Bool} (h : a = b) : Ending.returned (.bool a) = .returned (.bool b) := by rw [h]

theorem equal1_calls (b c x : Nat) (w : World) (hc : w.cell? ⟨b, 0, none⟩ = some (.int .u8 (c : Int))) :
    Calls Tryz.prog 125 #[.int .u8 (x : Int), .pointer (some ⟨b, 0, none⟩)] w fun e w' => e = .returned (.bool (isB c x)) ∧ w' = w := by
  go_enter Tryz.func125, Tryz.ntmps125
  go_wp2
  go_ret
  exact ⟨ret_bool (by rw [Bool.eq_iff_iff]; simp [isB]; omega), rfl⟩
theorem enter_eq : ∀ (args : Array Value) (w : World), (callFunc 125 args).run Tryz.prog w = .ok (.enter 125 args) w := fun _ _ => by kernel_rfl
/-- A cell of a block that the call has just made is still there in a later world. -/
theorem later_cell {w wx : World} {c : Array Value} {t : TypeId} (i : Nat) {v : Value} (h : c[i]? = some v) (hb : Below (w.alloc (.cells c t)).heap.size (w.alloc (.cells c t)) wx) : wx.cell? ⟨w.heap.size, i, none⟩ = some v := by
  rw [hb.cell (p := ⟨w.heap.size, i, none⟩) (by simp), World.cell?_alloc_at _ _ _ _ rfl]; exact h

set_option maxRecDepth 100000 in
set_option maxHeartbeats 400000 in
theorem equal_calls (x c : Int) (w : World) (hx : 0 ≤ x) (hx' : x < 18446744073709551616) (hc : 0 ≤ c) :
    Calls Tryz.prog 107 #[.int .u64 x, .int .u8 c] w fun e w' => e = .returned (.int .u8 ((mask8 (isB c.toNat) x.toNat : Nat) : Int)) ∧ Below w.heap.size w w' := by
  obtain ⟨W, rfl⟩ := Int.eq_ofNat_of_zero_le hx
  obtain ⟨C, rfl⟩ := Int.eq_ofNat_of_zero_le hc
  have hmf : ∀ (fn : Fn) (first cap : Array Value) (w : World), (Instr.makeFunc fn first cap).run Tryz.prog w = .ok (.func fn first cap) w := fun _ _ _ _ => rfl
  go_enter Tryz.func107, Tryz.ntmps107
  go_wp2_with fail
  refine (which_nat 125 #[.pointer (some ⟨w.heap.size, 0, none⟩)] (isB C) W _ rfl (by omega) _ enter_eq (fun x wx _ hb => equal1_calls _ C x wx (later_cell 0 rfl hb))).mono ?_
  rintro e w1 ⟨rfl, hb1⟩
  go_wp2
  go_ret
  exact ⟨rfl, ((Below.refl _ _).alloc (Nat.le_refl _) _).trans (hb1.mono (by simp))⟩

end Go.Proofs.YtlckhiflhnlgpaaGreatDoor
