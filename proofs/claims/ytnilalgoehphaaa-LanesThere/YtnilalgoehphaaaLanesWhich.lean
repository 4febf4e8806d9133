/-
  What lanes.which answers, and with it Equal, Below, Between, Less and High.
-/
import Derived.Test.YtnilalgoehphaaaLanesStore
import Derived.Test.YtnilalgoehphaaaKit
namespace Go.Proofs.Ytnilalgoehphaaa
open Go.RowKit

/-- The word of bits of which the first n say whether p holds of the bytes of W. -/
def maskTo (p : Nat → Bool) (W : Nat) : Nat → Nat
  | 0 => 0
  | n + 1 => maskTo p W n + if p (byteOf W n) then 2 ^ n else 0
theorem maskTo_succ (p : Nat → Bool) (W n : Nat) : maskTo p W (n + 1) = maskTo p W n + if p (byteOf W n) then 2 ^ n else 0 := rfl
theorem maskTo_lt (p : Nat → Bool) (W n : Nat) : maskTo p W n < 2 ^ n := by
  induction n with
  | zero => simp [maskTo]
  | succ n ih => rw [maskTo_succ, Nat.pow_succ]; split <;> omega
theorem maskTo_or (p : Nat → Bool) (W n : Nat) (hp : p (byteOf W n) = true) : maskTo p W n ||| 2 ^ n = maskTo p W (n + 1) := by
  have h := maskTo_lt p W n
  rw [maskTo_succ, hp, if_pos rfl, Nat.add_comm (maskTo p W n)]
  have := Nat.shiftLeft_add_eq_or_of_lt h 1
  rw [Nat.shiftLeft_eq, Nat.one_mul] at this
  rw [this, Nat.or_comm]
theorem maskTo_off (p : Nat → Bool) (W n : Nat) (hp : p (byteOf W n) = false) : maskTo p W (n + 1) = maskTo p W n := by
  rw [maskTo_succ, hp]; simp
theorem mask_or_int (p : Nat → Bool) (W k : Nat) (h : k < 8) (hp : p (byteOf W k) = true) :
    bits BinOp.or IntKind.u8 ((maskTo p W k : Nat) : Int) (2 ^ k % 256) = ((maskTo p W (k + 1) : Nat) : Int) := by
  have h1 := maskTo_lt p W k
  have h2 : (2 : Nat) ^ (k + 1) ≤ 2 ^ 8 := Nat.pow_le_pow_right (by decide) (by omega)
  rw [Nat.pow_succ] at h2
  have h3 : ((2 : Int) ^ k) = ((2 ^ k : Nat) : Int) := by simp
  have hm : ((2 ^ k : Nat) : Int) % 256 = ((2 ^ k : Nat) : Int) := by
    generalize 2 ^ k = X at *
    omega
  rw [h3, hm, u8_or_nat _ _ (by omega) (by omega), maskTo_or p W k hp]

set_option maxRecDepth 100000 in
set_option maxHeartbeats 1000000 in
theorem which_nat (g : Nat) (cap : Array Value) (p : Nat → Bool) (W M : Nat) (HM : Hid (maskTo p W 8 = M)) (hW : W < 18446744073709551616) (w : World)
    (he : ∀ (args : Array Value) (w : World), (callFunc g args).run Try.prog w = .ok (.enter g args) w)
    (Hp : Hid (∀ (x : Nat) (wx : World), x < 256 → Below w.heap.size w wx → Calls Try.prog g (#[.int .u8 (x : Int)] ++ cap) wx fun e w' => e = .returned (.bool (p x)) ∧ w' = wx)) :
    Calls Try.prog 29 #[.int .u64 W, .func (.func g) #[] cap] w fun e w' => e = .returned (.int .u8 M) ∧ Below w.heap.size w w' := by
  go_enter Try.func29, Try.ntmps29
  go_wp2_with (go_at_call 11; refine (store_calls _ _ (by omega) (by omega)).mono ?_; rintro e w1 ⟨rfl, hb1⟩; rw [← byteArr_full, rowTo_full])
  rw [← rowTo_full, byteArr_full]
  go_loopw [6, 11] (fun x i wr => ∃ k nq : Nat, k ≤ 8 ∧ i = .int .i64 k ∧ x = .int .u8 ((maskTo p W k : Nat) : Int) ∧ wr = (w1.alloc (.cells (byteArr (byteOf W)) 22)).drewN nq) (fun _ i _ => 8 - (intOf i).toNat)
  case atStart => exact ⟨0, 0, by omega, rfl, rfl, rfl⟩
  case round =>
    obtain ⟨k, nq, hk, rfl, rfl, rfl⟩ := hrel
    by_cases hlt : k < 8
    · have hk8 : (k : Int) < 8 := by omega
      have hc := byteArr_at (byteOf W) k hlt
      have hfk := byteOf_lt W k
      go_wp2
      go_region
      go_wp2_with fail
      refine (Hp.out (byteOf W k) _ hfk (below_drewN (hb1.alloc hb1.size _) _)).mono ?_
      rintro e w2 ⟨rfl, rfl⟩
      cases hpk : p (byteOf W k)
      · go_wp2
        go_roundw
        case rel => exact ⟨k + 1, nq + 1, by omega, by go_num, by rw [maskTo_off p W k hpk], rfl⟩
        case measure => simp [intOf]; omega
      · go_wp2
        exact ⟨⟨k + 1, nq + 1, by omega, by go_num, by rw [mask_or_int p W k hlt hpk], rfl⟩, by simp [intOf]; omega⟩
    · have hk' : k = 8 := by omega
      subst hk'
      go_wp2
      go_ret
      exact ⟨by rw [HM.out]; rfl, below_drewN (hb1.alloc hb1.size _) _⟩

/-- The eight answers of p about the bytes of W. -/
def mask8 (p : Nat → Bool) (W : Nat) : Nat := maskTo p W 8

/-- The byte x as a signed number. -/
def sgn (x : Nat) : Int := if x < 128 then (x : Int) else (x : Int) - 256
def isB (c x : Nat) : Bool := decide (x = c)
def belowB (c x : Nat) : Bool := decide (x < c)
def betweenB (lo hi x : Nat) : Bool := decide (lo ≤ x ∧ x ≤ hi)
def lessB (c : Int) (x : Nat) : Bool := decide (sgn x < c)
theorem wrap_sgn (x : Nat) (h : x < 256) : IntKind.i8.wrap (x : Int) = sgn x := by
  have e : (x : Int) % 2 ^ 8 = (x : Int) := by omega
  simp only [IntKind.wrap, IntKind.bits, IntKind.signed, sgn, e]
  by_cases h1 : x < 128
  · rw [if_pos h1, if_neg (by simp; omega)]
  · rw [if_neg h1, if_pos (by simp; omega)]; rfl

theorem ret_bool {a b : Bool} (h : a = b) : Ending.returned (.bool a) = .returned (.bool b) := by rw [h]

theorem equal1_calls (b c x : Nat) (w : World) (hc : w.cell? ⟨b, 0, none⟩ = some (.int .u8 (c : Int))) :
    Calls Try.prog 30 #[.int .u8 (x : Int), .pointer (some ⟨b, 0, none⟩)] w fun e w' => e = .returned (.bool (isB c x)) ∧ w' = w := by
  go_enter Try.func30, Try.ntmps30
  go_wp2
  go_ret
  exact ⟨ret_bool (by rw [Bool.eq_iff_iff]; simp [isB]; omega), rfl⟩
theorem below1_calls (b c x : Nat) (w : World) (hc : w.cell? ⟨b, 0, none⟩ = some (.int .u8 (c : Int))) :
    Calls Try.prog 32 #[.int .u8 (x : Int), .pointer (some ⟨b, 0, none⟩)] w fun e w' => e = .returned (.bool (belowB c x)) ∧ w' = w := by
  go_enter Try.func32, Try.ntmps32
  go_wp2
  go_ret
  exact ⟨rfl, rfl⟩
theorem between1_calls (b b' lo hi x : Nat) (w : World) (hc : w.cell? ⟨b, 0, none⟩ = some (.int .u8 (lo : Int))) (hc' : w.cell? ⟨b', 0, none⟩ = some (.int .u8 (hi : Int))) :
    Calls Try.prog 33 #[.int .u8 (x : Int), .pointer (some ⟨b, 0, none⟩), .pointer (some ⟨b', 0, none⟩)] w fun e w' => e = .returned (.bool (betweenB lo hi x)) ∧ w' = w := by
  go_enter Try.func33, Try.ntmps33
  go_wp2
  · go_ret
    exact ⟨ret_bool (by simp [betweenB, *]), rfl⟩
  · go_ret
    exact ⟨ret_bool (by simp [betweenB, *]), rfl⟩
theorem less1_calls (b x : Nat) (c : Int) (w : World) (hx : x < 256) (hc : w.cell? ⟨b, 0, none⟩ = some (.int .i8 c)) :
    Calls Try.prog 34 #[.int .u8 (x : Int), .pointer (some ⟨b, 0, none⟩)] w fun e w' => e = .returned (.bool (lessB c x)) ∧ w' = w := by
  go_enter Try.func34, Try.ntmps34
  go_wp2
  go_ret
  exact ⟨ret_bool (by unfold lessB; rw [wrap_sgn x hx]), rfl⟩

theorem enter_eq : ∀ (args : Array Value) (w : World), (callFunc 30 args).run Try.prog w = .ok (.enter 30 args) w := fun _ _ => by kernel_rfl
theorem enter_below : ∀ (args : Array Value) (w : World), (callFunc 32 args).run Try.prog w = .ok (.enter 32 args) w := fun _ _ => by kernel_rfl
theorem enter_between : ∀ (args : Array Value) (w : World), (callFunc 33 args).run Try.prog w = .ok (.enter 33 args) w := fun _ _ => by kernel_rfl
theorem enter_less : ∀ (args : Array Value) (w : World), (callFunc 34 args).run Try.prog w = .ok (.enter 34 args) w := fun _ _ => by kernel_rfl

/-- A cell of a block that the call has just made is still there in a later world. -/
theorem later_cell {w wx : World} {c : Array Value} {t : TypeId} (i : Nat) {v : Value} (h : c[i]? = some v) (hb : Below (w.alloc (.cells c t)).heap.size (w.alloc (.cells c t)) wx) : wx.cell? ⟨w.heap.size, i, none⟩ = some v := by
  rw [hb.cell (p := ⟨w.heap.size, i, none⟩) (by simp), World.cell?_alloc_at _ _ _ _ rfl]; exact h

set_option maxRecDepth 100000 in
set_option maxHeartbeats 400000 in
theorem equal_calls (x c : Int) (w : World) (hx : 0 ≤ x) (hx' : x < 18446744073709551616) (hc : 0 ≤ c) :
    Calls Try.prog 15 #[.int .u64 x, .int .u8 c] w fun e w' => e = .returned (.int .u8 ((mask8 (isB c.toNat) x.toNat : Nat) : Int)) ∧ Below w.heap.size w w' := by
  obtain ⟨W, rfl⟩ := Int.eq_ofNat_of_zero_le hx
  obtain ⟨C, rfl⟩ := Int.eq_ofNat_of_zero_le hc
  have hmf : ∀ (fn : Fn) (first cap : Array Value) (w : World), (Instr.makeFunc fn first cap).run Try.prog w = .ok (.func fn first cap) w := fun _ _ _ _ => rfl
  go_enter Try.func15, Try.ntmps15
  go_wp2_with fail
  refine (which_nat 30 #[.pointer (some ⟨w.heap.size, 0, none⟩)] (isB C) W _ rfl (by omega) _ enter_eq (fun x wx _ hb => equal1_calls _ C x wx (later_cell 0 rfl hb))).mono ?_
  rintro e w1 ⟨rfl, hb1⟩
  go_wp2
  go_ret
  exact ⟨rfl, ((Below.refl _ _).alloc (Nat.le_refl _) _).trans (hb1.mono (by simp))⟩

set_option maxRecDepth 100000 in
set_option maxHeartbeats 400000 in
theorem below_calls (x c : Int) (w : World) (hx : 0 ≤ x) (hx' : x < 18446744073709551616) (hc : 0 ≤ c) :
    Calls Try.prog 17 #[.int .u64 x, .int .u8 c] w fun e w' => e = .returned (.int .u8 ((mask8 (belowB c.toNat) x.toNat : Nat) : Int)) ∧ Below w.heap.size w w' := by
  obtain ⟨W, rfl⟩ := Int.eq_ofNat_of_zero_le hx
  obtain ⟨C, rfl⟩ := Int.eq_ofNat_of_zero_le hc
  have hmf : ∀ (fn : Fn) (first cap : Array Value) (w : World), (Instr.makeFunc fn first cap).run Try.prog w = .ok (.func fn first cap) w := fun _ _ _ _ => rfl
  go_enter Try.func17, Try.ntmps17
  go_wp2_with fail
  refine (which_nat 32 #[.pointer (some ⟨w.heap.size, 0, none⟩)] (belowB C) W _ rfl (by omega) _ enter_below (fun x wx _ hb => below1_calls _ C x wx (later_cell 0 rfl hb))).mono ?_
  rintro e w1 ⟨rfl, hb1⟩
  go_wp2
  go_ret
  exact ⟨rfl, ((Below.refl _ _).alloc (Nat.le_refl _) _).trans (hb1.mono (by simp))⟩

set_option maxRecDepth 100000 in
set_option maxHeartbeats 400000 in
theorem less_calls (x c : Int) (w : World) (hx : 0 ≤ x) (hx' : x < 18446744073709551616) :
    Calls Try.prog 21 #[.int .u64 x, .int .i8 c] w fun e w' => e = .returned (.int .u8 ((mask8 (lessB c) x.toNat : Nat) : Int)) ∧ Below w.heap.size w w' := by
  obtain ⟨W, rfl⟩ := Int.eq_ofNat_of_zero_le hx
  have hmf : ∀ (fn : Fn) (first cap : Array Value) (w : World), (Instr.makeFunc fn first cap).run Try.prog w = .ok (.func fn first cap) w := fun _ _ _ _ => rfl
  go_enter Try.func21, Try.ntmps21
  go_wp2_with fail
  refine (which_nat 34 #[.pointer (some ⟨w.heap.size, 0, none⟩)] (lessB c) W _ rfl (by omega) _ enter_less (fun x wx hx hb => less1_calls _ x c wx hx (later_cell 0 rfl hb))).mono ?_
  rintro e w1 ⟨rfl, hb1⟩
  go_wp2
  go_ret
  exact ⟨rfl, ((Below.refl _ _).alloc (Nat.le_refl _) _).trans (hb1.mono (by simp))⟩

set_option maxRecDepth 100000 in
set_option maxHeartbeats 400000 in
theorem high_calls (x : Int) (w : World) (hx : 0 ≤ x) (hx' : x < 18446744073709551616) :
    Calls Try.prog 23 #[.int .u64 x] w fun e w' => e = .returned (.int .u8 ((mask8 (lessB 0) x.toNat : Nat) : Int)) ∧ Below w.heap.size w w' := by
  go_enter Try.func23, Try.ntmps23
  go_wp2_with fail
  refine (less_calls _ 0 _ (by omega) (by omega)).mono ?_
  rintro e w1 ⟨rfl, hb1⟩
  go_wp2
  go_ret
  exact ⟨rfl, hb1⟩

theorem later_cell0 {w wx : World} {c d : Array Value} {t u : TypeId} (i : Nat) {v : Value} (h : c[i]? = some v) (hb : Below ((w.alloc (.cells c t)).alloc (.cells d u)).heap.size ((w.alloc (.cells c t)).alloc (.cells d u)) wx) : wx.cell? ⟨w.heap.size, i, none⟩ = some v := by
  rw [hb.cell (p := ⟨w.heap.size, i, none⟩) (by simp; omega), World.cell?_alloc_past _ _ _ (by simp), World.cell?_alloc_at _ _ _ _ rfl]; exact h
theorem later_cell1 {w wx : World} {c d : Array Value} {t u : TypeId} (i : Nat) {v : Value} (h : d[i]? = some v) (hb : Below ((w.alloc (.cells c t)).alloc (.cells d u)).heap.size ((w.alloc (.cells c t)).alloc (.cells d u)) wx) : wx.cell? ⟨w.heap.size + 1, i, none⟩ = some v := by
  rw [hb.cell (p := ⟨w.heap.size + 1, i, none⟩) (by simp), World.cell?_alloc_at _ _ _ _ (by simp)]; exact h

set_option maxRecDepth 100000 in
set_option maxHeartbeats 400000 in
theorem between_calls (x lo hi : Int) (w : World) (hx : 0 ≤ x) (hx' : x < 18446744073709551616) (hlo : 0 ≤ lo) (hhi : 0 ≤ hi) :
    Calls Try.prog 19 #[.int .u64 x, .int .u8 lo, .int .u8 hi] w fun e w' => e = .returned (.int .u8 ((mask8 (betweenB lo.toNat hi.toNat) x.toNat : Nat) : Int)) ∧ Below w.heap.size w w' := by
  obtain ⟨W, rfl⟩ := Int.eq_ofNat_of_zero_le hx
  obtain ⟨L, rfl⟩ := Int.eq_ofNat_of_zero_le hlo
  obtain ⟨H, rfl⟩ := Int.eq_ofNat_of_zero_le hhi
  have hmf : ∀ (fn : Fn) (first cap : Array Value) (w : World), (Instr.makeFunc fn first cap).run Try.prog w = .ok (.func fn first cap) w := fun _ _ _ _ => rfl
  go_enter Try.func19, Try.ntmps19
  go_wp2_with fail
  refine (which_nat 33 #[.pointer (some ⟨w.heap.size, 0, none⟩), .pointer (some ⟨w.heap.size + 1, 0, none⟩)] (betweenB L H) W _ rfl (by omega) _ enter_between (fun x wx _ hb => between1_calls _ _ L H x wx (later_cell0 0 rfl hb) (later_cell1 0 rfl hb))).mono ?_
  rintro e w1 ⟨rfl, hb1⟩
  go_wp2
  go_ret
  exact ⟨rfl, (((Below.refl _ _).alloc (Nat.le_refl _) _).alloc (by simp) _).trans (hb1.mono (by simp; omega))⟩
end Go.Proofs.Ytnilalgoehphaaa
