/-
  The law LanesParts as a call: true, and nothing old has turned.
-/
import Derived.Test.YtnilalgoehphaabAwake
namespace Go.Proofs.Ytnilalgoehphaab
open Go.RowKit

/-- Above lo: none, where lo is the greatest byte. -/
def aboveM (lo W : Nat) : Nat := if lo < 255 then mask8 (betweenB (lo + 1) 255) W else 0
theorem aboveM_eq (lo W : Nat) (h : lo < 256) : aboveM lo W = mask8 (fun x => decide (lo < x)) W := by
  unfold aboveM
  split
  · exact mask8_congr _ _ _ _ fun i _ => by
      have := byteOf_lt W i
      unfold betweenB; rw [decide_eq_decide]; omega
  · rw [← mask8_none W]
    exact mask8_congr _ _ _ _ fun i _ => by
      have := byteOf_lt W i
      rw [eq_comm, decide_eq_false_iff_not]; omega

theorem eq_below (lo W : Nat) : mask8 (isB lo) W &&& mask8 (belowB lo) W = 0 := by
  rw [mask8_and, ← mask8_none W]
  exact mask8_congr _ _ _ _ fun i _ => by rw [Bool.eq_false_iff]; simp [isB, belowB]; omega
theorem eq_above (lo W : Nat) (h : lo < 256) : mask8 (isB lo) W &&& aboveM lo W = 0 := by
  rw [aboveM_eq lo W h, mask8_and, ← mask8_none W]
  exact mask8_congr _ _ _ _ fun i _ => by rw [Bool.eq_false_iff]; simp [isB]; omega
theorem below_above (lo W : Nat) (h : lo < 256) : mask8 (belowB lo) W &&& aboveM lo W = 0 := by
  rw [aboveM_eq lo W h, mask8_and, ← mask8_none W]
  exact mask8_congr _ _ _ _ fun i _ => by rw [Bool.eq_false_iff]; simp [belowB]; omega
theorem all_three (lo W : Nat) (h : lo < 256) : (mask8 (isB lo) W ||| mask8 (belowB lo) W) ||| aboveM lo W = 255 := by
  rw [aboveM_eq lo W h, mask8_or, mask8_or, ← mask8_all W]
  exact mask8_congr _ _ _ _ fun i _ => by simp [isB, belowB]; omega
theorem less_below (lo W : Nat) (h : lo < 256) : mask8 (lessB (sgn lo)) W = mask8 (belowB (lo ^^^ 128)) (W ^^^ fillOf 128) :=
  mask8_congr _ _ _ _ fun i hi => by
    rw [byteOf_xor, byteOf_fill 128 i (by decide) hi]
    exact sgn_turn _ _ (byteOf_lt W i) h
theorem mask8_not (p : Nat → Bool) (W : Nat) : 255 - mask8 p W = mask8 (fun x => !p x) W := by
  apply Nat.eq_of_testBit_eq
  intro i
  have h := mask8_lt p W
  rw [show 255 - mask8 p W = 2 ^ 8 - (mask8 p W + 1) by omega, Nat.testBit_two_pow_sub_succ (by simpa using h), mask8_testBit, mask8_testBit]
  cases decide (i < 8) <;> simp
theorem not_mask (p : Nat → Bool) (W : Nat) : ((mask8 (fun _ => true) W ^^^ mask8 p W : Nat) : Int) = ((mask8 (fun _ => true) W - mask8 p W : Nat) : Int) := by
  congr 1
  rw [mask8_all, mask8_not]
  apply Nat.eq_of_testBit_eq
  intro i
  rw [Nat.testBit_xor, mask8_testBit, mask8_testBit, show (255 : Nat) = 2 ^ 8 - 1 from rfl, Nat.testBit_two_pow_sub_one]
  cases decide (i < 8) <;> simp
theorem high_not (W : Nat) : mask8 (lessB 0) W = 255 - mask8 (belowB 128) W := by
  rw [mask8_not]
  exact mask8_congr _ _ _ _ fun i _ => by
    have := byteOf_lt W i
    unfold lessB belowB sgn
    by_cases h : byteOf W i < 128
    · rw [if_pos h, decide_eq_true h, decide_eq_false (by omega)]; rfl
    · rw [if_neg h, decide_eq_false h, decide_eq_true (by omega)]; rfl
theorem between_split (lo hi W : Nat) : mask8 (betweenB lo hi) W = (mask8 (belowB hi) W ||| mask8 (isB hi) W) &&& (255 - mask8 (belowB lo) W) := by
  rw [mask8_not, mask8_or, mask8_and]
  exact mask8_congr _ _ _ _ fun i _ => by
    rw [Bool.eq_iff_iff]; simp [betweenB, belowB, isB]; omega

set_option maxRecDepth 100000 in
set_option maxHeartbeats 1000000 in
theorem parts_nat (W L H E B A LE F X Y HI LO BT HB HE : Nat) (w : World) (hW : W < 18446744073709551616) (hX : X < 18446744073709551616) (hL : L < 256) (hH : H < 256)
    (HEq : Hid (mask8 (isB L) W = E)) (HBe : Hid (mask8 (belowB L) W = B)) (HAb : Hid (aboveM L W = A)) (HLe : Hid (mask8 (lessB (sgn L)) W = LE)) (HF : Hid (fillOf 128 = F))
    (HBX : Hid (mask8 (belowB Y) X = LE)) (HHi : Hid (mask8 (lessB 0) W = HI)) (HLo : Hid (mask8 (belowB 128) W = LO))
    (HBt : Hid (mask8 (betweenB L H) W = BT)) (HHb : Hid (mask8 (belowB H) W = HB)) (HHe : Hid (mask8 (isB H) W = HE))
    (e1 : bits .and .u8 (E : Int) (B : Int) = 0) (e2 : bits .and .u8 (E : Int) (A : Int) = 0) (e3 : bits .and .u8 (B : Int) (A : Int) = 0) (e4 : bits .or .u8 (bits .or .u8 (E : Int) (B : Int)) (A : Int) = 255)
    (ex : bits .xor .u64 (W : Int) (F : Int) = (X : Int)) (ey : bits .xor .u8 (L : Int) 128 = (Y : Int)) (en : bits .xor .u8 IntKind.u8.max (LO : Int) = (HI : Int))
    (eo : bits .andNot .u8 (bits .or .u8 (HB : Int) (HE : Int)) (B : Int) = (BT : Int)) :
    Calls Try.prog 3 #[.int .u64 W, .int .u8 L, .int .u8 H] w fun e w' => e = .returned (.bool true) ∧ Below w.heap.size w w' := by
  have hsg : IntKind.u8.signed = false := rfl
  by_cases hlt : L < 255
  · have hlt' : (L : Int) < 255 := by omega
    have HAb2 : Hid (mask8 (betweenB (L + 1) 255) W = A) := by have := HAb.out; unfold aboveM at this; rwa [if_pos hlt] at this
    go_enter Try.func3, Try.ntmps3
    go_wp2_with fail
    refine (awake_calls _).mono ?_
    rintro e w1 ⟨rfl, hb1⟩
    go_wp2_with fail
    refine (equal_calls _ _ _ (by omega) (by omega) (by omega)).mono ?_
    rintro e w2 ⟨rfl, hb2⟩
    rw [Int.toNat_natCast, Int.toNat_natCast, HEq.out]
    go_wp2_with fail
    refine (below_calls _ _ _ (by omega) (by omega) (by omega)).mono ?_
    rintro e w3 ⟨rfl, hb3⟩
    rw [Int.toNat_natCast, Int.toNat_natCast, HBe.out]
    go_wp2_with fail
    refine (between_calls _ _ _ _ (by omega) (by omega) (by omega) (by omega)).mono ?_
    rintro e w4 ⟨rfl, hb4⟩
    rw [Int.toNat_natCast, show ((L : Int) + 1).toNat = L + 1 by omega, show (255 : Int).toNat = 255 from rfl, HAb2.out]
    go_wp2_with fail
    refine (less_calls _ _ _ (by omega) (by omega)).mono ?_
    rintro e w5 ⟨rfl, hb5⟩
    rw [Int.toNat_natCast, wrap_sgn L hL, HLe.out]
    go_wp2_with fail
    refine (fill_calls _ _ (by omega) (by omega)).mono ?_
    rintro e w6 ⟨rfl, hb6⟩
    rw [show (128 : Int).toNat = 128 from rfl, HF.out]
    go_wp2_with fail
    refine (below_calls _ _ _ (by omega) (by omega) (by omega)).mono ?_
    rintro e w7 ⟨rfl, hb7⟩
    rw [Int.toNat_natCast, Int.toNat_natCast, HBX.out]
    go_wp2_with fail
    refine (high_calls _ _ (by omega) (by omega)).mono ?_
    rintro e w8 ⟨rfl, hb8⟩
    rw [Int.toNat_natCast, HHi.out]
    go_wp2_with fail
    refine (below_calls _ _ _ (by omega) (by omega) (by omega)).mono ?_
    rintro e w9 ⟨rfl, hb9⟩
    rw [Int.toNat_natCast, show (128 : Int).toNat = 128 from rfl, HLo.out]
    go_wp2_with fail
    refine (high_calls _ _ (by omega) (by omega)).mono ?_
    rintro e w10 ⟨rfl, hb10⟩
    rw [Int.toNat_natCast, HHi.out]
    go_wp2_with fail
    refine (less_calls _ _ _ (by omega) (by omega)).mono ?_
    rintro e w11 ⟨rfl, hb11⟩
    rw [Int.toNat_natCast, HHi.out]
    go_wp2_with fail
    refine (between_calls _ _ _ _ (by omega) (by omega) (by omega) (by omega)).mono ?_
    rintro e w12 ⟨rfl, hb12⟩
    rw [Int.toNat_natCast, Int.toNat_natCast, Int.toNat_natCast, HBt.out]
    go_wp2_with fail
    refine (below_calls _ _ _ (by omega) (by omega) (by omega)).mono ?_
    rintro e w13 ⟨rfl, hb13⟩
    rw [Int.toNat_natCast, Int.toNat_natCast, HHb.out]
    go_wp2_with fail
    refine (equal_calls _ _ _ (by omega) (by omega) (by omega)).mono ?_
    rintro e w14 ⟨rfl, hb14⟩
    rw [Int.toNat_natCast, Int.toNat_natCast, HHe.out]
    go_wp2
    go_ret
    have b2 := hb1.trans (hb2.mono hb1.size)
    have b3 := b2.trans (hb3.mono b2.size)
    have b4 := b3.trans (hb4.mono b3.size)
    have b5 := b4.trans (hb5.mono b4.size)
    have b6 := b5.trans (hb6.mono b5.size)
    have b7 := b6.trans (hb7.mono b6.size)
    have b8 := b7.trans (hb8.mono b7.size)
    have b9 := b8.trans (hb9.mono b8.size)
    have b10 := b9.trans (hb10.mono b9.size)
    have b11 := b10.trans (hb11.mono b10.size)
    have b12 := b11.trans (hb12.mono b11.size)
    have b13 := b12.trans (hb13.mono b12.size)
    exact ⟨rfl, b13.trans (hb14.mono b13.size)⟩
  · have hlt' : ¬ (L : Int) < 255 := by omega
    have hA0 : A = 0 := by have := HAb.out; unfold aboveM at this; rw [if_neg hlt] at this; exact this.symm
    subst hA0
    have e2' : bits .and .u8 (E : Int) 0 = 0 := e2
    have e3' : bits .and .u8 (B : Int) 0 = 0 := e3
    have e4' : bits .or .u8 (bits .or .u8 (E : Int) (B : Int)) 0 = 255 := e4
    clear e2 e3 e4
    go_enter Try.func3, Try.ntmps3
    go_wp2_with fail
    refine (awake_calls _).mono ?_
    rintro e w1 ⟨rfl, hb1⟩
    go_wp2_with fail
    refine (equal_calls _ _ _ (by omega) (by omega) (by omega)).mono ?_
    rintro e w2 ⟨rfl, hb2⟩
    rw [Int.toNat_natCast, Int.toNat_natCast, HEq.out]
    go_wp2_with fail
    refine (below_calls _ _ _ (by omega) (by omega) (by omega)).mono ?_
    rintro e w3 ⟨rfl, hb3⟩
    rw [Int.toNat_natCast, Int.toNat_natCast, HBe.out]
    go_wp2_with fail
    refine (less_calls _ _ _ (by omega) (by omega)).mono ?_
    rintro e w5 ⟨rfl, hb5⟩
    rw [Int.toNat_natCast, wrap_sgn L hL, HLe.out]
    go_wp2_with fail
    refine (fill_calls _ _ (by omega) (by omega)).mono ?_
    rintro e w6 ⟨rfl, hb6⟩
    rw [show (128 : Int).toNat = 128 from rfl, HF.out]
    go_wp2_with fail
    refine (below_calls _ _ _ (by omega) (by omega) (by omega)).mono ?_
    rintro e w7 ⟨rfl, hb7⟩
    rw [Int.toNat_natCast, Int.toNat_natCast, HBX.out]
    go_wp2_with fail
    refine (high_calls _ _ (by omega) (by omega)).mono ?_
    rintro e w8 ⟨rfl, hb8⟩
    rw [Int.toNat_natCast, HHi.out]
    go_wp2_with fail
    refine (below_calls _ _ _ (by omega) (by omega) (by omega)).mono ?_
    rintro e w9 ⟨rfl, hb9⟩
    rw [Int.toNat_natCast, show (128 : Int).toNat = 128 from rfl, HLo.out]
    go_wp2_with fail
    refine (high_calls _ _ (by omega) (by omega)).mono ?_
    rintro e w10 ⟨rfl, hb10⟩
    rw [Int.toNat_natCast, HHi.out]
    go_wp2_with fail
    refine (less_calls _ _ _ (by omega) (by omega)).mono ?_
    rintro e w11 ⟨rfl, hb11⟩
    rw [Int.toNat_natCast, HHi.out]
    go_wp2_with fail
    refine (between_calls _ _ _ _ (by omega) (by omega) (by omega) (by omega)).mono ?_
    rintro e w12 ⟨rfl, hb12⟩
    rw [Int.toNat_natCast, Int.toNat_natCast, Int.toNat_natCast, HBt.out]
    go_wp2_with fail
    refine (below_calls _ _ _ (by omega) (by omega) (by omega)).mono ?_
    rintro e w13 ⟨rfl, hb13⟩
    rw [Int.toNat_natCast, Int.toNat_natCast, HHb.out]
    go_wp2_with fail
    refine (equal_calls _ _ _ (by omega) (by omega) (by omega)).mono ?_
    rintro e w14 ⟨rfl, hb14⟩
    rw [Int.toNat_natCast, Int.toNat_natCast, HHe.out]
    go_wp2
    go_ret
    have b2 := hb1.trans (hb2.mono hb1.size)
    have b3 := b2.trans (hb3.mono b2.size)
    have b4 := b3
    have b5 := b4.trans ((show Below w3.heap.size w3 w5 from hb5).mono b4.size)
    have b6 := b5.trans (hb6.mono b5.size)
    have b7 := b6.trans (hb7.mono b6.size)
    have b8 := b7.trans (hb8.mono b7.size)
    have b9 := b8.trans (hb9.mono b8.size)
    have b10 := b9.trans (hb10.mono b9.size)
    have b11 := b10.trans (hb11.mono b10.size)
    have b12 := b11.trans (hb12.mono b11.size)
    have b13 := b12.trans (hb13.mono b12.size)
    exact ⟨rfl, b13.trans (hb14.mono b13.size)⟩

theorem lanesParts_walk (a : Int) (ha : (Lit.int .u64 a).wf = true) (l : Int) (hl : (Lit.int .u8 l).wf = true) (h : Int) (hh : (Lit.int .u8 h).wf = true) (w : World) :
    Calls Try.prog 3 #[.int .u64 a, .int .u8 l, .int .u8 h] w fun e w' => e = .returned (.bool true) ∧ Below w.heap.size w w' := by
  obtain ⟨a0, a1⟩ := wf_u64 ha
  obtain ⟨l0, l1⟩ := wf_u8 hl
  obtain ⟨h0, h1⟩ := wf_u8 hh
  obtain ⟨W, rfl⟩ := Int.eq_ofNat_of_zero_le a0
  obtain ⟨L, rfl⟩ := Int.eq_ofNat_of_zero_le l0
  obtain ⟨H, rfl⟩ := Int.eq_ofNat_of_zero_le h0
  have hL : L < 256 := by omega
  have hH : H < 256 := by omega
  have hW : W < 18446744073709551616 := by omega
  have hF := fillOf_lt 128 (by decide)
  have lA : aboveM L W < 256 := by rw [aboveM_eq L W hL]; exact mask8_lt _ _
  have lO : mask8 (isB L) W ||| mask8 (belowB L) W < 256 := by rw [mask8_or]; exact mask8_lt _ _
  have lP : mask8 (belowB H) W ||| mask8 (isB H) W < 256 := by rw [mask8_or]; exact mask8_lt _ _
  have hX : W ^^^ fillOf 128 < 18446744073709551616 := Nat.xor_lt_two_pow (n := 64) hW hF
  refine parts_nat W L H (mask8 (isB L) W) (mask8 (belowB L) W) (aboveM L W) (mask8 (lessB (sgn L)) W) (fillOf 128) (W ^^^ fillOf 128) (L ^^^ 128) (mask8 (lessB 0) W) (mask8 (belowB 128) W) (mask8 (betweenB L H) W) (mask8 (belowB H) W) (mask8 (isB H) W) w hW hX hL hH
    rfl rfl rfl rfl rfl (less_below L W hL).symm rfl rfl rfl rfl rfl ?_ ?_ ?_ ?_ ?_ ?_ ?_ ?_
  · rw [u8_and_nat _ _ (mask8_lt _ _) (mask8_lt _ _), eq_below]; rfl
  · rw [u8_and_nat _ _ (mask8_lt _ _) lA, eq_above L W hL]; rfl
  · rw [u8_and_nat _ _ (mask8_lt _ _) lA, below_above L W hL]; rfl
  · rw [u8_or_nat _ _ (mask8_lt _ _) (mask8_lt _ _), u8_or_nat _ _ lO lA, all_three L W hL]; rfl
  · rw [bits_xor_u64_nat _ _ hW hF]
  · exact u8_xor_nat L 128 hL (by decide)
  · rw [show IntKind.u8.max = ((255 : Nat) : Int) from rfl, u8_xor_nat _ _ (by decide) (mask8_lt _ _), high_not, ← mask8_all W, not_mask]
  · rw [u8_or_nat _ _ (mask8_lt _ _) (mask8_lt _ _), u8_andNot_nat _ _ lP (mask8_lt _ _), between_split]
end Go.Proofs.Ytnilalgoehphaab
