/-
  TextsJoins: two right ones, one behind the other.
-/
import Derived.Test.YtlcihopklnnhdabTxAwake
import Derived.Test.YtlcihopklnnhdabTxMeet
import Derived.Test.YtlcihopklnnhdabUtf8Read
import Derived.Laws.Concat
namespace Go.Proofs.Ytlcihopklnnhdab
open Go.RowKit Go.Shelf

/-- What half tells of the six bytes from k on. -/
def HalfH (s : ByteArray) (k : Nat) (P : Nat → Prop) (B : Bool) : Prop := k + 6 ≤ s.size → bAt s k = 92 → bAt s (k + 1) = 117 → (bAt s (k + 2) = 100 ∨ bAt s (k + 2) = 68) → P (bAt s (k + 3)) → B = true


set_option maxRecDepth 10000 in
set_option maxHeartbeats 1000000 in
theorem half_hi (s : ByteArray) (hs : s.size ≤ 1048576) (w : World) :
    Calls Try.prog 7 #[.string s, .bool true] w fun e w' => (∃ B, e = .returned (.bool B) ∧ HalfH s (s.size - 6) HiD B) ∧ Below w.heap.size w w' := by
  by_cases h6 : s.size < 6
  · have h6i : (s.size : Int) < 6 := by omega
    go_enter Try.func7, Try.ntmps7
    go_wp2
    go_ret
    exact ⟨⟨false, rfl, fun h => by omega⟩, by repeat (first | with_reducible exact Below.refl _ _ | with_reducible refine Below.setCell ?_ (by first | (simp; done) | (simp; omega)) _ | with_reducible refine below_drewN ?_ _ | with_reducible refine Below.alloc ?_ (by first | (simp; done) | (simp; omega)) _ | with_reducible refine Below.drew ?_)⟩
  · obtain ⟨k, hk⟩ : ∃ k : Nat, Hid (s.size = k + 6) := ⟨s.size - 6, hid (by omega)⟩
    have h6i : ¬ (s.size : Int) < 6 := by omega
    have hki : (s.size : Int) - 6 = (k : Int) := by have := hk.out; omega
    have hsi : (s.size : Int) ≤ 1048576 := by omega
    have hx0 := bAt_at s k (by have := hk.out; omega)
    have l0 : (k : Int) < (s.size : Int) := by have := hk.out; omega
    obtain ⟨b0, hB0⟩ : ∃ x, Hid (bAt s k = x) := ⟨_, rfl⟩
    rw [hB0.out] at hx0
    have hx1 := bAt_at s (k + 1) (by have := hk.out; omega)
    have l1 : (k : Int) + 1 < (s.size : Int) := by have := hk.out; omega
    obtain ⟨b1, hB1⟩ : ∃ x, Hid (bAt s (k + 1) = x) := ⟨_, rfl⟩
    rw [hB1.out] at hx1
    have hx2 := bAt_at s (k + 2) (by have := hk.out; omega)
    have l2 : (k : Int) + 2 < (s.size : Int) := by have := hk.out; omega
    obtain ⟨c, hB2⟩ : ∃ x, Hid (bAt s (k + 2) = x) := ⟨_, rfl⟩
    rw [hB2.out] at hx2
    have hx3 := bAt_at s (k + 3) (by have := hk.out; omega)
    have l3 : (k : Int) + 3 < (s.size : Int) := by have := hk.out; omega
    obtain ⟨d, hB3⟩ : ∃ x, Hid (bAt s (k + 3) = x) := ⟨_, rfl⟩
    rw [hB3.out] at hx3
    have hq1 : c < 256 := by rw [← hB2.out]; exact bAt_lt s _
    have hq2 : d < 256 := by rw [← hB3.out]; exact bAt_lt s _
    have hfin : Hid (∀ B, (b0 = 92 → b1 = 117 → (c = 100 ∨ c = 68) → HiD d → B = true) → HalfH s (s.size - 6) HiD B) := hid (fun B h => by
      have e : s.size - 6 = k := by have := hk.out; omega
      intro _ g0 g1 g2 g3
      rw [e, hB0.out] at g0
      rw [e, hB1.out] at g1
      rw [e, hB2.out] at g2
      rw [e, hB3.out] at g3
      exact h g0 g1 g2 g3)
    have hkb : k ≤ 1048576 := by have := hk.out; omega
    have hkc : (k : Int) ≤ 1048576 := by omega
    have p2 : (0 : Int) ≤ (k : Int) + 2 := by omega
    have p3 : (0 : Int) ≤ (k : Int) + 3 := by omega
    have t2 : ((k : Int) + 2).toNat = k + 2 := by omega
    have t3 : ((k : Int) + 3).toNat = k + 3 := by omega
    clear hB0 hB1 hB2 hB3
    go_enter Try.func7, Try.ntmps7
    go_wp2
    go_region
    by_cases e0 : ¬ b0 = 92
    · have m0 : ((b0 : Int) != 92) = true := by simp; omega
      go_wp2
      go_ret
      exact ⟨⟨false, rfl, hfin.out _ (fun h => absurd h e0)⟩, by repeat (first | with_reducible exact Below.refl _ _ | with_reducible refine Below.setCell ?_ (by first | (simp; done) | (simp; omega)) _ | with_reducible refine below_drewN ?_ _ | with_reducible refine Below.alloc ?_ (by first | (simp; done) | (simp; omega)) _ | with_reducible refine Below.drew ?_)⟩
    have m0 : ((b0 : Int) != 92) = false := by simp; omega
    by_cases e1 : ¬ b1 = 117
    · have m1 : ((b1 : Int) != 117) = true := by simp; omega
      go_wp2
      go_ret
      exact ⟨⟨false, rfl, hfin.out _ (fun _ h => absurd h e1)⟩, by repeat (first | with_reducible exact Below.refl _ _ | with_reducible refine Below.setCell ?_ (by first | (simp; done) | (simp; omega)) _ | with_reducible refine below_drewN ?_ _ | with_reducible refine Below.alloc ?_ (by first | (simp; done) | (simp; omega)) _ | with_reducible refine Below.drew ?_)⟩
    have m1 : ((b1 : Int) != 117) = false := by simp; omega
    by_cases e2 : ¬ (c = 100 ∨ c = 68)
    · have m2 : ((c : Int) != 100) = true := by simp; omega
      have m3 : ((c : Int) != 68) = true := by simp; omega
      go_wp2
      go_ret
      exact ⟨⟨false, rfl, hfin.out _ (fun _ _ h => absurd h e2)⟩, by repeat (first | with_reducible exact Below.refl _ _ | with_reducible refine Below.setCell ?_ (by first | (simp; done) | (simp; omega)) _ | with_reducible refine below_drewN ?_ _ | with_reducible refine Below.alloc ?_ (by first | (simp; done) | (simp; omega)) _ | with_reducible refine Below.drew ?_)⟩
    by_cases e3 : c = 100
    · have m2 : ((c : Int) != 100) = false := by simp; omega
      by_cases k56 : d = 56
      · have n56 : ((d : Int) == 56) = true := by simp; omega
        go_wp2
        go_ret
        exact ⟨⟨true, rfl, hfin.out _ (fun _ _ _ _ => rfl)⟩, by repeat (first | with_reducible exact Below.refl _ _ | with_reducible refine Below.setCell ?_ (by first | (simp; done) | (simp; omega)) _ | with_reducible refine below_drewN ?_ _ | with_reducible refine Below.alloc ?_ (by first | (simp; done) | (simp; omega)) _ | with_reducible refine Below.drew ?_)⟩
      have n56 : ((d : Int) == 56) = false := by simp; omega
      by_cases k57 : d = 57
      · have n57 : ((d : Int) == 57) = true := by simp; omega
        go_wp2
        go_ret
        exact ⟨⟨true, rfl, hfin.out _ (fun _ _ _ _ => rfl)⟩, by repeat (first | with_reducible exact Below.refl _ _ | with_reducible refine Below.setCell ?_ (by first | (simp; done) | (simp; omega)) _ | with_reducible refine below_drewN ?_ _ | with_reducible refine Below.alloc ?_ (by first | (simp; done) | (simp; omega)) _ | with_reducible refine Below.drew ?_)⟩
      have n57 : ((d : Int) == 57) = false := by simp; omega
      by_cases k97 : d = 97
      · have n97 : ((d : Int) == 97) = true := by simp; omega
        go_wp2
        go_ret
        exact ⟨⟨true, rfl, hfin.out _ (fun _ _ _ _ => rfl)⟩, by repeat (first | with_reducible exact Below.refl _ _ | with_reducible refine Below.setCell ?_ (by first | (simp; done) | (simp; omega)) _ | with_reducible refine below_drewN ?_ _ | with_reducible refine Below.alloc ?_ (by first | (simp; done) | (simp; omega)) _ | with_reducible refine Below.drew ?_)⟩
      have n97 : ((d : Int) == 97) = false := by simp; omega
      by_cases k65 : d = 65
      · have n65 : ((d : Int) == 65) = true := by simp; omega
        go_wp2
        go_ret
        exact ⟨⟨true, rfl, hfin.out _ (fun _ _ _ _ => rfl)⟩, by repeat (first | with_reducible exact Below.refl _ _ | with_reducible refine Below.setCell ?_ (by first | (simp; done) | (simp; omega)) _ | with_reducible refine below_drewN ?_ _ | with_reducible refine Below.alloc ?_ (by first | (simp; done) | (simp; omega)) _ | with_reducible refine Below.drew ?_)⟩
      have n65 : ((d : Int) == 65) = false := by simp; omega
      by_cases k98 : d = 98
      · have n98 : ((d : Int) == 98) = true := by simp; omega
        go_wp2
        go_ret
        exact ⟨⟨true, rfl, hfin.out _ (fun _ _ _ _ => rfl)⟩, by repeat (first | with_reducible exact Below.refl _ _ | with_reducible refine Below.setCell ?_ (by first | (simp; done) | (simp; omega)) _ | with_reducible refine below_drewN ?_ _ | with_reducible refine Below.alloc ?_ (by first | (simp; done) | (simp; omega)) _ | with_reducible refine Below.drew ?_)⟩
      have n98 : ((d : Int) == 98) = false := by simp; omega
      by_cases k66 : d = 66
      · have n66 : ((d : Int) == 66) = true := by simp; omega
        go_wp2
        go_ret
        exact ⟨⟨true, rfl, hfin.out _ (fun _ _ _ _ => rfl)⟩, by repeat (first | with_reducible exact Below.refl _ _ | with_reducible refine Below.setCell ?_ (by first | (simp; done) | (simp; omega)) _ | with_reducible refine below_drewN ?_ _ | with_reducible refine Below.alloc ?_ (by first | (simp; done) | (simp; omega)) _ | with_reducible refine Below.drew ?_)⟩
      have n66 : ((d : Int) == 66) = false := by simp; omega
      go_wp2
      go_ret
      exact ⟨⟨false, rfl, hfin.out _ (fun _ _ _ h => by unfold HiD at h; omega)⟩, by repeat (first | with_reducible exact Below.refl _ _ | with_reducible refine Below.setCell ?_ (by first | (simp; done) | (simp; omega)) _ | with_reducible refine below_drewN ?_ _ | with_reducible refine Below.alloc ?_ (by first | (simp; done) | (simp; omega)) _ | with_reducible refine Below.drew ?_)⟩
    · have m2 : ((c : Int) != 100) = true := by simp; omega
      have m3 : ((c : Int) != 68) = false := by simp; omega
      by_cases k56 : d = 56
      · have n56 : ((d : Int) == 56) = true := by simp; omega
        go_wp2
        go_ret
        exact ⟨⟨true, rfl, hfin.out _ (fun _ _ _ _ => rfl)⟩, by repeat (first | with_reducible exact Below.refl _ _ | with_reducible refine Below.setCell ?_ (by first | (simp; done) | (simp; omega)) _ | with_reducible refine below_drewN ?_ _ | with_reducible refine Below.alloc ?_ (by first | (simp; done) | (simp; omega)) _ | with_reducible refine Below.drew ?_)⟩
      have n56 : ((d : Int) == 56) = false := by simp; omega
      by_cases k57 : d = 57
      · have n57 : ((d : Int) == 57) = true := by simp; omega
        go_wp2
        go_ret
        exact ⟨⟨true, rfl, hfin.out _ (fun _ _ _ _ => rfl)⟩, by repeat (first | with_reducible exact Below.refl _ _ | with_reducible refine Below.setCell ?_ (by first | (simp; done) | (simp; omega)) _ | with_reducible refine below_drewN ?_ _ | with_reducible refine Below.alloc ?_ (by first | (simp; done) | (simp; omega)) _ | with_reducible refine Below.drew ?_)⟩
      have n57 : ((d : Int) == 57) = false := by simp; omega
      by_cases k97 : d = 97
      · have n97 : ((d : Int) == 97) = true := by simp; omega
        go_wp2
        go_ret
        exact ⟨⟨true, rfl, hfin.out _ (fun _ _ _ _ => rfl)⟩, by repeat (first | with_reducible exact Below.refl _ _ | with_reducible refine Below.setCell ?_ (by first | (simp; done) | (simp; omega)) _ | with_reducible refine below_drewN ?_ _ | with_reducible refine Below.alloc ?_ (by first | (simp; done) | (simp; omega)) _ | with_reducible refine Below.drew ?_)⟩
      have n97 : ((d : Int) == 97) = false := by simp; omega
      by_cases k65 : d = 65
      · have n65 : ((d : Int) == 65) = true := by simp; omega
        go_wp2
        go_ret
        exact ⟨⟨true, rfl, hfin.out _ (fun _ _ _ _ => rfl)⟩, by repeat (first | with_reducible exact Below.refl _ _ | with_reducible refine Below.setCell ?_ (by first | (simp; done) | (simp; omega)) _ | with_reducible refine below_drewN ?_ _ | with_reducible refine Below.alloc ?_ (by first | (simp; done) | (simp; omega)) _ | with_reducible refine Below.drew ?_)⟩
      have n65 : ((d : Int) == 65) = false := by simp; omega
      by_cases k98 : d = 98
      · have n98 : ((d : Int) == 98) = true := by simp; omega
        go_wp2
        go_ret
        exact ⟨⟨true, rfl, hfin.out _ (fun _ _ _ _ => rfl)⟩, by repeat (first | with_reducible exact Below.refl _ _ | with_reducible refine Below.setCell ?_ (by first | (simp; done) | (simp; omega)) _ | with_reducible refine below_drewN ?_ _ | with_reducible refine Below.alloc ?_ (by first | (simp; done) | (simp; omega)) _ | with_reducible refine Below.drew ?_)⟩
      have n98 : ((d : Int) == 98) = false := by simp; omega
      by_cases k66 : d = 66
      · have n66 : ((d : Int) == 66) = true := by simp; omega
        go_wp2
        go_ret
        exact ⟨⟨true, rfl, hfin.out _ (fun _ _ _ _ => rfl)⟩, by repeat (first | with_reducible exact Below.refl _ _ | with_reducible refine Below.setCell ?_ (by first | (simp; done) | (simp; omega)) _ | with_reducible refine below_drewN ?_ _ | with_reducible refine Below.alloc ?_ (by first | (simp; done) | (simp; omega)) _ | with_reducible refine Below.drew ?_)⟩
      have n66 : ((d : Int) == 66) = false := by simp; omega
      go_wp2
      go_ret
      exact ⟨⟨false, rfl, hfin.out _ (fun _ _ _ h => by unfold HiD at h; omega)⟩, by repeat (first | with_reducible exact Below.refl _ _ | with_reducible refine Below.setCell ?_ (by first | (simp; done) | (simp; omega)) _ | with_reducible refine below_drewN ?_ _ | with_reducible refine Below.alloc ?_ (by first | (simp; done) | (simp; omega)) _ | with_reducible refine Below.drew ?_)⟩

set_option maxRecDepth 10000 in
set_option maxHeartbeats 1000000 in
theorem half_lo (s : ByteArray) (hs : s.size ≤ 1048576) (w : World) :
    Calls Try.prog 7 #[.string s, .bool false] w fun e w' => (∃ B, e = .returned (.bool B) ∧ HalfH s 0 LoD B) ∧ Below w.heap.size w w' := by
  by_cases h6 : s.size < 6
  · have h6i : (s.size : Int) < 6 := by omega
    go_enter Try.func7, Try.ntmps7
    go_wp2
    go_ret
    exact ⟨⟨false, rfl, fun h => by omega⟩, by repeat (first | with_reducible exact Below.refl _ _ | with_reducible refine Below.setCell ?_ (by first | (simp; done) | (simp; omega)) _ | with_reducible refine below_drewN ?_ _ | with_reducible refine Below.alloc ?_ (by first | (simp; done) | (simp; omega)) _ | with_reducible refine Below.drew ?_)⟩
  · obtain ⟨k, hk⟩ : ∃ k : Nat, Hid (s.size = k + 6) := ⟨s.size - 6, hid (by omega)⟩
    have h6i : ¬ (s.size : Int) < 6 := by omega
    have hki : (s.size : Int) - 6 = (k : Int) := by have := hk.out; omega
    have hsi : (s.size : Int) ≤ 1048576 := by omega
    have hx0 := bAt_at s 0 (by have := hk.out; omega)
    have l0 : (0 : Int) < (s.size : Int) := by have := hk.out; omega
    obtain ⟨b0, hB0⟩ : ∃ x, Hid (bAt s 0 = x) := ⟨_, rfl⟩
    rw [hB0.out] at hx0
    have hx1 := bAt_at s 1 (by have := hk.out; omega)
    have l1 : (1 : Int) < (s.size : Int) := by have := hk.out; omega
    obtain ⟨b1, hB1⟩ : ∃ x, Hid (bAt s 1 = x) := ⟨_, rfl⟩
    rw [hB1.out] at hx1
    have hx2 := bAt_at s 2 (by have := hk.out; omega)
    have l2 : (2 : Int) < (s.size : Int) := by have := hk.out; omega
    obtain ⟨c, hB2⟩ : ∃ x, Hid (bAt s 2 = x) := ⟨_, rfl⟩
    rw [hB2.out] at hx2
    have hx3 := bAt_at s 3 (by have := hk.out; omega)
    have l3 : (3 : Int) < (s.size : Int) := by have := hk.out; omega
    obtain ⟨d, hB3⟩ : ∃ x, Hid (bAt s 3 = x) := ⟨_, rfl⟩
    rw [hB3.out] at hx3
    have hq1 : c < 256 := by rw [← hB2.out]; exact bAt_lt s _
    have hq2 : d < 256 := by rw [← hB3.out]; exact bAt_lt s _
    have hfin : Hid (∀ B, (b0 = 92 → b1 = 117 → (c = 100 ∨ c = 68) → LoD d → B = true) → HalfH s 0 LoD B) := hid (fun B h => by
      skip
      intro _ g0 g1 g2 g3
      rw [hB0.out] at g0
      rw [Nat.zero_add, hB1.out] at g1
      rw [Nat.zero_add, hB2.out] at g2
      rw [Nat.zero_add, hB3.out] at g3
      exact h g0 g1 g2 g3)
    have hkb : k ≤ 1048576 := by have := hk.out; omega
    have hkc : (k : Int) ≤ 1048576 := by omega
    have p2 : (0 : Int) ≤ (k : Int) + 2 := by omega
    have p3 : (0 : Int) ≤ (k : Int) + 3 := by omega
    have t2 : ((k : Int) + 2).toNat = k + 2 := by omega
    have t3 : ((k : Int) + 3).toNat = k + 3 := by omega
    clear hB0 hB1 hB2 hB3
    go_enter Try.func7, Try.ntmps7
    go_wp2
    go_region
    by_cases e0 : ¬ b0 = 92
    · have m0 : ((b0 : Int) != 92) = true := by simp; omega
      go_wp2
      go_ret
      exact ⟨⟨false, rfl, hfin.out _ (fun h => absurd h e0)⟩, by repeat (first | with_reducible exact Below.refl _ _ | with_reducible refine Below.setCell ?_ (by first | (simp; done) | (simp; omega)) _ | with_reducible refine below_drewN ?_ _ | with_reducible refine Below.alloc ?_ (by first | (simp; done) | (simp; omega)) _ | with_reducible refine Below.drew ?_)⟩
    have m0 : ((b0 : Int) != 92) = false := by simp; omega
    by_cases e1 : ¬ b1 = 117
    · have m1 : ((b1 : Int) != 117) = true := by simp; omega
      go_wp2
      go_ret
      exact ⟨⟨false, rfl, hfin.out _ (fun _ h => absurd h e1)⟩, by repeat (first | with_reducible exact Below.refl _ _ | with_reducible refine Below.setCell ?_ (by first | (simp; done) | (simp; omega)) _ | with_reducible refine below_drewN ?_ _ | with_reducible refine Below.alloc ?_ (by first | (simp; done) | (simp; omega)) _ | with_reducible refine Below.drew ?_)⟩
    have m1 : ((b1 : Int) != 117) = false := by simp; omega
    by_cases e2 : ¬ (c = 100 ∨ c = 68)
    · have m2 : ((c : Int) != 100) = true := by simp; omega
      have m3 : ((c : Int) != 68) = true := by simp; omega
      go_wp2
      go_ret
      exact ⟨⟨false, rfl, hfin.out _ (fun _ _ h => absurd h e2)⟩, by repeat (first | with_reducible exact Below.refl _ _ | with_reducible refine Below.setCell ?_ (by first | (simp; done) | (simp; omega)) _ | with_reducible refine below_drewN ?_ _ | with_reducible refine Below.alloc ?_ (by first | (simp; done) | (simp; omega)) _ | with_reducible refine Below.drew ?_)⟩
    by_cases e3 : c = 100
    · have m2 : ((c : Int) != 100) = false := by simp; omega
      by_cases k1 : 99 ≤ d
      · have n1 : decide ((99 : Int) ≤ (d : Int)) = true := by simp; omega
        have n3 : decide ((67 : Int) ≤ (d : Int)) = true := by simp; omega
        have n4 : decide ((d : Int) ≤ 70) = false := by simp; omega
        by_cases k2 : d ≤ 102
        · have n2 : decide ((d : Int) ≤ 102) = true := by simp; omega
          go_wp2
          go_ret
          exact ⟨⟨true, rfl, hfin.out _ (fun _ _ _ _ => rfl)⟩, by repeat (first | with_reducible exact Below.refl _ _ | with_reducible refine Below.setCell ?_ (by first | (simp; done) | (simp; omega)) _ | with_reducible refine below_drewN ?_ _ | with_reducible refine Below.alloc ?_ (by first | (simp; done) | (simp; omega)) _ | with_reducible refine Below.drew ?_)⟩
        · have n2 : decide ((d : Int) ≤ 102) = false := by simp; omega
          go_wp2
          go_ret
          exact ⟨⟨false, rfl, hfin.out _ (fun _ _ _ h => by unfold LoD at h; omega)⟩, by repeat (first | with_reducible exact Below.refl _ _ | with_reducible refine Below.setCell ?_ (by first | (simp; done) | (simp; omega)) _ | with_reducible refine below_drewN ?_ _ | with_reducible refine Below.alloc ?_ (by first | (simp; done) | (simp; omega)) _ | with_reducible refine Below.drew ?_)⟩
      · have n1 : decide ((99 : Int) ≤ (d : Int)) = false := by simp; omega
        by_cases k3 : 67 ≤ d
        · have n3 : decide ((67 : Int) ≤ (d : Int)) = true := by simp; omega
          by_cases k4 : d ≤ 70
          · have n4 : decide ((d : Int) ≤ 70) = true := by simp; omega
            go_wp2
            go_ret
            exact ⟨⟨true, rfl, hfin.out _ (fun _ _ _ _ => rfl)⟩, by repeat (first | with_reducible exact Below.refl _ _ | with_reducible refine Below.setCell ?_ (by first | (simp; done) | (simp; omega)) _ | with_reducible refine below_drewN ?_ _ | with_reducible refine Below.alloc ?_ (by first | (simp; done) | (simp; omega)) _ | with_reducible refine Below.drew ?_)⟩
          · have n4 : decide ((d : Int) ≤ 70) = false := by simp; omega
            go_wp2
            go_ret
            exact ⟨⟨false, rfl, hfin.out _ (fun _ _ _ h => by unfold LoD at h; omega)⟩, by repeat (first | with_reducible exact Below.refl _ _ | with_reducible refine Below.setCell ?_ (by first | (simp; done) | (simp; omega)) _ | with_reducible refine below_drewN ?_ _ | with_reducible refine Below.alloc ?_ (by first | (simp; done) | (simp; omega)) _ | with_reducible refine Below.drew ?_)⟩
        · have n3 : decide ((67 : Int) ≤ (d : Int)) = false := by simp; omega
          go_wp2
          go_ret
          exact ⟨⟨false, rfl, hfin.out _ (fun _ _ _ h => by unfold LoD at h; omega)⟩, by repeat (first | with_reducible exact Below.refl _ _ | with_reducible refine Below.setCell ?_ (by first | (simp; done) | (simp; omega)) _ | with_reducible refine below_drewN ?_ _ | with_reducible refine Below.alloc ?_ (by first | (simp; done) | (simp; omega)) _ | with_reducible refine Below.drew ?_)⟩
    · have m2 : ((c : Int) != 100) = true := by simp; omega
      have m3 : ((c : Int) != 68) = false := by simp; omega
      by_cases k1 : 99 ≤ d
      · have n1 : decide ((99 : Int) ≤ (d : Int)) = true := by simp; omega
        have n3 : decide ((67 : Int) ≤ (d : Int)) = true := by simp; omega
        have n4 : decide ((d : Int) ≤ 70) = false := by simp; omega
        by_cases k2 : d ≤ 102
        · have n2 : decide ((d : Int) ≤ 102) = true := by simp; omega
          go_wp2
          go_ret
          exact ⟨⟨true, rfl, hfin.out _ (fun _ _ _ _ => rfl)⟩, by repeat (first | with_reducible exact Below.refl _ _ | with_reducible refine Below.setCell ?_ (by first | (simp; done) | (simp; omega)) _ | with_reducible refine below_drewN ?_ _ | with_reducible refine Below.alloc ?_ (by first | (simp; done) | (simp; omega)) _ | with_reducible refine Below.drew ?_)⟩
        · have n2 : decide ((d : Int) ≤ 102) = false := by simp; omega
          go_wp2
          go_ret
          exact ⟨⟨false, rfl, hfin.out _ (fun _ _ _ h => by unfold LoD at h; omega)⟩, by repeat (first | with_reducible exact Below.refl _ _ | with_reducible refine Below.setCell ?_ (by first | (simp; done) | (simp; omega)) _ | with_reducible refine below_drewN ?_ _ | with_reducible refine Below.alloc ?_ (by first | (simp; done) | (simp; omega)) _ | with_reducible refine Below.drew ?_)⟩
      · have n1 : decide ((99 : Int) ≤ (d : Int)) = false := by simp; omega
        by_cases k3 : 67 ≤ d
        · have n3 : decide ((67 : Int) ≤ (d : Int)) = true := by simp; omega
          by_cases k4 : d ≤ 70
          · have n4 : decide ((d : Int) ≤ 70) = true := by simp; omega
            go_wp2
            go_ret
            exact ⟨⟨true, rfl, hfin.out _ (fun _ _ _ _ => rfl)⟩, by repeat (first | with_reducible exact Below.refl _ _ | with_reducible refine Below.setCell ?_ (by first | (simp; done) | (simp; omega)) _ | with_reducible refine below_drewN ?_ _ | with_reducible refine Below.alloc ?_ (by first | (simp; done) | (simp; omega)) _ | with_reducible refine Below.drew ?_)⟩
          · have n4 : decide ((d : Int) ≤ 70) = false := by simp; omega
            go_wp2
            go_ret
            exact ⟨⟨false, rfl, hfin.out _ (fun _ _ _ h => by unfold LoD at h; omega)⟩, by repeat (first | with_reducible exact Below.refl _ _ | with_reducible refine Below.setCell ?_ (by first | (simp; done) | (simp; omega)) _ | with_reducible refine below_drewN ?_ _ | with_reducible refine Below.alloc ?_ (by first | (simp; done) | (simp; omega)) _ | with_reducible refine Below.drew ?_)⟩
        · have n3 : decide ((67 : Int) ≤ (d : Int)) = false := by simp; omega
          go_wp2
          go_ret
          exact ⟨⟨false, rfl, hfin.out _ (fun _ _ _ h => by unfold LoD at h; omega)⟩, by repeat (first | with_reducible exact Below.refl _ _ | with_reducible refine Below.setCell ?_ (by first | (simp; done) | (simp; omega)) _ | with_reducible refine below_drewN ?_ _ | with_reducible refine Below.alloc ?_ (by first | (simp; done) | (simp; omega)) _ | with_reducible refine Below.drew ?_)⟩

set_option maxRecDepth 10000 in
set_option maxHeartbeats 1000000 in
theorem textsJoins_walk (a0 : ByteArray) (h0 : a0.size ≤ 1048576) (a1 : ByteArray) (h1 : a1.size ≤ 1048576) (w : World) (h15 : Ok15 w) :
    Calls Try.prog 3 #[.string a0, .string a1] w fun e w' => e = .returned (.bool true) ∧ Below w.heap.size w w' := by
  have h15' := hid h15
  obtain ⟨T, E, hU⟩ : ∃ T E, Hid (unS a0 = (T, E)) := ⟨_, _, rfl⟩
  obtain ⟨T2, D, hV⟩ : ∃ T E, Hid (unS a1 = (T, E)) := ⟨_, _, rfl⟩
  have h0i : (a0.size : Int) ≤ 1048576 := by omega
  have h1i : (a1.size : Int) ≤ 1048576 := by omega
  by_cases hE : ¬ E = 0
  · have e0 : (E == 0) = false := by simpa using hE
    have e1 : (E != 0) = true := by simpa using hE
    go_enter Try.func3, Try.ntmps3
    go_wp2_with fail
    refine (un_calls a0 (by omega) T E hU _ h15'.out).mono ?_
    rintro e w1 ⟨rfl, hb1⟩
    have hb1' := hid hb1
    clear hb1
    go_wp2_with fail
    refine (un_calls a1 (by omega) T2 D hV _ (h15'.out.below hb1'.out)).mono ?_
    rintro e w2 ⟨rfl, hb2⟩
    have hb2' := hid (hb1'.out.trans (hb2.mono hb1'.out.size))
    clear hb2
    go_wp2_with fail
    refine (awake15_calls _ (h15'.out.below hb2'.out)).mono ?_
    rintro e w3 ⟨rfl, hb3⟩
    have hb3' := hid (hb2'.out.trans (hb3.mono hb2'.out.size))
    clear hb3
    go_wp2
    go_ret
    exact ⟨rfl, hb3'.out⟩
  obtain rfl : E = 0 := by omega
  clear hE
  obtain ⟨f1, f2, f3⟩ := right_facts hU.out
  have f1' := hid f1
  have f2i : (T.size : Int) ≤ 1048576 := by omega
  have f2n : T.size ≤ 1048576 := by omega
  obtain ⟨z, hz⟩ : ∃ z, Hid (a0 ++ ⟨#[34]⟩ = z) := ⟨_, rfl⟩
  have hzs : z.size ≤ 1048577 := by
    rw [← hz.out, ByteArray.size_append]
    have : (⟨#[34]⟩ : ByteArray).size = 1 := rfl
    omega
  rw [hz.out] at f3
  have f3' := hid f3
  clear f1 f2 f3
  go_enter Try.func3, Try.ntmps3
  go_wp2_with fail
  refine (un_calls a0 (by omega) T 0 hU _ h15'.out).mono ?_
  rintro e w1 ⟨rfl, hb1⟩
  have hb1' := hid hb1
  clear hb1
  go_wp2_with fail
  refine (un_calls a1 (by omega) T2 D hV _ (h15'.out.below hb1'.out)).mono ?_
  rintro e w2 ⟨rfl, hb2⟩
  have hb2' := hid (hb1'.out.trans (hb2.mono hb1'.out.size))
  clear hb2 hb1'
  go_wp2_with fail
  refine (badF_calls T (by omega) _).mono ?_
  rintro e w3 ⟨rfl, hb3⟩
  have hb3' := hid (hb2'.out.trans (hb3.mono hb2'.out.size))
  clear hb3 hb2'
  rw [f1'.out]
  go_wp2_with fail
  rw [hz.out]
  refine (end_calls z (by omega) 0 (by decide) _ (h15'.out.below hb3'.out)).mono ?_
  rintro e w4 ⟨⟨n2, E2, rfl, hn⟩, hb4⟩
  obtain ⟨rfl, rfl⟩ := hn.uniq f3'.out
  have hb4' := hid (hb3'.out.trans (hb4.mono hb3'.out.size))
  clear hb4 hn hb3'
  by_cases hD : ¬ D = 0
  · have e1 : (D != 0) = true := by simpa using hD
    go_wp2_with fail
    refine (awake15_calls _ (h15'.out.below hb4'.out)).mono ?_
    rintro e w5 ⟨rfl, hb5⟩
    have hb5' := hid (hb4'.out.trans (hb5.mono hb4'.out.size))
    clear hb5
    go_wp2
    go_ret
    exact ⟨rfl, hb5'.out⟩
  obtain rfl : D = 0 := by omega
  clear hD
  have g2i : (T2.size : Int) ≤ 1048576 := by have := (right_facts hV.out).2.1; omega
  have g2n : T2.size ≤ 1048576 := by omega
  go_wp2_with fail
  refine (half_hi a0 h0 _).mono ?_
  rintro e w5 ⟨⟨B1, rfl, hB1⟩, hb5⟩
  have hb5' := hid (hb4'.out.trans (hb5.mono hb4'.out.size))
  have hB1' := hid hB1
  clear hb5 hB1 hb4'
  obtain ⟨y, hy⟩ : ∃ y, Hid (a0 ++ a1 = y) := ⟨_, rfl⟩
  have hys : y.size ≤ 2097152 := by
    rw [← hy.out, ByteArray.size_append]
    omega
  have hyf : Hid (¬ meetP (byts a0) (byts a1) → unS y = (T ++ T2, 0)) := hid (fun hm => by
    rw [← hy.out]
    exact join_facts hU.out hV.out hm)
  obtain ⟨x, hx⟩ : ∃ x, Hid (T ++ T2 = x) := ⟨_, rfl⟩
  have hmeet : Hid (meetP (byts a0) (byts a1) → B1 = true) := hid (fun hm => by
    obtain ⟨⟨m0, m1, m2, m3, m4⟩, -⟩ := meet_bytes hm
    exact hB1'.out (by omega) m1 m2 m3 m4)
  cases B1 with
  | false =>
    have hun : Hid (unS y = (x, 0)) := hid (by rw [← hx.out]; exact hyf.out (fun hm => by have := hmeet.out hm; cases this))
    clear hyf hmeet hB1'
    go_wp2_with fail
    rw [hy.out]
    refine (un_calls y (by omega) x 0 hun _ (h15'.out.below hb5'.out)).mono ?_
    rintro e w6 ⟨rfl, hb6⟩
    have hb6' := hid (hb5'.out.trans (hb6.mono hb5'.out.size))
    clear hb6
    have hx2 := hx.out
    clear hx hy
    subst hx2
    go_wp2_with fail
    refine (awake15_calls _ (h15'.out.below hb6'.out)).mono ?_
    rintro e w7 ⟨rfl, hb7⟩
    have hb7' := hid (hb6'.out.trans (hb7.mono hb6'.out.size))
    clear hb7
    go_wp2
    go_ret
    exact ⟨rfl, hb7'.out⟩
  | true =>
    clear hB1' hmeet
    go_wp2_with fail
    refine (half_lo a1 h1 _).mono ?_
    rintro e w6 ⟨⟨B2, rfl, hB2⟩, hb6⟩
    have hb6' := hid (hb5'.out.trans (hb6.mono hb5'.out.size))
    have hB2' := hid hB2
    clear hb6 hB2 hb5'
    cases B2 with
    | true =>
      go_wp2_with fail
      refine (awake15_calls _ (h15'.out.below hb6'.out)).mono ?_
      rintro e w7 ⟨rfl, hb7⟩
      have hb7' := hid (hb6'.out.trans (hb7.mono hb6'.out.size))
      clear hb7
      go_wp2
      go_ret
      exact ⟨rfl, hb7'.out⟩
    | false =>
      have hun : Hid (unS y = (x, 0)) := hid (by
        rw [← hx.out]
        refine hyf.out (fun hm => ?_)
        obtain ⟨-, m0, m1, m2, m3, m4⟩ := meet_bytes hm
        have := hB2'.out (by omega) m1 (by rw [Nat.zero_add]; exact m2) (by rw [Nat.zero_add]; exact m3) (by rw [Nat.zero_add]; exact m4)
        cases this)
      clear hyf hB2'
      go_wp2_with fail
      rw [hy.out]
      refine (un_calls y (by omega) x 0 hun _ (h15'.out.below hb6'.out)).mono ?_
      rintro e w7 ⟨rfl, hb7⟩
      have hb7' := hid (hb6'.out.trans (hb7.mono hb6'.out.size))
      clear hb7
      have hx2 := hx.out
      clear hx hy
      subst hx2
      go_wp2_with fail
      refine (awake15_calls _ (h15'.out.below hb7'.out)).mono ?_
      rintro e w8 ⟨rfl, hb8⟩
      have hb8' := hid (hb7'.out.trans (hb8.mono hb7'.out.size))
      clear hb8
      go_wp2
      go_ret
      exact ⟨rfl, hb8'.out⟩
end Go.Proofs.Ytlcihopklnnhdab
