/-
  Of no program: what the document's way, place by place, makes of rows of bits.
-/
import Derived.Test.YtmbkcnhkbpaagabDoorBitMath2
namespace Go.Proofs.YtmbkcnhkbpaagabDoor

/-- A word made from its highest bit down: behind t bits. -/
def hiB (g : Nat → Bool) : Nat → Nat
  | 0 => 0
  | t + 1 => 2 * hiB g t + (g (63 - t)).toNat
theorem hiB_lt (g : Nat → Bool) (t : Nat) : hiB g t < 2 ^ t := by
  induction t with
  | zero => exact Nat.zero_lt_one
  | succ t ih => rw [hiB, Nat.pow_succ]; cases g (63 - t) <;> simp <;> omega
theorem hiB_sum (g : Nat → Bool) (t : Nat) (ht : t ≤ 64) : hiB g t * 2 ^ (64 - t) + sumBits g (64 - t) = sumBits g 64 := by
  induction t with
  | zero => simp [hiB]
  | succ t ih =>
    rw [← ih (by omega), hiB, show 64 - t = (63 - t) + 1 by omega, show 64 - (t + 1) = 63 - t by omega, sumBits_succ, Nat.pow_succ, Nat.add_mul, Nat.mul_comm 2 (hiB g t), Nat.mul_assoc, Nat.mul_comm 2 (2 ^ (63 - t))]
    cases g (63 - t) <;> simp <;> omega
theorem hiB_all (g : Nat → Bool) : hiB g 64 = sumBits g 64 := by
  have h := hiB_sum g 64 (Nat.le_refl _)
  rw [← h, Nat.sub_self, Nat.pow_zero, Nat.mul_one]
  rfl

/-- The row of words that has just these bits below n. -/
def rowOf (g : Nat → Bool) (n : Nat) (j : Nat) : Nat := sumBits (fun r => decide (64 * j + r < n) && g (64 * j + r)) 64
theorem rowOf_lt (g : Nat → Bool) (n j : Nat) : rowOf g n j < 18446744073709551616 := sumBits_lt _ 64
theorem rowOf_bit (g : Nat → Bool) (n i : Nat) : bitAt (rowOf g n) i = (decide (i < n) && g i) := by
  unfold bitAt rowOf
  rw [sumBits_bit, show 64 * (i / 64) + i % 64 = i by omega, decide_eq_true (show i % 64 < 64 by omega)]
  rfl
theorem rowOf_formed (g : Nat → Bool) (n : Nat) : formed n (need n) (rowOf g n) := ⟨by omega, by simp, fun i h1 _ => by rw [rowOf_bit, decide_eq_false (by simp at h1; omega)]; rfl⟩
/-- A word that has the row's bits is the row's word. -/
theorem rowOf_eq {g : Nat → Bool} {n j x : Nat} (hx : x < 18446744073709551616) (h : ∀ r, r < 64 → x.testBit r = (decide (64 * j + r < n) && g (64 * j + r))) : x = rowOf g n j := by
  refine bit_ext hx (rowOf_lt _ _ _) (fun r hr => ?_)
  rw [h r hr, rowOf, sumBits_bit, decide_eq_true hr]
  rfl
/-- A row of bits is made of its own bits. -/
theorem rowOf_self {N k : Nat} {X : Nat → Nat} (h : formed N k X) {j : Nat} (hj : j < k) (hX : X j < 18446744073709551616) : X j = rowOf (bitAt X) N j := by
  refine rowOf_eq hX (fun r hr => ?_)
  rw [bitAt_word X j r hr]
  by_cases hlt : 64 * j + r < N
  · rw [decide_eq_true hlt]; rfl
  · rw [decide_eq_false hlt]
    have := h.2.2 (64 * j + r) (by simp; omega) (by omega)
    rwa [bitAt_word X j r hr] at this
/-- What leaves the bits above n alone makes the row of the changed bits. -/
theorem rowOf_map {N : Nat} {g : Nat → Bool} {j x : Nat} (hx : x < 18446744073709551616) (h : ∀ r, r < 64 → x.testBit r = (decide (((r : Nat) : Int) < (N : Int) - 64 * (j : Int)) && g (64 * j + r))) : x = rowOf g N j :=
  rowOf_eq hx (fun r hr => by rw [h r hr]; congr 1; exact decide_eq_decide.2 (by omega))

/-- How many of the listed places lie between. -/
theorem countP_places (X : Nat → Nat) (N : Nat) (f t : Int) : (placesB X N).countP (fun (p : Nat) => decide (f ≤ (p : Int) ∧ (p : Int) < t)) = cntIn X N f t := by
  induction N with
  | zero => simp [placesB, cntIn]
  | succ N ih =>
    have hm := cntB_mono X (show min t.toNat N ≤ N by omega)
    have hs := cntB_succ X N
    cases hb : bitAt X N
    · rw [placesB_f hb, ih]
      unfold cntIn
      rw [hb] at hs
      have e : ∀ a : Nat, cntB X (min a (N + 1)) = cntB X (min a N) := fun a => by
        by_cases ha : a ≤ N
        · rw [show min a (N + 1) = min a N by omega]
        · rw [show min a (N + 1) = N + 1 by omega, show min a N = N by omega, hs]; rfl
      rw [e, e]
    · rw [placesB_t hb, List.countP_append, ih, List.countP_singleton]
      rw [hb] at hs
      unfold cntIn
      simp only [Bool.toNat_true] at hs
      by_cases h1 : f ≤ (N : Int)
      · have e1 : min f.toNat (N + 1) = min f.toNat N := by omega
        have hf : cntB X (min f.toNat N) ≤ cntB X N := cntB_mono X (by omega)
        rw [e1]
        by_cases h2 : (N : Int) < t
        · rw [show min t.toNat (N + 1) = N + 1 by omega, show min t.toNat N = N by omega, hs, if_pos (by simpa using ⟨h1, h2⟩)]
          omega
        · rw [show min t.toNat (N + 1) = min t.toNat N by omega, if_neg (by simp; omega)]
          rfl
      · rw [show min f.toNat (N + 1) = N + 1 by omega, show min f.toNat N = N by omega, if_neg (by simp; omega)]
        have h3 : cntB X (min t.toNat (N + 1)) ≤ cntB X (N + 1) := cntB_mono X (by omega)
        omega
/-- What is told of a list of the places. -/
theorem sel_list {X : Nat → Nat} {N k p : Nat} (h : (placesB X N)[k]? = some p) : IsSel X N k p := by
  obtain ⟨h1, h2, h3⟩ := placesB_rank h
  exact .inl ⟨p, rfl, h1, h2, by omega⟩
theorem sel_list_none {X : Nat → Nat} {N : Nat} {k : Int} (h : k < 0 ∨ ((placesB X N).length : Int) ≤ k) : IsSel X N k (-1) := .inr ⟨rfl, by rw [placesB_len] at h; exact h⟩
theorem next_list {X : Nat → Nat} {N j p : Nat} {f : Int} (h : (placesB X N)[j]? = some p) (hp : f ≤ (p : Int)) (hz : ∀ i q, i < j → (placesB X N)[i]? = some q → (q : Int) < f) : IsNext X N f p := by
  obtain ⟨h1, h2, h3⟩ := placesB_rank h
  refine .inl ⟨p, rfl, h1, h2, hp, fun i h4 h5 => ?_⟩
  cases hb : bitAt X i
  · rfl
  · have := hz (cntB X i) i (by rw [← h3]; exact cntB_lt h5 hb) (placesB_at (by omega) hb)
    omega
theorem next_list_none {X : Nat → Nat} {N : Nat} {f : Int} (hz : ∀ i q : Nat, (placesB X N)[i]? = some q → (q : Int) < f) : IsNext X N f (-1) := by
  refine .inr ⟨rfl, fun i h4 h5 => ?_⟩
  cases hb : bitAt X i
  · rfl
  · have := hz (cntB X i) i (placesB_at h5 hb)
    omega
theorem last_list {X : Nat → Nat} {N j p : Nat} {t : Int} (h : (placesB X N)[j]? = some p) (hp : (p : Int) < t) (hz : ∀ i q, j < i → (placesB X N)[i]? = some q → t ≤ (q : Int)) : IsLast X N t p := by
  obtain ⟨h1, h2, h3⟩ := placesB_rank h
  refine .inl ⟨p, rfl, h1, h2, hp, fun i h4 h5 h6 => ?_⟩
  cases hb : bitAt X i
  · rfl
  · have := hz (cntB X i) i (by rw [← h3]; exact cntB_lt h4 h2) (placesB_at h5 hb)
    omega
theorem last_list_none {X : Nat → Nat} {N : Nat} {t : Int} (hz : ∀ i q : Nat, (placesB X N)[i]? = some q → t ≤ (q : Int)) : IsLast X N t (-1) := by
  refine .inr ⟨rfl, fun i h4 h5 => ?_⟩
  cases hb : bitAt X i
  · rfl
  · have := hz (cntB X i) i (placesB_at h4 hb)
    omega
/-- Whether an odd number of the bits below n is set. -/
def oddB (X : Nat → Nat) : Nat → Bool
  | 0 => false
  | n + 1 => oddB X n ^^ bitAt X n
theorem oddB_word (X : Nat → Nat) (j r : Nat) (hr : r ≤ 64) : oddB X (64 * j + r) = (oddB X (64 * j) ^^ parTo (X j) r) := by
  induction r with
  | zero => simp [parTo]
  | succ r ih => rw [← Nat.add_assoc, oddB, ih (by omega), parTo_succ, bitAt_word X j r (by omega), Bool.xor_assoc]
end Go.Proofs.YtmbkcnhkbpaagabDoor
