/-
  Of no program: that what is asked of a row has an answer; what rows put together and turned come to.
-/
import Derived.Test.YtmbkcnhkbpaagabDoorBitMath3
namespace Go.Proofs.YtmbkcnhkbpaagabDoor

/-- The place of the k-th set bit of a row. -/
theorem sel_ex (X : Nat → Nat) (N : Nat) (k : Int) : ∃ s, IsSel X N k s := by
  by_cases h : k < 0 ∨ ((cntB X N : Nat) : Int) ≤ k
  · exact ⟨-1, .inr ⟨rfl, h⟩⟩
  · obtain ⟨K, rfl⟩ := Int.eq_ofNat_of_zero_le (show 0 ≤ k by omega)
    have hl : K < (placesB X N).length := by rw [placesB_len]; omega
    exact ⟨_, sel_list (List.getElem?_eq_getElem hl)⟩
theorem IsSel.range {X : Nat → Nat} {N : Nat} {k s : Int} (h : IsSel X N k s) : -1 ≤ s ∧ s < max N 1 := by
  rcases h with ⟨p, rfl, h1, _⟩ | ⟨rfl, _⟩ <;> omega
/-- The next set bit is the one that has as many set ones ahead of it as the place. -/
theorem IsSel.next {X : Nat → Nat} {N : Nat} {f s : Int} {F : Nat} (hF : (F : Int) = max f 0) (h : IsSel X N (cntB X F : Nat) s) : IsNext X N f s := by
  rcases h with ⟨p, rfl, h1, h2, h3⟩ | ⟨rfl, h1⟩
  · have hp : F ≤ p := by
      rcases Nat.lt_or_ge p F with h | h
      · have := cntB_lt h h2; omega
      · exact h
    refine .inl ⟨p, rfl, h1, h2, by omega, fun i h4 h5 => ?_⟩
    cases hb : bitAt X i
    · rfl
    · have := cntB_lt h5 hb
      have := cntB_mono X (show F ≤ i by omega)
      omega
  · refine .inr ⟨rfl, fun i h4 h5 => ?_⟩
    cases hb : bitAt X i
    · rfl
    · have := cntB_lt h5 hb
      have := cntB_mono X (show F ≤ i by omega)
      omega
/-- The last set bit ahead of a place has one fewer set ones ahead of it. -/
theorem IsSel.last {X : Nat → Nat} {N : Nat} {t s : Int} {T : Nat} (hT : T = min t.toNat N) (h : IsSel X N ((cntB X T : Nat) - 1 : Int) s) : IsLast X N t s := by
  rcases h with ⟨p, rfl, h1, h2, h3⟩ | ⟨rfl, h1⟩
  · have hp : p < T := by
      rcases Nat.lt_or_ge p T with h | h
      · exact h
      · have := cntB_mono X h; omega
    refine .inl ⟨p, rfl, h1, h2, by omega, fun i h4 h5 h6 => ?_⟩
    cases hb : bitAt X i
    · rfl
    · have h7 := cntB_lt h4 h2
      have h8 := cntB_lt (show i < T by omega) hb
      omega
  · refine .inr ⟨rfl, fun i h4 h5 => ?_⟩
    cases hb : bitAt X i
    · rfl
    · have h8 := cntB_lt (show i < T by omega) hb
      have := cntB_mono X (show T ≤ N by omega)
      omega
theorem next_ex (X : Nat → Nat) (N : Nat) (f : Int) : ∃ s, IsNext X N f s := by
  by_cases h : (N : Int) ≤ max f 0
  · exact ⟨-1, next_high h⟩
  · obtain ⟨s, hs⟩ := sel_ex X N ((cntB X f.toNat : Nat) : Int)
    exact ⟨s, hs.next (by omega)⟩
theorem last_ex (X : Nat → Nat) (N : Nat) (t : Int) : ∃ s, IsLast X N t s := by
  obtain ⟨s, hs⟩ := sel_ex X N (((cntB X (min t.toNat N) : Nat) : Int) - 1)
  exact ⟨s, hs.last rfl⟩
theorem IsNext.range {X : Nat → Nat} {N : Nat} {k s : Int} (h : IsNext X N k s) : -1 ≤ s ∧ s < max N 1 := by
  rcases h with ⟨p, rfl, h1, _⟩ | ⟨rfl, _⟩ <;> omega
theorem IsLast.range {X : Nat → Nat} {N : Nat} {k s : Int} (h : IsLast X N k s) : -1 ≤ s ∧ s < max N 1 := by
  rcases h with ⟨p, rfl, h1, _⟩ | ⟨rfl, _⟩ <;> omega

/-- Is the place one of the row's, and set? -/
def getB (X : Nat → Nat) (N : Nat) (i : Int) : Bool := decide (0 ≤ i) && (decide (i < (N : Int)) && bitAt X i.toNat)
theorem getB_nat {X : Nat → Nat} {N P : Nat} (h : P < N) : getB X N (P : Int) = bitAt X P := by
  rw [getB, decide_eq_true (by omega), decide_eq_true (by omega), Int.toNat_natCast]; rfl
theorem getB_lo {X : Nat → Nat} {N : Nat} {i : Int} (h : i < 0) : getB X N i = false := by rw [getB, decide_eq_false (by omega)]; rfl
theorem getB_hi {X : Nat → Nat} {N : Nat} {i : Int} (h : (N : Int) ≤ i) : getB X N i = false := by rw [getB, decide_eq_false (show ¬ i < (N : Int) by omega)]; simp

/-- What comes out of two rows of words, put together bit by bit. -/
theorem join_row {o : Nat → Nat → Nat} {ob : Bool → Bool → Bool} (hob : ob false false = false) (ho : ∀ x y r, x < 18446744073709551616 → y < 18446744073709551616 → r < 64 → (o x y).testBit r = ob (x.testBit r) (y.testBit r)) (hl : ∀ x y, x < 18446744073709551616 → y < 18446744073709551616 → o x y < 18446744073709551616)
    {N k : Nat} {X Y : Nat → Nat} (hX : formed N k X) (hY : formed N k Y) {j : Nat} (hj : j < k) (hx : X j < 18446744073709551616) (hy : Y j < 18446744073709551616) : o (X j) (Y j) = rowOf (fun i => ob (bitAt X i) (bitAt Y i)) N j := by
  refine rowOf_eq (hl _ _ hx hy) (fun r hr => ?_)
  rw [ho _ _ r hx hy hr, bitAt_word X j r hr, bitAt_word Y j r hr]
  by_cases hlt : 64 * j + r < N
  · rw [decide_eq_true hlt]; rfl
  · have h1 := hX.2.2 (64 * j + r) (by simp; omega) (by omega)
    have h2 := hY.2.2 (64 * j + r) (by simp; omega) (by omega)
    rw [bitAt_word X j r hr] at h1
    rw [bitAt_word Y j r hr] at h2
    rw [decide_eq_false hlt, h1, h2, hob]; rfl
/-- What comes out of a row of words, each turned, what lies above the row taken off. -/
theorem turn_row {G : Nat → Bool} {N j c : Nat} (hc : c < 18446744073709551616) (h : ∀ r, r < 64 → c.testBit r = G (64 * j + r)) : c &&& lowm ((N : Int) - 64 * (j : Int)) = rowOf G N j := by
  refine rowOf_map (Nat.lt_of_le_of_lt Nat.and_le_left hc) (fun r hr => ?_)
  rw [Nat.testBit_and, h r hr, lowm_bit _ _ hr, Bool.and_comm]

/-- The errors of a call that puts two rows together. -/
def joinE (n m : Int) (k l : Nat) (X Y : Nat → Nat) (E q : Int) (r : Nat) : Prop :=
  (¬ (formed n k X ∧ formed m l Y) ∧ E = 1 ∧ q = 0 ∧ r = 0) ∨ ((formed n k X ∧ formed m l Y) ∧ n ≠ m ∧ E = 2 ∧ q = 0 ∧ r = 0) ∨ ((formed n k X ∧ formed m l Y) ∧ n = m ∧ E = 0 ∧ q = n ∧ r = k)
theorem joinE_ex (n m : Int) (k l : Nat) (X Y : Nat → Nat) : ∃ E q r, joinE n m k l X Y E q r := by
  by_cases h : formed n k X ∧ formed m l Y
  · by_cases h2 : n = m
    · exact ⟨0, n, k, .inr (.inr ⟨h, h2, rfl, rfl, rfl⟩)⟩
    · exact ⟨2, 0, 0, .inr (.inl ⟨h, h2, rfl, rfl, rfl⟩)⟩
  · exact ⟨1, 0, 0, .inl ⟨h, rfl, rfl, rfl⟩⟩
/-- The errors of a call that turns a row. -/
def turnE (n : Int) (k : Nat) (X : Nat → Nat) (E q : Int) (r : Nat) : Prop := (¬ formed n k X ∧ E = 1 ∧ q = 0 ∧ r = 0) ∨ (formed n k X ∧ E = 0 ∧ q = n ∧ r = k)
theorem turnE_ex (n : Int) (k : Nat) (X : Nat → Nat) : ∃ E q r, turnE n k X E q r := by
  by_cases h : formed n k X
  · exact ⟨0, n, k, .inr ⟨h, rfl, rfl, rfl⟩⟩
  · exact ⟨1, 0, 0, .inl ⟨h, rfl, rfl, rfl⟩⟩
end Go.Proofs.YtmbkcnhkbpaagabDoor
