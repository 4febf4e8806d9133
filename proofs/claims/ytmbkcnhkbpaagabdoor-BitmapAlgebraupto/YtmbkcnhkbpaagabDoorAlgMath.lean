/-
  Of no program: the algebra of rows of bits.
-/
import Derived.Test.YtmbkcnhkbpaagabDoorBitMath4
import Derived.Test.YtmbkcnhkbpaagabDoorBitRow
namespace Go.Proofs.YtmbkcnhkbpaagabDoor

section
variable {N : Nat}
theorem rowOf_congr {g h : Nat → Bool} (hh : ∀ i, i < N → g i = h i) (j : Nat) : rowOf g N j = rowOf h N j := by
  refine (rowOf_eq (rowOf_lt _ _ _) (fun r hr => ?_))
  rw [rowOf, sumBits_bit, decide_eq_true hr]
  by_cases hl : 64 * j + r < N
  · simp [hl, hh _ hl]
  · simp [hl]
theorem rowOf_bits {g : Nat → Bool} {i : Nat} (hi : i < N) : bitAt (rowOf g N) i = g i := by rw [rowOf_bit, decide_eq_true hi]; rfl
/-- Not of Not. -/
theorem not_not_row {Y : Nat → Nat} {l j : Nat} (hf : formed N l Y) (hj : j < l) (hY : Y j < 18446744073709551616) : rowOf (fun i => !bitAt (rowOf (fun i => !bitAt Y i) N) i) N j = Y j := by
  rw [rowOf_self hf hj hY]
  exact rowOf_congr (fun i hi => by rw [rowOf_bits hi]; simp) j
/-- Minus by Not. -/
theorem minus_row (X Y : Nat → Nat) (j : Nat) : rowOf (fun i => bitAt X i && !bitAt Y i) N j = rowOf (fun i => bitAt X i && bitAt (rowOf (fun i => !bitAt Y i) N) i) N j :=
  rowOf_congr (fun i hi => by rw [rowOf_bits hi]) j
/-- Xor is Or less And. -/
theorem xor_row (X Y : Nat → Nat) (j : Nat) : rowOf (fun i => bitAt X i ^^ bitAt Y i) N j = rowOf (fun i => bitAt (rowOf (fun i => bitAt X i || bitAt Y i) N) i && !bitAt (rowOf (fun i => bitAt X i && bitAt Y i) N) i) N j :=
  rowOf_congr (fun i hi => by rw [rowOf_bits hi, rowOf_bits hi]; cases bitAt X i <;> cases bitAt Y i <;> rfl) j
theorem or_row (X Y : Nat → Nat) (j : Nat) : rowOf (fun i => bitAt X i || bitAt Y i) N j = rowOf (fun i => bitAt Y i || bitAt X i) N j := rowOf_congr (fun _ _ => Bool.or_comm _ _) j
/-- The counts of two rows are those of both and of either. -/
theorem count_row (X Y : Nat → Nat) : cntB X N + cntB Y N = cntB (rowOf (fun i => bitAt X i || bitAt Y i) N) N + cntB (rowOf (fun i => bitAt X i && bitAt Y i) N) N := by
  have key : ∀ n, n ≤ N → cntB X n + cntB Y n = cntB (rowOf (fun i => bitAt X i || bitAt Y i) N) n + cntB (rowOf (fun i => bitAt X i && bitAt Y i) N) n := by
    intro n
    induction n with
    | zero => intro _; rfl
    | succ n ih =>
      intro hn
      have := ih (by omega)
      rw [cntB_succ, cntB_succ, cntB_succ, cntB_succ, rowOf_bits (by omega), rowOf_bits (by omega)]
      cases bitAt X n <;> cases bitAt Y n <;> simp <;> omega
  exact key N (Nat.le_refl _)
/-- A place is set just where Prefix turns. -/
theorem prefix_turns_at {Y : Nat → Nat} {p : Nat} (hp : p < N) (hb : bitAt Y p = true) : getB (rowOf (fun i => oddB Y (i + 1)) N) N (p : Int) ≠ getB (rowOf (fun i => oddB Y (i + 1)) N) N ((p : Int) - 1) := by
  rw [getB_nat hp, rowOf_bits hp]
  cases p with
  | zero =>
    rw [getB_lo (by omega)]
    simp [oddB, hb]
  | succ p =>
    rw [show ((p + 1 : Nat) : Int) - 1 = (p : Int) by omega, getB_nat (by omega), rowOf_bits (by omega)]
    rw [oddB, hb]
    cases oddB Y (p + 1) <;> simp
/-- The places that are told make the row again. -/
theorem setTo_list (Z : Nat → Int) (k i : Nat) : setTo Z k i = true ↔ ∃ t, t < k ∧ Z t = (i : Int) := by
  induction k with
  | zero => simp [setTo]
  | succ k ih =>
    rw [setTo, Bool.or_eq_true, ih, decide_eq_true_iff]
    constructor
    · rintro (⟨t, h1, h2⟩ | h)
      · exact ⟨t, by omega, h2⟩
      · exact ⟨k, by omega, h⟩
    · rintro ⟨t, h1, h2⟩
      by_cases h : t = k
      · exact .inr (h ▸ h2)
      · exact .inl ⟨t, by omega, h2⟩
theorem again_row {Y : Nat → Nat} {l j : Nat} (hf : formed N l Y) (hj : j < l) (hY : Y j < 18446744073709551616) {Z : Nat → Int} (hZ : ∀ t p : Nat, (placesB Y N)[t]? = some p → Z t = (p : Int)) : rowOf (setTo Z (placesB Y N).length) N j = Y j := by
  rw [rowOf_self hf hj hY]
  refine rowOf_congr (fun i hi => ?_) j
  cases hb : bitAt Y i
  · rw [Bool.eq_false_iff]
    intro h
    obtain ⟨t, ht, he⟩ := (setTo_list _ _ _).1 h
    have h1 := hZ t _ (List.getElem?_eq_getElem ht)
    have h2 := (placesB_mem (List.getElem_mem ht)).2
    rw [he] at h1
    have h3 : i = (placesB Y N)[t] := by omega
    rw [← h3, hb] at h2
    cases h2
  · refine (setTo_list _ _ _).2 ⟨cntB Y i, ?_, hZ _ _ (placesB_at hi hb)⟩
    exact (List.getElem?_eq_some_iff.1 (placesB_at hi hb)).1
end
end Go.Proofs.YtmbkcnhkbpaagabDoor
