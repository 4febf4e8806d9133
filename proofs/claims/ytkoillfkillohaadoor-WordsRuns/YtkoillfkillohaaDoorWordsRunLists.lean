/-
  Of no program: the rows of set bits, found place by place.
-/
import Derived.Test.YtkoillfkillohaaDoorWordsEscMath
namespace Go.Proofs.YtkoillfkillohaaDoor

/-- Where rows begin below n. -/
def firstsTo (x n : Nat) : List Nat := (List.range n).filter (fun i => isFirst x i)
/-- How long they are, as far as below n. -/
def manyTo (x n : Nat) : List Nat := (firstsTo x n).map (fun a => min (runLen x a) (n - a))
theorem firstsTo_mem {x n a : Nat} : a ∈ firstsTo x n ↔ a < n ∧ isFirst x a = true := by simp [firstsTo]
theorem firstsTo_t {x n : Nat} (h : isFirst x n = true) : firstsTo x (n + 1) = firstsTo x n ++ [n] := by simp [firstsTo, List.range_succ, h]
theorem firstsTo_f {x n : Nat} (h : isFirst x n = false) : firstsTo x (n + 1) = firstsTo x n := by simp [firstsTo, List.range_succ, h]
theorem firstsTo_len (x n : Nat) : (firstsTo x n).length ≤ n := by
  have := List.length_filter_le (fun i => isFirst x i) (List.range n)
  simpa [firstsTo] using this
theorem manyTo_len (x n : Nat) : (manyTo x n).length = (firstsTo x n).length := by simp [manyTo]
theorem firstsTo_all {x : Nat} (hx : x < 18446744073709551616) : firstsTo x 64 = starts x := by
  unfold firstsTo starts places below
  apply List.filter_congr
  intro i hi
  rw [first_bit hx (List.mem_range.1 hi)]
theorem manyTo_all {x : Nat} (hx : x < 18446744073709551616) : manyTo x 64 = (starts x).map (runLen x) := by
  rw [manyTo, firstsTo_all hx]
  apply List.map_congr_left
  intro a ha
  have := (run_spec hx ((starts_mem hx).1 ha).1).2.2
  omega
/-- A place that isn't set, or that another row begins at: what was found stays. -/
theorem many_stay {x n : Nat} (h : ∀ a, a < n → isFirst x a = true → a + runLen x a ≤ n) : (firstsTo x n).map (fun a => min (runLen x a) (n + 1 - a)) = manyTo x n := by
  rw [manyTo]
  apply List.map_congr_left
  intro a ha
  obtain ⟨h1, h2⟩ := firstsTo_mem.1 ha
  have := h a h1 h2
  omega
theorem many_unset {x n : Nat} (hx : x < 18446744073709551616) (hn : n < 64) (h : x.testBit n = false) : firstsTo x (n + 1) = firstsTo x n ∧ manyTo x (n + 1) = manyTo x n := by
  have h1 : isFirst x n = false := by unfold isFirst; rw [h]; rfl
  refine ⟨firstsTo_f h1, ?_⟩
  rw [manyTo, firstsTo_f h1, many_stay]
  intro a ha _
  apply Nat.le_of_not_lt
  intro hc
  have := (run_spec hx (show a < 64 by omega)).1 (n - a) (by omega)
  rw [show a + (n - a) = n by omega, h] at this
  cases this
theorem many_begin {x n : Nat} (hx : x < 18446744073709551616) (hn : n < 64) (h : x.testBit n = true) (h' : n = 0 ∨ x.testBit (n - 1) = false) : firstsTo x (n + 1) = firstsTo x n ++ [n] ∧ manyTo x (n + 1) = manyTo x n ++ [1] := by
  have h1 : isFirst x n = true := (isFirst_iff x n).2 ⟨h, h'⟩
  refine ⟨firstsTo_t h1, ?_⟩
  rw [manyTo, firstsTo_t h1, List.map_append, many_stay]
  · have := run_pos hx hn h
    simp; omega
  · intro a ha _
    apply Nat.le_of_not_lt
    intro hc
    have := (run_spec hx (show a < 64 by omega)).1 (n - 1 - a) (by omega)
    rw [show a + (n - 1 - a) = n - 1 by omega] at this
    rcases h' with h' | h'
    · omega
    · rw [this] at h'; cases h'
/-- Where the row that holds a set place begins. -/
theorem row_start {x i : Nat} (hi : x.testBit i = true) : ∃ b, b ≤ i ∧ isFirst x b = true ∧ ∀ j, b ≤ j → j ≤ i → x.testBit j = true := by
  have : ∀ d a, a + d = i → (∀ j, a ≤ j → j ≤ i → x.testBit j = true) → ∃ b, b ≤ i ∧ isFirst x b = true ∧ ∀ j, b ≤ j → j ≤ i → x.testBit j = true := by
    intro d a
    induction a generalizing d with
    | zero => exact fun _ h => ⟨0, by omega, (isFirst_iff x 0).2 ⟨h 0 (by omega) (by omega), .inl rfl⟩, h⟩
    | succ a ih =>
      intro hd h
      cases hb : x.testBit a with
      | false => exact ⟨a + 1, by omega, (isFirst_iff x (a + 1)).2 ⟨h (a + 1) (by omega) (by omega), .inr hb⟩, h⟩
      | true => exact ih (d + 1) (by omega) (fun j h1 h2 => by
          by_cases hj : j = a
          · rw [hj]; exact hb
          · exact h j (by omega) h2)
  exact this 0 i (by omega) (fun j h1 h2 => by rw [show j = i by omega]; exact hi)
/-- A place that goes on with the row ahead: the last length is one more. -/
theorem many_on {x n : Nat} (hx : x < 18446744073709551616) (hn : n < 64) (h0 : 0 < n) (h : x.testBit n = true) (h' : x.testBit (n - 1) = true) :
    firstsTo x (n + 1) = firstsTo x n ∧ ∃ M m, manyTo x n = M ++ [m] ∧ m ≤ n ∧ manyTo x (n + 1) = M ++ [m + 1] := by
  have h1 : isFirst x n = false := by
    rw [← Bool.not_eq_true]
    intro hc
    obtain ⟨_, h2⟩ := (isFirst_iff x n).1 hc
    rcases h2 with h2 | h2
    · omega
    · rw [h'] at h2; cases h2
  refine ⟨firstsTo_f h1, ?_⟩
  obtain ⟨b, hb, hf, hall⟩ := row_start h
  have hbn : b < n := by
    apply Nat.lt_of_le_of_ne hb
    rintro rfl
    rw [h1] at hf; cases hf
  have hrun : n - b < runLen x b := by
    apply Nat.lt_of_not_le
    intro hc
    have h2 := (run_spec hx (show b < 64 by omega)).2.1
    rw [hall (b + runLen x b) (by omega) (by omega)] at h2
    cases h2
  -- b is the last of those that were found
  have hsplit : ∀ m, b < m → m ≤ n → ∃ A, firstsTo x m = A ++ [b] ∧ ∀ a ∈ A, a < b ∧ isFirst x a = true := by
    intro m
    induction m with
    | zero => intro h _; omega
    | succ m ih =>
      intro hm hmn
      by_cases he : b = m
      · subst he
        exact ⟨firstsTo x b, firstsTo_t hf, fun a ha => firstsTo_mem.1 ha⟩
      · have hfm : isFirst x m = false := by
          rw [← Bool.not_eq_true]
          intro hc
          exact rows_apart hx (show b < 64 by omega) (show b < m by omega) hc (Nat.le_refl _) (by omega)
        rw [firstsTo_f hfm]
        exact ih (by omega) (by omega)
  obtain ⟨A, hA, hAl⟩ := hsplit n hbn (Nat.le_refl _)
  have hsame : A.map (fun a => min (runLen x a) (n + 1 - a)) = A.map (fun a => min (runLen x a) (n - a)) := by
    apply List.map_congr_left
    intro a ha
    obtain ⟨h2, h3⟩ := hAl a ha
    have : a + runLen x a < b := by
      apply Nat.lt_of_not_le
      intro hc
      exact rows_apart hx (show a < 64 by omega) h2 hf (Nat.le_refl _) hc
    omega
  refine ⟨A.map (fun a => min (runLen x a) (n - a)), min (runLen x b) (n - b), ?_, by omega, ?_⟩
  · rw [manyTo, hA, List.map_append]; rfl
  · rw [manyTo, firstsTo_f h1, hA, List.map_append, hsame]
    simp
    omega
end Go.Proofs.YtkoillfkillohaaDoor
