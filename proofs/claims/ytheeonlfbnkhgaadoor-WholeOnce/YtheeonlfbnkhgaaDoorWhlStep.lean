/-
  One digit more behind a number of a type (mathematics).
-/
import Derived.Test.YtheeonlfbnkhgaaDoorWhlMath
namespace Go.Proofs.YtheeonlfbnkhgaaDoor
open Go.RowKit

theorem kw_range (k : IntKind) (x : Int) : k.min ≤ k.wrap x ∧ k.wrap x ≤ k.max := by
  cases k <;> simp [IntKind.wrap, IntKind.bits, IntKind.signed, IntKind.min, IntKind.max] <;> (try split) <;> omega
theorem kw_id (k : IntKind) (x : Int) (h0 : k.min ≤ x) (h1 : x ≤ k.max) : k.wrap x = x := by
  revert h0 h1
  cases k <;> simp [IntKind.wrap, IntKind.bits, IntKind.signed, IntKind.min, IntKind.max] <;> intro h0 h1 <;> (try split) <;> omega
theorem kw_over (k : IntKind) (x : Int) (h0 : k.max < x) (h1 : x ≤ k.max + 9) : k.wrap x = x - (k.max - k.min + 1) := by
  revert h0 h1
  cases k <;> simp [IntKind.wrap, IntKind.bits, IntKind.signed, IntKind.min, IntKind.max] <;> intro h0 h1 <;> (try split) <;> omega
theorem kw_under (k : IntKind) (x : Int) (h0 : k.min - 9 ≤ x) (h1 : x < k.min) : k.wrap x = x + (k.max - k.min + 1) := by
  revert h0 h1
  cases k <;> simp [IntKind.wrap, IntKind.bits, IntKind.signed, IntKind.min, IntKind.max] <;> intro h0 h1 <;> (try split) <;> omega
theorem kW_i8 (x : Int) : IntKind.i8.wrap x = IntKind.i8.wrap x := rfl
theorem kW_i16 (x : Int) : IntKind.i16.wrap x = IntKind.i16.wrap x := rfl
theorem kW_u8 (x : Int) : IntKind.u8.wrap x = IntKind.u8.wrap x := rfl
theorem kW_u16 (x : Int) : IntKind.u16.wrap x = IntKind.u16.wrap x := rfl
theorem kW_u32 (x : Int) : IntKind.u32.wrap x = IntKind.u32.wrap x := rfl
theorem kW_u64 (x : Int) : IntKind.u64.wrap x = IntKind.u64.wrap x := rfl
theorem kW_i64 (x : Int) : IntKind.i64.wrap x = wrap64 x := by rw [IntKind.wrap_i64, wrap64]
theorem kW_i32 (x : Int) : IntKind.i32.wrap x = wrap32 x := by rw [IntKind.wrap_i32, wrap32]
theorem k_bounds (k : IntKind) : k.min ≤ 0 ∧ 127 ≤ k.max ∧ -k.max - 1 ≤ k.min := by
  cases k <;> decide
theorem tdiv_ten (t n : Int) : t.tdiv 10 = n ↔ ((0 ≤ t ∧ t / 10 = n) ∨ (t < 0 ∧ (-t) / 10 = -n)) := by
  by_cases h : 0 ≤ t
  · rw [Int.tdiv_eq_ediv_of_nonneg h]; omega
  · have h2 : t.tdiv 10 = -((-t).tdiv 10) := by rw [Int.neg_tdiv, Int.neg_neg]
    rw [h2, Int.tdiv_eq_ediv_of_nonneg (by omega)]; omega
/-- The number with the digit behind it. -/
def nxN (b : Bool) (n d : Int) : Int := if b then 10 * n - d else 10 * n + d
/-- Signs that fit: not below 0, or not above. -/
def sgN (b : Bool) (n : Int) : Prop := if b then n ≤ 0 else 0 ≤ n
section
variable (k : IntKind) {b : Bool} {n d : Int}
theorem step_fit (hs : sgN b n) (h0 : 0 ≤ d) (h9 : d ≤ 9) (hr : k.min ≤ nxN b n d ∧ nxN b n d ≤ k.max) :
    k.wrap (n * 10) = 10 * n ∧ k.wrap (if b then 10 * n - d else 10 * n + d) = nxN b n d ∧ (10 * n).tdiv 10 = n ∧ (b = true → ¬ 10 * n < nxN b n d) ∧ (b = false → ¬ nxN b n d < 10 * n) := by
  have hk := k_bounds k
  have e : n * 10 = 10 * n := Int.mul_comm _ _
  have ht : (10 * n).tdiv 10 = n := (tdiv_ten _ _).2 (by omega)
  rw [e]
  cases b
  · have hs' : 0 ≤ n := hs
    have hr' : k.min ≤ 10 * n + d ∧ 10 * n + d ≤ k.max := hr
    refine ⟨kw_id k _ (by omega) (by omega), kw_id k _ hr'.1 hr'.2, ht, (fun h => by cases h), fun _ => ?_⟩
    show ¬ (10 * n + d) < 10 * n
    omega
  · have hs' : n ≤ 0 := hs
    have hr' : k.min ≤ 10 * n - d ∧ 10 * n - d ≤ k.max := hr
    refine ⟨kw_id k _ (by omega) (by omega), kw_id k _ hr'.1 hr'.2, ht, fun _ => ?_, (fun h => by cases h)⟩
    show ¬ 10 * n < (10 * n - d)
    omega
/-- It doesn't fit: ten times as much runs over, or the digit does. -/
theorem step_off (hs : sgN b n) (h0 : 0 ≤ d) (h9 : d ≤ 9) (hr : ¬ (k.min ≤ nxN b n d ∧ nxN b n d ≤ k.max)) :
    (k.wrap (n * 10)).tdiv 10 ≠ n ∨ (k.wrap (n * 10) = 10 * n ∧ (10 * n).tdiv 10 = n ∧ (b = true → 10 * n < k.wrap (10 * n - d)) ∧ (b = false → k.wrap (10 * n + d) < 10 * n)) := by
  have hk := k_bounds k
  have e : n * 10 = 10 * n := Int.mul_comm _ _
  have ht : (10 * n).tdiv 10 = n := (tdiv_ten _ _).2 (by omega)
  rw [e]
  by_cases hin : k.min ≤ 10 * n ∧ 10 * n ≤ k.max
  · refine .inr ⟨kw_id k _ hin.1 hin.2, ht, fun hb => ?_, fun hb => ?_⟩
    · subst hb
      have hr' : ¬ (k.min ≤ 10 * n - d ∧ 10 * n - d ≤ k.max) := hr
      rw [kw_under k _ (by omega) (by omega)]
      omega
    · subst hb
      have hr' : ¬ (k.min ≤ 10 * n + d ∧ 10 * n + d ≤ k.max) := hr
      rw [kw_over k _ (by omega) (by omega)]
      omega
  · left
    intro h
    have hw := kw_range k (10 * n)
    rw [tdiv_ten] at h
    generalize k.wrap (10 * n) = t at h hw
    omega
end
/-- Does it fit? -/
def fitN (k : IntKind) (x : Int) : Prop := k.min ≤ x ∧ x ≤ k.max
instance (k : IntKind) (x : Int) : Decidable (fitN k x) := inferInstanceAs (Decidable (_ ∧ _))
def overE : Ending := .panicked [{ v := .iface 29 (.int .i64 121), recovered := false }]
/-- How a call ends that answers x, if it fits the type. -/
def endN (k : IntKind) (x : Int) : Ending := if fitN k x then .returned (.int k x) else overE
section
variable {k : IntKind} {W : Int → Int} (hW : ∀ x, k.wrap x = W x) {n d : Int}
theorem fit_self (b : Bool) (hs : sgN b n) (h0 : 0 ≤ d) (h : fitN k (nxN b n d)) : fitN k n := by
  have hk := k_bounds k
  unfold fitN nxN at *
  unfold sgN at hs
  cases b
  · simp at hs h ⊢; omega
  · simp at hs h ⊢; omega
include hW
theorem quo_fits (hq : W ((W (n * 10)).tdiv 10) = n) : (k.wrap (n * 10)).tdiv 10 = n := by
  have hk := k_bounds k
  have hr := kw_range k (n * 10)
  rw [← hW, ← hW] at hq
  generalize k.wrap (n * 10) = t at hr hq ⊢
  have h2 : k.min ≤ t.tdiv 10 ∧ t.tdiv 10 ≤ k.max := by
    obtain ⟨q, hq2⟩ : ∃ q, t.tdiv 10 = q := ⟨_, rfl⟩
    rw [hq2]
    rw [tdiv_ten] at hq2
    omega
  rw [kw_id k _ h2.1 h2.2] at hq
  exact hq
theorem beh_ret0 (hs : sgN false n) (h0 : 0 ≤ d) (h9 : d ≤ 9) (hq : W ((W (n * 10)).tdiv 10) = n) (hl : W (n * 10) ≤ W (W (n * 10) + d)) : Ending.returned (.int k (W (W (n * 10) + d))) = endN k (nxN false n d) := by
  have h1 := quo_fits hW hq
  by_cases hf : fitN k (nxN false n d)
  · obtain ⟨a1, a2, -, -, -⟩ := step_fit k hs h0 h9 hf
    rw [endN, if_pos hf, ← hW, ← hW, a1]
    rw [if_neg (by decide)] at a2
    rw [a2]
  · exfalso
    rcases step_off k hs h0 h9 hf with a | ⟨a1, -, -, a4⟩
    · exact a h1
    · have := a4 rfl
      rw [← hW, ← hW, a1] at hl
      omega
theorem beh_ret1 (hs : sgN true n) (h0 : 0 ≤ d) (h9 : d ≤ 9) (hq : W ((W (n * 10)).tdiv 10) = n) (hl : W (W (n * 10) - d) ≤ W (n * 10)) : Ending.returned (.int k (W (W (n * 10) - d))) = endN k (nxN true n d) := by
  have h1 := quo_fits hW hq
  by_cases hf : fitN k (nxN true n d)
  · obtain ⟨a1, a2, -, -, -⟩ := step_fit k hs h0 h9 hf
    rw [endN, if_pos hf, ← hW, ← hW, a1]
    rw [if_pos rfl] at a2
    rw [a2]
  · exfalso
    rcases step_off k hs h0 h9 hf with a | ⟨a1, -, a3, -⟩
    · exact a h1
    · have := a3 rfl
      rw [← hW, ← hW, a1] at hl
      omega
theorem beh_pq {b : Bool} (hs : sgN b n) (h0 : 0 ≤ d) (h9 : d ≤ 9) (hq : ¬ W ((W (n * 10)).tdiv 10) = n) : overE = endN k (nxN b n d) := by
  rw [endN, if_neg]
  intro hf
  obtain ⟨a1, -, a3, -, -⟩ := step_fit k hs h0 h9 hf
  have hn := fit_self b hs h0 hf
  rw [← hW, ← hW, a1, a3, kw_id k n hn.1 hn.2] at hq
  exact hq rfl
theorem beh_p0 (hs : sgN false n) (h0 : 0 ≤ d) (h9 : d ≤ 9) (hl : W (W (n * 10) + d) < W (n * 10)) : overE = endN k (nxN false n d) := by
  rw [endN, if_neg]
  intro hf
  obtain ⟨a1, a2, -, -, a5⟩ := step_fit k hs h0 h9 hf
  rw [if_neg (by decide)] at a2
  rw [← hW, ← hW, a1, a2] at hl
  exact a5 rfl hl
theorem beh_p1 (hs : sgN true n) (h0 : 0 ≤ d) (h9 : d ≤ 9) (hl : W (n * 10) < W (W (n * 10) - d)) : overE = endN k (nxN true n d) := by
  rw [endN, if_neg]
  intro hf
  obtain ⟨a1, a2, -, a4, -⟩ := step_fit k hs h0 h9 hf
  rw [if_pos rfl] at a2
  rw [← hW, ← hW, a1, a2] at hl
  exact a4 rfl hl
end
end Go.Proofs.YtheeonlfbnkhgaaDoor
