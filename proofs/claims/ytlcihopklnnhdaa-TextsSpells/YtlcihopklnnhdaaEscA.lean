/-
  EscText, OddWalk.
-/
import Derived.Test.YtlcihopklnnhdaaKit
import Derived.Test.YtlcihopklnnhdaaKitA
/-
  Of no program: the backslashes of a text; which bytes are escaped; rows of backslashes.
-/
namespace Go.Proofs.Ytlcihopklnnhdaa

/-- Is the byte i a backslash? -/
def slash (s : ByteArray) (i : Nat) : Bool := decide ((s.data[i]?.getD 0).toNat = 92)
theorem slash_at (s : ByteArray) (i : Nat) (h : i < s.size) : slash s i = decide ((s[i]'h).toNat = 92) := by
  unfold slash
  rw [Array.getElem?_eq_getElem (show i < s.data.size from h)]
  rfl
theorem slash_out (s : ByteArray) (i : Nat) (h : s.size ≤ i) : slash s i = false := by
  unfold slash
  rw [Array.getElem?_eq_none (show s.data.size ≤ i from h)]
  rfl

/-- Is the byte n escaped, where q tells the backslashes, and c whether the byte 0 is? -/
def escG (q : Nat → Bool) (c : Bool) : Nat → Bool
  | 0 => c
  | n + 1 => q n && !escG q c n
theorem escG_succ (q : Nat → Bool) (c : Bool) (n : Nat) : escG q c (n + 1) = (q n && !escG q c n) := rfl
theorem escG_add (q : Nat → Bool) (c : Bool) (a n : Nat) : escG q c (a + n) = escG (fun i => q (a + i)) (escG q c a) n := by
  induction n with
  | zero => rfl
  | succ n ih => rw [← Nat.add_assoc, escG_succ, escG_succ, ih]
theorem escG_congr {q r : Nat → Bool} (c : Bool) {n : Nat} (h : ∀ i, i < n → q i = r i) : escG q c n = escG r c n := by
  induction n with
  | zero => rfl
  | succ n ih => rw [escG_succ, escG_succ, ih (fun i hi => h i (by omega)), h n (by omega)]

/-- How many backslashes end right ahead of n. -/
def runE (q : Nat → Bool) : Nat → Nat
  | 0 => 0
  | n + 1 => if q n then runE q n + 1 else 0
theorem runE_succ (q : Nat → Bool) (n : Nat) : runE q (n + 1) = if q n then runE q n + 1 else 0 := rfl
theorem runE_le (q : Nat → Bool) (n : Nat) : runE q n ≤ n := by
  induction n with
  | zero => exact Nat.le_refl _
  | succ n ih => rw [runE_succ]; split <;> omega
theorem runE_of {q : Nat → Bool} {n k : Nat} (hk : k ≤ n) (h : ∀ j, n - k ≤ j → j < n → q j = true) (he : k = n ∨ q (n - k - 1) = false) : runE q n = k := by
  induction n generalizing k with
  | zero => simp [runE]; omega
  | succ n ih =>
    rw [runE_succ]
    cases k with
    | zero =>
      rcases he with he | he
      · omega
      · simp at he
        rw [he]; rfl
    | succ k =>
      rw [h n (by omega) (by omega), if_pos rfl, ih (k := k) (by omega) (fun j h1 h2 => h j (by omega) (by omega))]
      rcases he with he | he
      · exact .inl (by omega)
      · exact .inr (by rw [← he]; congr 1; omega)
theorem runE_all (q : Nat → Bool) (n : Nat) : ∀ j, n - runE q n ≤ j → j < n → q j = true := by
  induction n with
  | zero => intro j _ h; omega
  | succ n ih =>
    intro j h1 h2
    rw [runE_succ] at h1
    by_cases hq : q n = true
    · rw [if_pos hq] at h1
      by_cases hj : j = n
      · rw [hj, hq]
      · exact ih j (by omega) (by omega)
    · rw [if_neg hq] at h1; omega
theorem runE_end (q : Nat → Bool) (n : Nat) (h : runE q n < n) : q (n - runE q n - 1) = false := by
  induction n with
  | zero => omega
  | succ n ih =>
    rw [runE_succ] at h ⊢
    by_cases hq : q n = true
    · rw [if_pos hq] at h ⊢
      have := ih (by omega)
      rw [show n + 1 - (runE q n + 1) - 1 = n - runE q n - 1 by omega]
      exact this
    · rw [if_neg hq]
      simpa using hq
theorem odd_succ (r : Nat) : decide ((r + 1) % 2 = 1) = !decide (r % 2 = 1) := by
  by_cases h : r % 2 = 1
  · have : ¬ (r + 1) % 2 = 1 := by omega
    simp [h, this]
  · have : (r + 1) % 2 = 1 := by omega
    simp [h, this]
theorem escG_run (q : Nat → Bool) (c : Bool) (n : Nat) : escG q c n = (decide (runE q n % 2 = 1) != (decide (runE q n = n) && c)) := by
  induction n with
  | zero => simp [escG, runE]
  | succ n ih =>
    rw [escG_succ, ih, runE_succ]
    by_cases hq : q n = true
    · rw [if_pos hq, hq, odd_succ]
      have e : decide (runE q n + 1 = n + 1) = decide (runE q n = n) := by congr 1; simp
      rw [e]
      generalize decide (runE q n % 2 = 1) = x
      generalize (decide (runE q n = n) && c) = y
      revert x y; decide
    · rw [if_neg hq]
      rw [Bool.not_eq_true] at hq
      simp [hq]
theorem escG_odd (q : Nat → Bool) (n : Nat) : escG q false n = decide (runE q n % 2 = 1) := by rw [escG_run]; simp
theorem runE_lt_iff (q : Nat → Bool) (n : Nat) : runE q n = n ∨ runE q n < n := by have := runE_le q n; omega
end Go.Proofs.Ytlcihopklnnhdaa

/-
  What escape.Odd answers.
-/
namespace Go.Proofs.Ytlcihopklnnhdaa
open Go.RowKit

set_option maxRecDepth 10000 in
set_option maxHeartbeats 1000000 in
theorem odd_nat (s : ByteArray) (a f : Nat) (o : Bool) (hs : s.size ≤ 9223372036854775807) (ha : a ≤ s.size) (hf : Hid (a - runE (slash s) a = f ∧ decide (runE (slash s) a % 2 = 1) = o)) (w : World) :
    Calls Try.prog 33 #[.string s, .int .i64 (a : Int)] w fun e w' => e = .returned (.tuple #[.int .i64 (f : Int), .bool o]) ∧ w' = w := by
  go_enter Try.func33, Try.ntmps33
  have e0 : decide ((a : Int) < 0) = false := by simp
  have e1 : decide ((s.size : Int) < (a : Int)) = false := by simp; omega
  go_wp2
  go_loop [6] (fun ff => ∃ i : Nat, i ≤ a ∧ ff = .int .i64 (i : Int) ∧ Hid (∀ j, i ≤ j → j < a → slash s j = true)) (fun ff => (intOf ff).toNat)
  case atStart => exact ⟨a, Nat.le_refl _, rfl, fun j h1 h2 => by omega⟩
  case round =>
    obtain ⟨i, hi, rfl, hall⟩ := hrel
    have fin : Hid (i = 0 ∨ slash s (i - 1) = false → i = f ∧ decide ((a - i) % 2 = 1) = o) := by
      intro h
      have hr := runE_of (q := slash s) (n := a) (k := a - i) (by omega) (fun j h1 h2 => hall.out j (by omega) h2) (by
        rcases h with h | h
        · exact .inl (by omega)
        · by_cases h0 : a - i = a
          · exact .inl h0
          · exact .inr (by rw [show a - (a - i) - 1 = i - 1 by omega]; exact h))
      obtain ⟨h1, h2⟩ := hf.out
      rw [hr] at h1 h2
      exact ⟨by omega, h2⟩
    clear hf
    have done : Hid (i = f → decide ((a - i) % 2 = 1) = o → (((a : Int) - (i : Int)) % 2 == 1) = o) := by
      intro _ h
      rw [← h, show (a : Int) - (i : Int) = ((a - i : Nat) : Int) by omega]
      generalize a - i = d
      rw [show ((d : Int) % 2) = ((d % 2 : Nat) : Int) by simp]
      rcases Nat.mod_two_eq_zero_or_one d with h | h <;> simp [h]
    by_cases h0 : i = 0
    · subst h0
      obtain ⟨h1, h2⟩ := fin.out (.inl rfl)
      have h3 := done.out h1 h2
      subst h1
      clear h2 fin done hall e0 e1
      go_wp2
      refine bodyPost_ret (results_tmp2 rfl _ _ _) rfl ?_
      exact ⟨by rw [← h3]; simp, rfl⟩
    · have hp : decide ((0 : Int) < (i : Int)) = true := by simp; omega
      have hlt : i - 1 < s.size := by omega
      have hx := slash_at s (i - 1) hlt
      obtain ⟨j, rfl⟩ : ∃ j, i = j + 1 := ⟨i - 1, by omega⟩
      have ej : ((j + 1 : Nat) : Int) - 1 = (j : Int) := by omega
      simp only [Nat.add_sub_cancel] at hlt hx
      have hjl : (j : Int) < (s.size : Int) := by omega
      obtain ⟨x, hxe⟩ : ∃ x, s[j].toNat = x := ⟨_, rfl⟩
      rw [hxe] at hx
      by_cases h92 : x = 92
      · subst h92
        have hall' := hall
        clear hall fin done e0 e1
        have hx' := hid hx
        clear hx
        go_wp2
        go_round
        case rel => exact ⟨j, by omega, by simp, fun k h1 h2 => by
                      by_cases hk : k = j
                      · rw [hk, hx'.out]; rfl
                      · exact hall'.out k (by omega) h2⟩
        case measure => simp [intOf]
      · have hne : ((x : Int) == 92) = false := by simp; omega
        rw [decide_eq_false h92] at hx
        obtain ⟨h1, h2⟩ := fin.out (.inr hx)
        have h3 := done.out h1 h2
        subst h1
        clear h2 fin done hall e0 e1 hx
        go_wp2
        refine bodyPost_ret (results_tmp2 rfl _ _ _) rfl ?_
        exact ⟨by rw [← h3]; simp, rfl⟩

set_option maxRecDepth 10000 in
theorem odd_out (s : ByteArray) (a : Int) (ha : ¬ (0 ≤ a ∧ a ≤ s.size)) (w : World) :
    Calls Try.prog 33 #[.string s, .int .i64 a] w fun e w' => e = .returned (.tuple #[.int .i64 0, .bool false]) ∧ w' = w := by
  go_enter Try.func33, Try.ntmps33
  by_cases h0 : a < 0
  · have e0 : decide (a < 0) = true := by simp; omega
    clear ha h0
    go_wp2
    refine bodyPost_ret (results_tmp2 rfl _ _ _) rfl ?_
    exact ⟨rfl, rfl⟩
  · have e0 : decide (a < 0) = false := by simp; omega
    have e1 : decide ((s.size : Int) < a) = true := by simp; omega
    clear ha h0
    go_wp2
    refine bodyPost_ret (results_tmp2 rfl _ _ _) rfl ?_
    exact ⟨rfl, rfl⟩

/-- Does a text end so that the next byte is escaped, where c says it of its first one? -/
def behindS (s : ByteArray) (c : Bool) : Bool := escG (slash s) c s.size
end Go.Proofs.Ytlcihopklnnhdaa
