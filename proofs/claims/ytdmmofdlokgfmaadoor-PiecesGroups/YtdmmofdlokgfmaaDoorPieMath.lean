/-
  Of no program: what a piece of a text does, met in the one state and in the other; pieces one behind the other.
-/
import Derived.Test.YtdmmofdlokgfmaaDoorQuoA
namespace Go.Proofs.YtdmmofdlokgfmaaDoor

/-- Is the byte i a quote that counts, where c says whether the byte 0 is escaped? -/
def markC (s : ByteArray) (c : Bool) (i : Nat) : Bool := quoB s i && !escG (slash s) c i
/-- Is their number odd? -/
def oddC (s : ByteArray) (c : Bool) : Bool := oddG (markC s c) s.size
theorem oddC_false (s : ByteArray) : oddC s false = openS s := rfl
theorem size_join9 (s t : ByteArray) : (s ++ t).size = s.size + t.size := ByteArray.size_append
theorem slash_join9 (s t : ByteArray) (i : Nat) : slash (s ++ t) i = if i < s.size then slash s i else slash t (i - s.size) := by
  unfold slash
  rw [ByteArray.data_append, Array.getElem?_append]
  show decide (((if i < s.size then s.data[i]? else t.data[i - s.size]?).getD 0).toNat = 92) = _
  split <;> rfl
theorem quo_join9 (s t : ByteArray) (i : Nat) : quoB (s ++ t) i = if i < s.size then quoB s i else quoB t (i - s.size) := by
  unfold quoB
  rw [ByteArray.data_append, Array.getElem?_append]
  show decide (((if i < s.size then s.data[i]? else t.data[i - s.size]?).getD 0).toNat = 34) = _
  split <;> rfl
theorem esc_first9 (s t : ByteArray) (c : Bool) (i : Nat) (hi : i ≤ s.size) : escG (slash (s ++ t)) c i = escG (slash s) c i :=
  escG_congr c fun j hj => by rw [slash_join9, if_pos (by omega)]
theorem esc_second9 (s t : ByteArray) (c : Bool) (i : Nat) : escG (slash (s ++ t)) c (s.size + i) = escG (slash t) (behindS s c) i := by
  rw [escG_add, esc_first9 s t c s.size (Nat.le_refl _)]
  exact escG_congr _ fun j _ => by rw [slash_join9, if_neg (by omega), Nat.add_sub_cancel_left]
theorem behind_join (s t : ByteArray) (c : Bool) : behindS (s ++ t) c = behindS t (behindS s c) := by
  unfold behindS
  rw [size_join9, esc_second9]
  rfl
theorem oddC_join (s t : ByteArray) (c : Bool) : oddC (s ++ t) c = (oddC s c ^^ oddC t (behindS s c)) := by
  unfold oddC
  rw [size_join9, oddG_add]
  congr 1
  · exact oddG_congr fun i hi => by unfold markC; rw [quo_join9, if_pos hi, esc_first9 s t c i (by omega)]
  · exact oddG_congr fun i hi => by unfold markC; rw [quo_join9, if_neg (by omega), Nat.add_sub_cancel_left, esc_second9]

/-- L backslashes stand at the beginning, and no more. -/
def Lead (s : ByteArray) (L : Nat) : Prop := L ≤ s.size ∧ (∀ j, j < L → slash s j = true) ∧ slash s L = false
theorem lead_ex (s : ByteArray) : ∃ L, Lead s L := by
  have key : ∀ n, n ≤ s.size → (∀ j, j < s.size - n → slash s j = true) → ∃ L, Lead s L := by
    intro n
    induction n with
    | zero => intro _ h; exact ⟨s.size, Nat.le_refl _, fun j hj => h j (by omega), slash_out s _ (Nat.le_refl _)⟩
    | succ n ih =>
      intro hn h
      by_cases hs : slash s (s.size - (n + 1)) = true
      · refine ih (by omega) fun j hj => ?_
        by_cases hj2 : j < s.size - (n + 1)
        · exact h j hj2
        · rw [show j = s.size - (n + 1) by omega]; exact hs
      · exact ⟨s.size - (n + 1), by omega, h, by simpa using hs⟩
  exact key s.size (Nat.le_refl _) fun j hj => by omega
theorem lead_esc {q : Nat → Bool} {L : Nat} (h : ∀ j, j < L → q j = true) (i : Nat) (hi : i ≤ L) : escG q true i = !escG q false i := by
  induction i with
  | zero => rfl
  | succ i ih => rw [escG_succ, escG_succ, h i (by omega), ih (by omega)]; simp
theorem lead_esc2 {q : Nat → Bool} {L : Nat} (h : q L = false) (i : Nat) (hi : L < i) : escG q true i = escG q false i := by
  obtain ⟨n, rfl⟩ : ∃ n, i = L + 1 + n := ⟨i - (L + 1), by omega⟩
  rw [escG_add, escG_add q false, escG_succ, escG_succ, h]
  rfl
theorem quo_slash (s : ByteArray) (i : Nat) (h : slash s i = true) : quoB s i = false := by
  unfold slash at h
  unfold quoB
  have h1 := of_decide_eq_true h
  rw [h1]
  rfl
theorem oddG_one {G H : Nat → Bool} {L : Nat} (h : ∀ i, i ≠ L → G i = H i) (n : Nat) : oddG G n = (oddG H n ^^ (decide (L < n) && (G L ^^ H L))) := by
  induction n with
  | zero => simp [oddG]
  | succ n ih =>
    rw [oddG_succ, oddG_succ, ih]
    by_cases hL : n = L
    · subst hL
      rw [decide_eq_false (by omega : ¬ n < n), decide_eq_true (by omega : n < n + 1)]
      cases oddG H n <;> cases G n <;> cases H n <;> rfl
    · rw [h n hL]
      have : decide (L < n + 1) = decide (L < n) := by congr 1; exact propext ⟨fun _ => by omega, fun _ => by omega⟩
      rw [this]
      cases oddG H n <;> cases H n <;> cases decide (L < n) <;> cases G L <;> cases H L <;> rfl
theorem oddC_true (s : ByteArray) (L : Nat) (h : Lead s L) : oddC s true = (openS s ^^ quoB s L) := by
  obtain ⟨h1, h2, h3⟩ := h
  have hne : ∀ i, i ≠ L → markC s true i = markC s false i := fun i hi => by
    unfold markC
    by_cases hl : i < L
    · rw [quo_slash s i (h2 i hl)]; rfl
    · rw [lead_esc2 h3 i (by omega)]
  show oddG _ _ = _
  rw [oddG_one hne, show oddG (markC s false) s.size = openS s from rfl]
  congr 1
  unfold markC
  rw [lead_esc h2 L (Nat.le_refl _)]
  by_cases hl : L < s.size
  · rw [decide_eq_true hl]
    cases quoB s L <;> cases escG (slash s) false L <;> rfl
  · rw [quoB_out s L (by omega), decide_eq_false hl]; rfl
/-- Can a piece do that? -/
def formB (a b : Bool) (x y : Int) : Bool := (x == 0 || x == 1) && (y == 0 || y == 1) && (x == y || (!a && !b))
def bi (c : Bool) : Int := if c then 1 else 0
theorem formed_of (s : ByteArray) : formB (oddC s false) (oddC s true) (bi (behindS s false)) (bi (behindS s true)) = true := by
  obtain ⟨L, hL⟩ := lead_ex s
  by_cases h : L = s.size
  · obtain ⟨h1, h2, h3⟩ := hL
    have hz : ∀ c, oddC s c = false := fun c => by
      have : ∀ n, n ≤ s.size → oddG (markC s c) n = false := by
        intro n
        induction n with
        | zero => intro _; rfl
        | succ n ih =>
          intro hn
          rw [oddG_succ, ih (by omega)]
          unfold markC
          rw [quo_slash s n (h2 n (by omega))]; rfl
      exact this _ (Nat.le_refl _)
    rw [hz, hz]
    cases behindS s false <;> cases behindS s true <;> rfl
  · have he : behindS s true = behindS s false := lead_esc2 hL.2.2 _ (by have := hL.1; omega)
    rw [he]
    cases behindS s false <;> cases oddC s false <;> cases oddC s true <;> rfl
end Go.Proofs.YtdmmofdlokgfmaaDoor
