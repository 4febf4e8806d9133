/-
  Of no program: the quotes of a text that count, and what stands between them.
-/
import Derived.Test.YtmjmcdoanolelaaDoorEscB
namespace Go.Proofs.YtmjmcdoanolelaaDoor

/-- Is the byte i a quote? -/
def quoB (s : ByteArray) (i : Nat) : Bool := decide ((s.data[i]?.getD 0).toNat = 34)
theorem quoB_at (s : ByteArray) (i : Nat) (h : i < s.size) : quoB s i = decide ((s[i]'h).toNat = 34) := by
  unfold quoB
  rw [Array.getElem?_eq_getElem (show i < s.data.size from h)]
  rfl
theorem quoB_out (s : ByteArray) (i : Nat) (h : s.size ≤ i) : quoB s i = false := by
  unfold quoB
  rw [Array.getElem?_eq_none (show s.data.size ≤ i from h)]
  rfl
/-- Is the byte i a quote that counts? -/
def markS (s : ByteArray) (i : Nat) : Bool := quoB s i && !escS s i
theorem markS_out (s : ByteArray) (i : Nat) (h : s.size ≤ i) : markS s i = false := by unfold markS; rw [quoB_out s i h]; rfl
/-- Whether an odd number of those below n is set. -/
def oddG (G : Nat → Bool) : Nat → Bool
  | 0 => false
  | n + 1 => oddG G n ^^ G n
theorem oddG_succ (G : Nat → Bool) (n : Nat) : oddG G (n + 1) = (oddG G n ^^ G n) := rfl
theorem oddG_add (G : Nat → Bool) (a n : Nat) : oddG G (a + n) = (oddG G a ^^ oddG (fun i => G (a + i)) n) := by
  induction n with
  | zero => simp [oddG]
  | succ n ih => rw [← Nat.add_assoc, oddG_succ, oddG_succ, ih, Bool.xor_assoc]
theorem oddG_congr {G H : Nat → Bool} {n : Nat} (h : ∀ i, i < n → G i = H i) : oddG G n = oddG H n := by
  induction n with
  | zero => rfl
  | succ n ih => rw [oddG_succ, oddG_succ, ih (fun i hi => h i (by omega)), h n (by omega)]
theorem oddB_rowOf (G : Nat → Bool) {N n : Nat} (h : n ≤ N) : oddB (rowOf G N) n = oddG G n := by
  induction n with
  | zero => rfl
  | succ n ih => rw [oddB, oddG_succ, ih (by omega), rowOf_bit, decide_eq_true (by omega : n < N), Bool.true_and]
/-- Is the place i inside? -/
def inS (s : ByteArray) (i : Nat) : Bool := oddG (markS s) (i + 1)
/-- Does the text end inside? -/
def openS (s : ByteArray) : Bool := oddG (markS s) s.size
theorem rowOf_congr {G H : Nat → Bool} {N : Nat} (h : ∀ i, i < N → G i = H i) (j : Nat) : rowOf G N j = rowOf H N j :=
  rowOf_eq (rowOf_lt _ _ _) fun r hr => by
    rw [← bitAt_word _ _ _ hr, rowOf_bit]
    by_cases hl : 64 * j + r < N
    · rw [h _ hl]
    · rw [decide_eq_false hl]; rfl
theorem inS_row (s : ByteArray) (j : Nat) : rowOf (fun i => oddB (rowOf (markS s) s.size) (i + 1)) s.size j = rowOf (inS s) s.size j :=
  rowOf_congr (fun i hi => by unfold inS; exact oddB_rowOf _ (by omega)) j
/-- The quotes of the block r, as a word. -/
def quoW (s : ByteArray) (r : Nat) : Nat := mk (fun i => isB 34 (cutF s ((64 * r : Nat) : Int) 0 i)) 64
theorem quoW_lt (s : ByteArray) (r : Nat) : quoW s r < 18446744073709551616 := mk_lt64 _ 64 (by decide)
theorem quoW_bit (s : ByteArray) (r i : Nat) (hi : i < 64) : (quoW s r).testBit i = quoB s (64 * r + i) := by
  unfold quoW
  rw [mk_bit, decide_eq_true hi, Bool.true_and]
  unfold cutF isB
  by_cases h : 64 * r + i < s.size
  · rw [if_pos ⟨by omega, by omega⟩]
    rfl
  · rw [if_neg (by omega), quoB_out s _ (by omega)]
    rfl
theorem quoW_row (s : ByteArray) (r : Nat) : quoW s r &&& (18446744073709551615 - rowOf (escS s) s.size r) = rowOf (markS s) s.size r :=
  rowOf_eq (andNot_lt (quoW_lt s r)) fun i hi => by
    rw [andNot_bit (rowOf_lt _ _ _) hi, quoW_bit s r i hi, ← bitAt_word _ _ _ hi, rowOf_bit]
    unfold markS
    by_cases hl : 64 * r + i < s.size
    · rw [decide_eq_true hl]; rfl
    · rw [decide_eq_false hl, quoB_out s _ (by omega)]; rfl
/-- A row as far as its first r words are told; no bit behind them. -/
def rowUp (G : Nat → Bool) (n r : Nat) (j : Nat) : Nat := if j < r then rowOf G n j else 0
theorem rowUp_lt (G : Nat → Bool) (n r j : Nat) : rowUp G n r j < 18446744073709551616 := by
  unfold rowUp
  split
  · exact rowOf_lt _ _ _
  · decide
theorem rowUp_set (G : Nat → Bool) (n r j : Nat) : (if j = r then rowOf G n r else rowUp G n r j) = rowUp G n (r + 1) j := by
  unfold rowUp
  by_cases hr : j = r
  · rw [if_pos hr, if_pos (by omega), hr]
  · rw [if_neg hr]
    by_cases hj : j < r
    · rw [if_pos hj, if_pos (by omega)]
    · rw [if_neg hj, if_neg (by omega)]

/-- The control bytes. -/
def ctlB (s : ByteArray) (i : Nat) : Bool := decide ((s.data[i]?.getD 32).toNat < 32)
theorem ctlB_at (s : ByteArray) (i : Nat) (h : i < s.size) : ctlB s i = decide ((s[i]'h).toNat < 32) := by
  unfold ctlB
  rw [Array.getElem?_eq_getElem (show i < s.data.size from h)]
  rfl
theorem ctlB_out (s : ByteArray) (i : Nat) (h : s.size ≤ i) : ctlB s i = false := by
  unfold ctlB
  rw [Array.getElem?_eq_none (show s.data.size ≤ i from h)]
  rfl
/-- The first place that is inside and has a control byte; or -1. -/
def IsCtl (s : ByteArray) (c : Int) : Prop :=
  (∃ p : Nat, c = p ∧ p < s.size ∧ inS s p = true ∧ ctlB s p = true ∧ ∀ i, i < p → (inS s i && ctlB s i) = false) ∨ (c = -1 ∧ ∀ i, i < s.size → (inS s i && ctlB s i) = false)
theorem IsCtl.uniq {s : ByteArray} {c d : Int} (h : IsCtl s c) (h' : IsCtl s d) : c = d := by
  rcases h with ⟨p, rfl, h1, h2, h3, hz⟩ | ⟨rfl, h1⟩ <;> rcases h' with ⟨q, rfl, h4, h5, h6, hy⟩ | ⟨rfl, h4⟩
  · rcases Nat.lt_trichotomy p q with h | h | h
    · have := hy p h; rw [h2, h3] at this; cases this
    · rw [h]
    · have := hz q h; rw [h5, h6] at this; cases this
  · have := h4 p h1; rw [h2, h3] at this; cases this
  · have := h1 q h4; rw [h5, h6] at this; cases this
  · rfl
theorem ctl_from {s : ByteArray} {n : Nat} (hn : n ≤ s.size) (hz : ∀ i, i < n → (inS s i && ctlB s i) = false) : ∃ c, IsCtl s c ∧ -1 ≤ c ∧ c < (s.size : Int) + 1 := by
  induction h : s.size - n generalizing n with
  | zero => exact ⟨-1, .inr ⟨rfl, fun i hi => hz i (by omega)⟩, by omega, by omega⟩
  | succ d ih =>
    by_cases hb : (inS s n && ctlB s n) = true
    · rw [Bool.and_eq_true] at hb
      exact ⟨n, .inl ⟨n, rfl, by omega, hb.1, hb.2, hz⟩, by omega, by omega⟩
    · exact ih (n := n + 1) (by omega) (fun i hi => by
        by_cases he : i = n
        · rw [he]; simpa using hb
        · exact hz i (by omega)) (by omega)
theorem ctl_ex (s : ByteArray) : ∃ c, IsCtl s c ∧ -1 ≤ c ∧ c < (s.size : Int) + 1 := ctl_from (n := 0) (by omega) (fun i hi => by omega)
end Go.Proofs.YtmjmcdoanolelaaDoor
