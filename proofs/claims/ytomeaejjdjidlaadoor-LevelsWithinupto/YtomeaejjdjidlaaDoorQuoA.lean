/-
  QuoMath, SpanMath.
-/
import Derived.Test.YtomeaejjdjidlaaDoorEscB
/-
  Of no program: the quotes of a text that count, and what stands between them.
-/
namespace Go.Proofs.YtomeaejjdjidlaaDoor

/-- Is the byte i a quote? -/
def quoB (s : ByteArray) (i : Nat) : Bool := decide ((s.data[i]?.getD 0).toNat = 34)
theorem quoB_at (s : ByteArray) (i : Nat) (h : i < s.size) : quoB s i = decide ((s[i]'h).toNat = 34) := by
  unfold quoB
  rw [Array.getElem?_eq_getElem (show i < s.data.size from h)]
  rfl
theorem quoB_out (s : ByteArray) (i : Nat) (h : s.size ≤ i) : quoB s i = false := by
  unfold quoB
  rw [Array.getElem?_eq_none (show s.data.size ≤ i from h)]
  rfl
/-- Is the byte i a quote that counts? -/
def markS (s : ByteArray) (i : Nat) : Bool := quoB s i && !escS s i
theorem markS_out (s : ByteArray) (i : Nat) (h : s.size ≤ i) : markS s i = false := by unfold markS; rw [quoB_out s i h]; rfl
/-- Whether an odd number of those below n is set. -/
def oddG (G : Nat → Bool) : Nat → Bool
  | 0 => false
  | n + 1 => oddG G n ^^ G n
theorem oddG_succ (G : Nat → Bool) (n : Nat) : oddG G (n + 1) = (oddG G n ^^ G n) := rfl
theorem oddG_add (G : Nat → Bool) (a n : Nat) : oddG G (a + n) = (oddG G a ^^ oddG (fun i => G (a + i)) n) := by
  induction n with
  | zero => simp [oddG]
  | succ n ih => rw [← Nat.add_assoc, oddG_succ, oddG_succ, ih, Bool.xor_assoc]
theorem oddG_congr {G H : Nat → Bool} {n : Nat} (h : ∀ i, i < n → G i = H i) : oddG G n = oddG H n := by
  induction n with
  | zero => rfl
  | succ n ih => rw [oddG_succ, oddG_succ, ih (fun i hi => h i (by omega)), h n (by omega)]
theorem oddB_rowOf (G : Nat → Bool) {N n : Nat} (h : n ≤ N) : oddB (rowOf G N) n = oddG G n := by
  induction n with
  | zero => rfl
  | succ n ih => rw [oddB, oddG_succ, ih (by omega), rowOf_bit, decide_eq_true (by omega : n < N), Bool.true_and]
/-- Is the place i inside? -/
def inS (s : ByteArray) (i : Nat) : Bool := oddG (markS s) (i + 1)
/-- Does the text end inside? -/
def openS (s : ByteArray) : Bool := oddG (markS s) s.size
theorem rowOf_congr {G H : Nat → Bool} {N : Nat} (h : ∀ i, i < N → G i = H i) (j : Nat) : rowOf G N j = rowOf H N j :=
  rowOf_eq (rowOf_lt _ _ _) fun r hr => by
    rw [← bitAt_word _ _ _ hr, rowOf_bit]
    by_cases hl : 64 * j + r < N
    · rw [h _ hl]
    · rw [decide_eq_false hl]; rfl
theorem inS_row (s : ByteArray) (j : Nat) : rowOf (fun i => oddB (rowOf (markS s) s.size) (i + 1)) s.size j = rowOf (inS s) s.size j :=
  rowOf_congr (fun i hi => by unfold inS; exact oddB_rowOf _ (by omega)) j
/-- The quotes of the block r, as a word. -/
def quoW (s : ByteArray) (r : Nat) : Nat := mk (fun i => isB 34 (cutF s ((64 * r : Nat) : Int) 0 i)) 64
theorem quoW_lt (s : ByteArray) (r : Nat) : quoW s r < 18446744073709551616 := mk_lt64 _ 64 (by decide)
theorem quoW_bit (s : ByteArray) (r i : Nat) (hi : i < 64) : (quoW s r).testBit i = quoB s (64 * r + i) := by
  unfold quoW
  rw [mk_bit, decide_eq_true hi, Bool.true_and]
  unfold cutF isB
  by_cases h : 64 * r + i < s.size
  · rw [if_pos ⟨by omega, by omega⟩]
    rfl
  · rw [if_neg (by omega), quoB_out s _ (by omega)]
    rfl
theorem quoW_row (s : ByteArray) (r : Nat) : quoW s r &&& (18446744073709551615 - rowOf (escS s) s.size r) = rowOf (markS s) s.size r :=
  rowOf_eq (andNot_lt (quoW_lt s r)) fun i hi => by
    rw [andNot_bit (rowOf_lt _ _ _) hi, quoW_bit s r i hi, ← bitAt_word _ _ _ hi, rowOf_bit]
    unfold markS
    by_cases hl : 64 * r + i < s.size
    · rw [decide_eq_true hl]; rfl
    · rw [decide_eq_false hl, quoB_out s _ (by omega)]; rfl
/-- A row as far as its first r words are told; no bit behind them. -/
def rowUp (G : Nat → Bool) (n r : Nat) (j : Nat) : Nat := if j < r then rowOf G n j else 0
theorem rowUp_lt (G : Nat → Bool) (n r j : Nat) : rowUp G n r j < 18446744073709551616 := by
  unfold rowUp
  split
  · exact rowOf_lt _ _ _
  · decide
theorem rowUp_set (G : Nat → Bool) (n r j : Nat) : (if j = r then rowOf G n r else rowUp G n r j) = rowUp G n (r + 1) j := by
  unfold rowUp
  by_cases hr : j = r
  · rw [if_pos hr, if_pos (by omega), hr]
  · rw [if_neg hr]
    by_cases hj : j < r
    · rw [if_pos hj, if_pos (by omega)]
    · rw [if_neg hj, if_neg (by omega)]

/-- The control bytes. -/
def ctlB (s : ByteArray) (i : Nat) : Bool := decide ((s.data[i]?.getD 32).toNat < 32)
theorem ctlB_at (s : ByteArray) (i : Nat) (h : i < s.size) : ctlB s i = decide ((s[i]'h).toNat < 32) := by
  unfold ctlB
  rw [Array.getElem?_eq_getElem (show i < s.data.size from h)]
  rfl
theorem ctlB_out (s : ByteArray) (i : Nat) (h : s.size ≤ i) : ctlB s i = false := by
  unfold ctlB
  rw [Array.getElem?_eq_none (show s.data.size ≤ i from h)]
  rfl
/-- The first place that is inside and has a control byte; or -1. -/
def IsCtl (s : ByteArray) (c : Int) : Prop :=
  (∃ p : Nat, c = p ∧ p < s.size ∧ inS s p = true ∧ ctlB s p = true ∧ ∀ i, i < p → (inS s i && ctlB s i) = false) ∨ (c = -1 ∧ ∀ i, i < s.size → (inS s i && ctlB s i) = false)
theorem IsCtl.uniq {s : ByteArray} {c d : Int} (h : IsCtl s c) (h' : IsCtl s d) : c = d := by
  rcases h with ⟨p, rfl, h1, h2, h3, hz⟩ | ⟨rfl, h1⟩ <;> rcases h' with ⟨q, rfl, h4, h5, h6, hy⟩ | ⟨rfl, h4⟩
  · rcases Nat.lt_trichotomy p q with h | h | h
    · have := hy p h; rw [h2, h3] at this; cases this
    · rw [h]
    · have := hz q h; rw [h5, h6] at this; cases this
  · have := h4 p h1; rw [h2, h3] at this; cases this
  · have := h1 q h4; rw [h5, h6] at this; cases this
  · rfl
theorem ctl_from {s : ByteArray} {n : Nat} (hn : n ≤ s.size) (hz : ∀ i, i < n → (inS s i && ctlB s i) = false) : ∃ c, IsCtl s c ∧ -1 ≤ c ∧ c < (s.size : Int) + 1 := by
  induction h : s.size - n generalizing n with
  | zero => exact ⟨-1, .inr ⟨rfl, fun i hi => hz i (by omega)⟩, by omega, by omega⟩
  | succ d ih =>
    by_cases hb : (inS s n && ctlB s n) = true
    · rw [Bool.and_eq_true] at hb
      exact ⟨n, .inl ⟨n, rfl, by omega, hb.1, hb.2, hz⟩, by omega, by omega⟩
    · exact ih (n := n + 1) (by omega) (fun i hi => by
        by_cases he : i = n
        · rw [he]; simpa using hb
        · exact hz i (by omega)) (by omega)
theorem ctl_ex (s : ByteArray) : ∃ c, IsCtl s c ∧ -1 ≤ c ∧ c < (s.size : Int) + 1 := ctl_from (n := 0) (by omega) (fun i hi => by omega)
end Go.Proofs.YtomeaejjdjidlaaDoor

/-
  Of no program: the spans between the marks of a text.
-/
namespace Go.Proofs.YtomeaejjdjidlaaDoor

/-- The first place from f on that is set, of k places; where there is none, the one behind them. -/
def nxtF (G : Nat → Bool) : Nat → Nat → Nat
  | 0, f => f
  | k + 1, f => if G f then f else nxtF G k (f + 1)
theorem nxtF_lo (G : Nat → Bool) (k f : Nat) : f ≤ nxtF G k f ∧ nxtF G k f ≤ f + k := by
  induction k generalizing f with
  | zero => exact ⟨Nat.le_refl _, Nat.le_refl _⟩
  | succ k ih =>
    rw [nxtF]
    split
    · omega
    · have := ih (f + 1); omega
theorem nxtF_hit (G : Nat → Bool) (k f : Nat) (h : nxtF G k f < f + k) : G (nxtF G k f) = true := by
  induction k generalizing f with
  | zero => rw [nxtF] at h; omega
  | succ k ih =>
    rw [nxtF] at h ⊢
    split
    · assumption
    · rename_i hf
      rw [if_neg hf] at h
      exact ih (f + 1) (by omega)
theorem nxtF_gap (G : Nat → Bool) (k f i : Nat) (h1 : f ≤ i) (h2 : i < nxtF G k f) : G i = false := by
  induction k generalizing f with
  | zero => rw [nxtF] at h2; omega
  | succ k ih =>
    rw [nxtF] at h2
    split at h2
    · omega
    · rename_i hf
      by_cases he : i = f
      · rw [he]; simpa using hf
      · exact ih (f + 1) (by omega) h2
/-- The first place from f on and below n that is set; where there is none, n. -/
def nxt (G : Nat → Bool) (n f : Nat) : Nat := nxtF G (n - f) f
section
variable {G : Nat → Bool} {n f i : Nat}
theorem nxt_lo : f ≤ nxt G n f := (nxtF_lo G _ f).1
theorem nxt_le (h : f ≤ n) : nxt G n f ≤ n := by have := (nxtF_lo G (n - f) f).2; unfold nxt; omega
theorem nxt_hit (h : nxt G n f < n) : G (nxt G n f) = true := nxtF_hit G _ f (by have := nxt_lo (G := G) (n := n) (f := f); unfold nxt at h this; omega)
theorem nxt_gap (h1 : f ≤ i) (h2 : i < nxt G n f) : G i = false := nxtF_gap G _ f i h1 h2
theorem nxt_is (h1 : f ≤ i) (h2 : i < n) (h3 : G i = true) (hz : ∀ j, f ≤ j → j < i → G j = false) : nxt G n f = i := by
  have hlo := nxt_lo (G := G) (n := n) (f := f)
  rcases Nat.lt_trichotomy (nxt G n f) i with h | h | h
  · have h4 := hz _ hlo h
    rw [nxt_hit (G := G) (n := n) (f := f) (by omega)] at h4
    cases h4
  · exact h
  · have h4 := nxt_gap h1 h
    rw [h3] at h4
    cases h4
theorem nxt_none (h1 : f ≤ n) (hz : ∀ j, f ≤ j → j < n → G j = false) : nxt G n f = n := by
  have hle := nxt_le (G := G) h1
  by_cases h : nxt G n f < n
  · have h4 := hz _ nxt_lo h
    rw [nxt_hit h] at h4
    cases h4
  · omega
/-- What Next answers of the row. -/
theorem nxt_next (F : Nat) (h : nxt G n F < n) : IsNext (rowOf G n) n (F : Int) ((nxt G n F : Nat) : Int) :=
  .inl ⟨_, rfl, h, by rw [rowOf_bit, decide_eq_true h, nxt_hit h]; rfl, by have := nxt_lo (G := G) (n := n) (f := F); omega, fun i h1 h2 => by rw [rowOf_bit, nxt_gap (G := G) (n := n) (f := F) (by omega) h2]; simp⟩
theorem nxt_next_none (F : Nat) (h : ¬ nxt G n F < n) : IsNext (rowOf G n) n (F : Int) (-1) :=
  .inr ⟨rfl, fun i h1 h2 => by rw [rowOf_bit, nxt_gap (G := G) (n := n) (f := F) (by omega) (by omega)]; simp⟩
end
/-- The spans from f on. -/
def spansF (G : Nat → Bool) (n : Nat) : Nat → Nat → List (Nat × Nat)
  | 0, _ => []
  | k + 1, f => if nxt G n f < n then (nxt G n f + 1, nxt G n (nxt G n f + 1)) :: spansF G n k (nxt G n (nxt G n f + 1) + 1) else []
theorem spansF_fuel (G : Nat → Bool) (n : Nat) (k k' f : Nat) (h : n < f + k) (h' : n < f + k') : spansF G n k f = spansF G n k' f := by
  induction k generalizing k' f with
  | zero =>
    cases k' with
    | zero => rfl
    | succ k' =>
      rw [spansF, spansF, if_neg]
      have := nxt_lo (G := G) (n := n) (f := f); omega
  | succ k ih =>
    cases k' with
    | zero =>
      rw [spansF, spansF, if_neg]
      have := nxt_lo (G := G) (n := n) (f := f); omega
    | succ k' =>
      rw [spansF, spansF]
      have h1 := nxt_lo (G := G) (n := n) (f := f)
      have h2 := nxt_lo (G := G) (n := n) (f := nxt G n f + 1)
      rw [ih k' _ (by omega) (by omega)]
/-- The spans from f on, as many as there are. -/
def spansAt (G : Nat → Bool) (n f : Nat) : List (Nat × Nat) := spansF G n (n + 1) f
theorem spansAt_t {G : Nat → Bool} {n f : Nat} (h : nxt G n f < n) : spansAt G n f = (nxt G n f + 1, nxt G n (nxt G n f + 1)) :: spansAt G n (nxt G n (nxt G n f + 1) + 1) := by
  unfold spansAt
  rw [spansF, if_pos h]
  congr 1
  have h1 := nxt_lo (G := G) (n := n) (f := nxt G n f + 1)
  exact spansF_fuel G n _ _ _ (by omega) (by omega)
theorem spansAt_f {G : Nat → Bool} {n f : Nat} (h : ¬ nxt G n f < n) : spansAt G n f = [] := by
  unfold spansAt
  rw [spansF, if_neg h]
/-- The spans of a text. -/
def spansS (s : ByteArray) : List (Nat × Nat) := spansAt (markS s) s.size 0
/-- r of the spans are gone through, and the next ones are looked for from f on. -/
def SpAt (s : ByteArray) (r f : Nat) : Prop := (spansS s).drop r = spansAt (markS s) s.size f ∧ r ≤ (spansS s).length ∧ f ≤ s.size + 1 ∧ (f ≤ s.size → oddG (markS s) f = false)
theorem spAt_zero (s : ByteArray) : SpAt s 0 0 := ⟨rfl, Nat.zero_le _, Nat.zero_le _, fun _ => rfl⟩
theorem oddG_same {G : Nat → Bool} {a b : Nat} (h : a ≤ b) (hz : ∀ i, a ≤ i → i < b → G i = false) : oddG G b = oddG G a := by
  obtain ⟨d, rfl⟩ : ∃ d, b = a + d := ⟨b - a, by omega⟩
  clear h
  induction d with
  | zero => rfl
  | succ d ih => rw [← Nat.add_assoc, oddG_succ, ih (fun i h1 h2 => hz i h1 (by omega)), hz (a + d) (by omega) (by omega), Bool.xor_false]
/-- The next span. -/
structure SpNext (s : ByteArray) (r f o c : Nat) : Prop where
  lt : r < (spansS s).length
  at_ : (spansS s)[r]? = some (o + 1, c)
  next : SpAt s (r + 1) (c + 1)
  fo : f ≤ o
  on : o < s.size
  oc : o < c
  cn : c ≤ s.size
  mo : markS s o = true
  mc : c < s.size → markS s c = true
  ahead : ∀ i, f ≤ i → i < o → markS s i = false
  within : ∀ i, o < i → i < c → markS s i = false
  outside : ∀ i, f ≤ i → i < o → inS s i = false
  inside : ∀ i, o ≤ i → i < c → inS s i = true
  last : c < s.size → inS s c = false
theorem SpAt.step {s : ByteArray} {r f o : Nat} (h : SpAt s r f) (ho : nxt (markS s) s.size f = o) (hlt : o < s.size) : SpNext s r f o (nxt (markS s) s.size (o + 1)) := by
  obtain ⟨h1, h2, h3, h4⟩ := h
  obtain ⟨c, hc⟩ : ∃ c, nxt (markS s) s.size (o + 1) = c := ⟨_, rfl⟩
  rw [hc]
  rw [spansAt_t (by rw [ho]; exact hlt), ho, hc] at h1
  have hlen : r < (spansS s).length := by
    by_cases h : r < (spansS s).length
    · exact h
    · rw [List.drop_eq_nil_of_le (by omega)] at h1; cases h1
  rw [List.drop_eq_getElem_cons hlen] at h1
  obtain ⟨e1, e2⟩ := List.cons.inj h1
  have hfo : f ≤ o := by have := nxt_lo (G := markS s) (n := s.size) (f := f); omega
  have hoc : o < c := by have := nxt_lo (G := markS s) (n := s.size) (f := o + 1); omega
  have hcn : c ≤ s.size := by rw [← hc]; exact nxt_le (by omega)
  have hmo : markS s o = true := by rw [← ho]; exact nxt_hit (by omega)
  have hmc : c < s.size → markS s c = true := fun h => by rw [← hc]; exact nxt_hit (by omega)
  have hah : ∀ i, f ≤ i → i < o → markS s i = false := fun i g1 g2 => nxt_gap g1 (by rw [ho]; exact g2)
  have hwi : ∀ i, o < i → i < c → markS s i = false := fun i g1 g2 => nxt_gap (f := o + 1) g1 (by rw [hc]; exact g2)
  have hf0 := h4 (by omega)
  have odd1 : ∀ i, f ≤ i → i ≤ o → oddG (markS s) i = false := fun i g1 g2 => (oddG_same g1 (fun j j1 j2 => hah j j1 (by omega))).trans hf0
  have odd2 : oddG (markS s) (o + 1) = true := by rw [oddG_succ, odd1 o hfo (Nat.le_refl _), hmo]; rfl
  have odd3 : ∀ i, o + 1 ≤ i → i ≤ c → oddG (markS s) i = true := fun i g1 g2 => (oddG_same g1 (fun j j1 j2 => hwi j (by omega) (by omega))).trans odd2
  have odd4 : c < s.size → oddG (markS s) (c + 1) = false := fun g => by rw [oddG_succ, odd3 c hoc (Nat.le_refl _), hmc g]; rfl
  exact { lt := hlen, at_ := by rw [List.getElem?_eq_getElem hlen, e1], next := ⟨e2, hlen, by omega, fun g => odd4 (by omega)⟩, fo := hfo, on := hlt, oc := hoc, cn := hcn, mo := hmo, mc := hmc, ahead := hah, within := hwi,
          outside := fun i g1 g2 => odd1 (i + 1) (by omega) g2, inside := fun i g1 g2 => odd3 (i + 1) (by omega) g2, last := odd4 }
/-- Behind the last span. -/
theorem SpAt.end {s : ByteArray} {r f : Nat} (h : SpAt s r f) (hno : ¬ nxt (markS s) s.size f < s.size) : r = (spansS s).length ∧ (∀ i, f ≤ i → i < s.size → markS s i = false) ∧ ∀ i, f ≤ i → i < s.size → inS s i = false := by
  obtain ⟨h1, h2, h3, h4⟩ := h
  rw [spansAt_f hno] at h1
  have hz : ∀ i, f ≤ i → i < s.size → markS s i = false := fun i g1 g2 => nxt_gap (n := s.size) g1 (by omega)
  refine ⟨?_, hz, fun i g1 g2 => ?_⟩
  · have := congrArg List.length h1
    rw [List.length_drop, List.length_nil] at this
    omega
  · unfold inS
    rw [oddG_same (a := f) (by omega) (fun j j1 j2 => hz j j1 (by omega))]
    exact h4 (by omega)
/-- The number of spans, and that each lies in the text. -/
theorem spansAt_len (G : Nat → Bool) (n k f : Nat) : (spansF G n k f).length ≤ n + 1 - f := by
  induction k generalizing f with
  | zero => exact Nat.zero_le _
  | succ k ih =>
    rw [spansF]
    split
    · have h1 := nxt_lo (G := G) (n := n) (f := f)
      have h2 := nxt_lo (G := G) (n := n) (f := nxt G n f + 1)
      have := ih (nxt G n (nxt G n f + 1) + 1)
      rw [List.length_cons]
      omega
    · exact Nat.zero_le _
theorem spansS_len (s : ByteArray) : (spansS s).length ≤ s.size + 1 := spansAt_len _ _ _ 0
theorem spansF_in (G : Nat → Bool) (n k f : Nat) (x : Nat × Nat) (h : x ∈ spansF G n k f) : x.1 ≤ n ∧ x.2 ≤ n := by
  induction k generalizing f with
  | zero => cases h
  | succ k ih =>
    rw [spansF] at h
    split at h
    · rename_i hlt
      rcases List.mem_cons.1 h with h | h
      · rw [h]
        exact ⟨hlt, nxt_le hlt⟩
      · exact ih _ h
    · cases h
/-- What is told of the span number r. -/
def spn (s : ByteArray) (r : Nat) : Nat × Nat := (spansS s).getD r (0, 0)
theorem spn_le (s : ByteArray) (r : Nat) : (spn s r).1 ≤ s.size ∧ (spn s r).2 ≤ s.size := by
  unfold spn
  rw [List.getD_eq_getElem?_getD]
  cases h : (spansS s)[r]? with
  | none => exact ⟨Nat.zero_le _, Nat.zero_le _⟩
  | some x => exact spansF_in _ _ _ _ x (List.mem_of_getElem? h)
theorem SpNext.spn {s : ByteArray} {r f o c : Nat} (h : SpNext s r f o c) : spn s r = (o + 1, c) := by
  unfold Go.Proofs.YtomeaejjdjidlaaDoor.spn
  rw [List.getD_eq_getElem?_getD, h.at_]
  rfl
/-- From where on the span number r is looked for. -/
theorem spAt_ex (s : ByteArray) (r : Nat) (h : r ≤ (spansS s).length) : ∃ f, SpAt s r f := by
  induction r with
  | zero => exact ⟨0, spAt_zero s⟩
  | succ r ih =>
    obtain ⟨f, hf⟩ := ih (by omega)
    by_cases ho : nxt (markS s) s.size f < s.size
    · exact ⟨_, (hf.step rfl ho).next⟩
    · have := (hf.end ho).1; omega
/-- Where r of the spans are gone through and there is one more. -/
theorem SpAt.more {s : ByteArray} {r f : Nat} (h : SpAt s r f) (hr : r < (spansS s).length) : nxt (markS s) s.size f < s.size := by
  by_cases ho : nxt (markS s) s.size f < s.size
  · exact ho
  · have := (h.end ho).1; omega
end Go.Proofs.YtomeaejjdjidlaaDoor
