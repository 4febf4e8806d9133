/-
  LevMath, LvWalk, LvRows.
-/
import Derived.Test.YtomeaejjdjidlaaDoorMarkMath
import Derived.Test.YtomeaejjdjidlaaDoorMkKind
import Derived.Test.YtomeaejjdjidlaaDoorMkIndex
import Derived.Test.YtomeaejjdjidlaaDoorBitsD
/-
  Of no program: how deep the places of a text lie; where a bracket is closed.
-/
namespace Go.Proofs.YtomeaejjdjidlaaDoor

/-- Is the byte a bracket that opens, that closes, wherever it stands? -/
def opB (x : Nat) : Bool := x == 123 || x == 91
def clB (x : Nat) : Bool := x == 125 || x == 93
/-- Does an opening bracket, a closing one, stand there, outside? -/
def brO (s : ByteArray) (i : Nat) : Bool := outS s i && opB (byteAt s i)
def brC (s : ByteArray) (i : Nat) : Bool := outS s i && clB (byteAt s i)
/-- The depth behind a byte, by the one ahead of it. -/
def stepD (o c : Bool) (d : Nat) : Nat := if o then d + 1 else if c then d - 1 else d
/-- The depth ahead of the place. -/
def depS (s : ByteArray) : Nat → Nat
  | 0 => 0
  | i + 1 => stepD (brO s i) (brC s i) (depS s i)
theorem depS_succ (s : ByteArray) (i : Nat) : depS s (i + 1) = stepD (brO s i) (brC s i) (depS s i) := rfl
/-- Is the place a byte c outside, of the level k? -/
def lvS (c : Nat) (s : ByteArray) (k i : Nat) : Bool := outS s i && (byteAt s i == c && decide (depS s i = k))
theorem op_cl {x : Nat} (h : opB x = true) : clB x = false := by
  unfold opB at h
  unfold clB
  simp only [Bool.or_eq_true, beq_iff_eq] at h
  rcases h with h | h <;> subst h <;> rfl
theorem brO_brC {s : ByteArray} {i : Nat} (h : brO s i = true) : brC s i = false := by
  unfold brO at h
  unfold brC
  rw [Bool.and_eq_true] at h
  rw [op_cl h.2, Bool.and_false]
theorem stepD_le (o c : Bool) (d : Nat) : stepD o c d ≤ d + 1 := by unfold stepD; split <;> (try split) <;> omega
theorem depS_le (s : ByteArray) (i : Nat) : depS s i ≤ i := by
  induction i with
  | zero => exact Nat.le_refl _
  | succ i ih => rw [depS_succ]; have := stepD_le (brO s i) (brC s i) (depS s i); omega
theorem brO_out {s : ByteArray} {i : Nat} (h : s.size ≤ i) : brO s i = false := by unfold brO; rw [outS_out h]; rfl
theorem brC_out {s : ByteArray} {i : Nat} (h : s.size ≤ i) : brC s i = false := by unfold brC; rw [outS_out h]; rfl
theorem lvS_out {c k : Nat} {s : ByteArray} {i : Nat} (h : s.size ≤ i) : lvS c s k i = false := by unfold lvS; rw [outS_out h]; rfl
theorem depS_out (s : ByteArray) (i : Nat) : depS s (s.size + i) = depS s s.size := by
  induction i with
  | zero => rfl
  | succ i ih => rw [← Nat.add_assoc, depS_succ, brO_out (by omega), brC_out (by omega), ih]; rfl
theorem depS_past {s : ByteArray} {i : Nat} (h : s.size ≤ i) : depS s i = depS s s.size := by
  rw [show i = s.size + (i - s.size) by omega]; exact depS_out s _

/-! At a place at which something begins the byte itself tells. -/
theorem beg_sgn {s : ByteArray} {i : Nat} (h : sgnB s i = true) : begS s i = outS s i := by
  have hm : markS s i = true → sgnB s i = false := fun hm => by
    unfold markS quoB at hm
    rw [Bool.and_eq_true] at hm
    have h34 : byteAt s i = 34 := of_decide_eq_true hm.1
    unfold sgnB
    rw [h34]; rfl
  unfold begS strS wordS
  rw [h]
  cases hk : markS s i
  · simp
  · rw [hm hk] at h; cases h
theorem sgn_op {s : ByteArray} {i : Nat} (h : opB (byteAt s i) = true) : sgnB s i = true := by
  unfold opB at h
  unfold sgnB
  generalize byteAt s i = x at h ⊢
  simp only [Bool.or_eq_true, beq_iff_eq] at h
  rcases h with h | h <;> subst h <;> rfl
theorem sgn_cl {s : ByteArray} {i : Nat} (h : clB (byteAt s i) = true) : sgnB s i = true := by
  unfold clB at h
  unfold sgnB
  generalize byteAt s i = x at h ⊢
  simp only [Bool.or_eq_true, beq_iff_eq] at h
  rcases h with h | h <;> subst h <;> rfl
theorem sgn_cc {s : ByteArray} {i c : Nat} (hc : c = 58 ∨ c = 44) (h : (byteAt s i == c) = true) : sgnB s i = true := by
  unfold sgnB
  generalize byteAt s i = x at h ⊢
  rw [beq_iff_eq] at h
  subst h
  rcases hc with h | h <;> subst h <;> rfl
theorem beg_op {s : ByteArray} {i : Nat} (h : begS s i = true) : brO s i = opB (byteAt s i) := by
  unfold brO
  cases ho : opB (byteAt s i)
  · rw [Bool.and_false]
  · rw [← beg_sgn (sgn_op ho), h]; rfl
theorem beg_cl {s : ByteArray} {i : Nat} (h : begS s i = true) : brC s i = clB (byteAt s i) := by
  unfold brC
  cases ho : clB (byteAt s i)
  · rw [Bool.and_false]
  · rw [← beg_sgn (sgn_cl ho), h]; rfl
theorem beg_lv {s : ByteArray} {i : Nat} (c k : Nat) (hc : c = 58 ∨ c = 44) (h : begS s i = true) : lvS c s k i = (byteAt s i == c && decide (depS s i = k)) := by
  unfold lvS
  cases ho : (byteAt s i == c)
  · rw [Bool.false_and, Bool.and_false]
  · rw [← beg_sgn (sgn_cc hc ho), h]; rfl
theorem nbeg_op {s : ByteArray} {i : Nat} (h : begS s i = false) : brO s i = false := by
  unfold brO
  cases ho : opB (byteAt s i)
  · rw [Bool.and_false]
  · rw [← beg_sgn (sgn_op ho), h]; rfl
theorem nbeg_cl {s : ByteArray} {i : Nat} (h : begS s i = false) : brC s i = false := by
  unfold brC
  cases ho : clB (byteAt s i)
  · rw [Bool.and_false]
  · rw [← beg_sgn (sgn_cl ho), h]; rfl
theorem nbeg_lv {s : ByteArray} {i : Nat} (c k : Nat) (hc : c = 58 ∨ c = 44) (h : begS s i = false) : lvS c s k i = false := by
  unfold lvS
  cases ho : (byteAt s i == c)
  · rw [Bool.false_and, Bool.and_false]
  · rw [← beg_sgn (sgn_cc hc ho), h]; rfl
theorem nbeg_dep {s : ByteArray} {i : Nat} (h : begS s i = false) : depS s (i + 1) = depS s i := by rw [depS_succ, nbeg_op h, nbeg_cl h]; rfl
theorem beg_dep {s : ByteArray} {i : Nat} (h : begS s i = true) : depS s (i + 1) = stepD (opB (byteAt s i)) (clB (byteAt s i)) (depS s i) := by rw [depS_succ, beg_op h, beg_cl h]

/-! The places at which something begins, one after another. -/
def ipl (s : ByteArray) (k : Nat) : Nat := (idxS s)[k]?.getD s.size
theorem idxS_mem {s : ByteArray} {p : Nat} : p ∈ idxS s ↔ p < s.size ∧ begS s p = true := by
  unfold idxS idxTo; rw [List.mem_filter, List.mem_range]
theorem idxS_pw (s : ByteArray) : (idxS s).Pairwise (· < ·) := by unfold idxS idxTo; exact List.Pairwise.filter _ List.pairwise_lt_range
theorem idxS_lt {s : ByteArray} {i j p q : Nat} (h : i < j) (hp : (idxS s)[i]? = some p) (hq : (idxS s)[j]? = some q) : p < q := by
  obtain ⟨hi, rfl⟩ := List.getElem?_eq_some_iff.1 hp
  obtain ⟨hj, rfl⟩ := List.getElem?_eq_some_iff.1 hq
  exact List.pairwise_iff_getElem.1 (idxS_pw s) i j hi hj h
theorem ipl_at {s : ByteArray} {k p : Nat} (h : (idxS s)[k]? = some p) : ipl s k = p := by unfold ipl; rw [h]; rfl
theorem ipl_end {s : ByteArray} {k : Nat} (h : (idxS s).length ≤ k) : ipl s k = s.size := by unfold ipl; rw [List.getElem?_eq_none h]; rfl
theorem ipl_le (s : ByteArray) (k : Nat) : ipl s k ≤ s.size := by
  unfold ipl
  cases h : (idxS s)[k]? with
  | none => exact Nat.le_refl _
  | some p => exact Nat.le_of_lt (idxS_mem.1 (List.mem_of_getElem? h)).1
theorem ipl_zero {s : ByteArray} {i : Nat} (h : i < ipl s 0) : begS s i = false := by
  cases hb : begS s i
  · rfl
  · have hi : i < s.size := Nat.lt_of_lt_of_le h (ipl_le s 0)
    obtain ⟨j, hj⟩ := List.mem_iff_getElem?.1 (idxS_mem.2 ⟨hi, hb⟩)
    have h0 : ∃ q, (idxS s)[0]? = some q := by
      cases hL : idxS s with
      | nil => rw [hL] at hj; simp at hj
      | cons a l => exact ⟨a, rfl⟩
    obtain ⟨q, hq⟩ := h0
    rw [ipl_at hq] at h
    by_cases hj0 : j = 0
    · rw [hj0, hq] at hj; cases hj; omega
    · have := idxS_lt (by omega) hq hj; omega
theorem ipl_next {s : ByteArray} {k p i : Nat} (hp : (idxS s)[k]? = some p) (h1 : p < i) (h2 : i < ipl s (k + 1)) : begS s i = false := by
  cases hb : begS s i
  · rfl
  · have hi : i < s.size := Nat.lt_of_lt_of_le h2 (ipl_le s (k + 1))
    obtain ⟨j, hj⟩ := List.mem_iff_getElem?.1 (idxS_mem.2 ⟨hi, hb⟩)
    have hkj : k < j := by
      rcases Nat.lt_trichotomy k j with h | h | h
      · exact h
      · subst h; rw [hp] at hj; cases hj; omega
      · have := idxS_lt h hj hp; omega
    have hlt := (List.getElem?_eq_some_iff.1 hj).1
    obtain ⟨q, hq⟩ : ∃ q, (idxS s)[k + 1]? = some q := ⟨_, List.getElem?_eq_getElem (by omega)⟩
    rw [ipl_at hq] at h2
    by_cases he : j = k + 1
    · rw [he, hq] at hj; cases hj; omega
    · have := idxS_lt (show k + 1 < j by omega) hq hj; omega
theorem ipl_up {s : ByteArray} {k p : Nat} (hp : (idxS s)[k]? = some p) : p + 1 ≤ ipl s (k + 1) := by
  unfold ipl
  cases h : (idxS s)[k + 1]? with
  | none => exact (idxS_mem.1 (List.mem_of_getElem? hp)).1
  | some q => exact idxS_lt (by omega) hp h
/-- What holds behind a place, and isn't turned by places at which nothing begins, holds at the next. -/
theorem ipl_skip {s : ByteArray} {P : Nat → Prop} {a b : Nat} (hab : a ≤ b) (hn : ∀ i, a ≤ i → i < b → begS s i = false) (hs : ∀ i, begS s i = false → P i → P (i + 1)) (h : P a) : P b := by
  induction b with
  | zero => rw [show 0 = a by omega]; exact h
  | succ b ih =>
    by_cases he : a = b + 1
    · rw [← he]; exact h
    · exact hs b (hn b (by omega) (by omega)) (ih (by omega) (fun i h1 h2 => hn i h1 (by omega)))
theorem ipl_dep0 (s : ByteArray) : depS s (ipl s 0) = 0 :=
  ipl_skip (P := fun i => depS s i = 0) (Nat.zero_le _) (fun i _ h => ipl_zero h) (fun i hb h => by rw [nbeg_dep hb]; exact h) rfl
theorem ipl_dep {s : ByteArray} {k p : Nat} (hp : (idxS s)[k]? = some p) : depS s (ipl s (k + 1)) = stepD (opB (byteAt s p)) (clB (byteAt s p)) (depS s p) :=
  ipl_skip (P := fun i => depS s i = stepD (opB (byteAt s p)) (clB (byteAt s p)) (depS s p)) (ipl_up hp) (fun i h1 h2 => ipl_next hp (by omega) h2) (fun i hb h => by rw [nbeg_dep hb]; exact h) (beg_dep (idxS_mem.1 (List.mem_of_getElem? hp)).2)

/-! The depth hangs on nothing behind the place. -/
theorem br_first (s t : ByteArray) (i : Nat) (hi : i < s.size) : brO (s ++ t) i = brO s i ∧ brC (s ++ t) i = brC s i := by
  unfold brO brC
  rw [out_first s t i hi, byteAt_join, if_pos hi]
  exact ⟨rfl, rfl⟩
theorem dep_first (s t : ByteArray) (i : Nat) (hi : i ≤ s.size) : depS (s ++ t) i = depS s i := by
  induction i with
  | zero => rfl
  | succ i ih => rw [depS_succ, depS_succ, (br_first s t i (by omega)).1, (br_first s t i (by omega)).2, ih (by omega)]
theorem dep_cut (s : ByteArray) (k : Nat) (h : k ≤ s.size) : depS (s.extract 0 k) k = depS s k := by
  have := dep_first (s.extract 0 k) (s.extract k s.size) k (by rw [cut_size s k h]; exact Nat.le_refl _)
  rw [cut_join s k] at this
  exact this.symm

/-! Where a bracket is closed. -/
def clsP (s : ByteArray) (a p : Nat) : Bool := decide (a < p) && (brC s p && decide (depS s p = depS s a + 1))
def IsCls (s : ByteArray) (a : Int) (c : Int) : Prop :=
  (∃ i : Nat, a = i ∧ brO s i = true ∧ ((∃ p : Nat, c = p ∧ p < s.size ∧ clsP s i p = true ∧ ∀ q, q < p → clsP s i q = false) ∨ (c = -1 ∧ ∀ q, q < s.size → clsP s i q = false))) ∨ (c = -1 ∧ ∀ i : Nat, a = i → brO s i = false)
theorem IsCls.uniq {s : ByteArray} {a c d : Int} (h : IsCls s a c) (h' : IsCls s a d) : c = d := by
  rcases h with ⟨i, rfl, ho, h⟩ | ⟨rfl, h⟩ <;> rcases h' with ⟨j, e, ho', h'⟩ | ⟨rfl, h'⟩
  · have e' : j = i := by omega
    subst e'
    rcases h with ⟨p, rfl, h1, h2, hz⟩ | ⟨rfl, h1⟩ <;> rcases h' with ⟨q, rfl, h4, h5, hy⟩ | ⟨rfl, h4⟩
    · rcases Nat.lt_trichotomy p q with h | h | h
      · have := hy p h; rw [h2] at this; cases this
      · rw [h]
      · have := hz q h; rw [h5] at this; cases this
    · have := h4 p h1; rw [h2] at this; cases this
    · have := h1 q h4; rw [h5] at this; cases this
    · rfl
  · have := h' i rfl; rw [ho] at this; cases this
  · have := h j e; rw [ho'] at this; cases this
  · rfl
/-- A bracket outside: what is behind it is met as at a text's beginning. -/
theorem br_at {s : ByteArray} {a : Nat} (h : brO s a = true) : a < s.size ∧ outS s a = true ∧ opB (byteAt s a) = true := by
  unfold brO at h
  rw [Bool.and_eq_true] at h
  refine ⟨?_, h.1, h.2⟩
  have h1 := h.1
  unfold outS at h1
  rw [Bool.and_eq_true] at h1
  exact of_decide_eq_true h1.1
theorem behind_last {s : ByteArray} {a : Nat} (hz : s.size = a + 1) (h : slash s a = false) (c : Bool) : behindS s c = false := by
  unfold behindS
  rw [hz]
  show (_ && _) = _
  rw [h]
  simp
theorem not_op {x : Nat} (h : opB x = true) : x ≠ 34 ∧ x ≠ 92 := by
  unfold opB at h
  simp only [Bool.or_eq_true, beq_iff_eq] at h
  omega
theorem slash_byte (s : ByteArray) (i : Nat) : slash s i = decide (byteAt s i = 92) := rfl
theorem quo_byte (s : ByteArray) (i : Nat) : quoB s i = decide (byteAt s i = 34) := rfl
theorem byte_ext (s : ByteArray) (a i : Nat) (h : a + i < s.size) : byteAt (s.extract a s.size) i = byteAt s (a + i) := by
  unfold byteAt
  rw [ByteArray.data_extract, Array.getElem?_extract, if_pos (show i < min s.size s.data.size - a from by have e : s.data.size = s.size := rfl; omega)]
theorem ext_size (s : ByteArray) (a : Nat) : (s.extract a s.size).size = s.size - a := by rw [ByteArray.size_extract]; omega
theorem ext_ext (s : ByteArray) (a b : Nat) : (s.extract a s.size).extract b (s.extract a s.size).size = s.extract (a + b) s.size := by
  rw [ext_size]
  apply ByteArray.ext
  rw [ByteArray.data_extract, ByteArray.data_extract, ByteArray.data_extract, Array.extract_extract]
  congr 1
  omega
theorem byte_ext0 (s : ByteArray) (k i : Nat) (hk : k ≤ s.size) (h : i < k) : byteAt (s.extract 0 k) i = byteAt s i := by
  have h2 := byteAt_join (s.extract 0 k) (s.extract k s.size) i
  rw [cut_join s k, if_pos (by rw [cut_size s k hk]; exact h)] at h2
  exact h2.symm
/-- The text from a bracket on. -/
theorem rest_out {s : ByteArray} {a : Nat} (h : brO s a = true) : brO (s.extract a s.size) 0 = true ∧ ∀ i, 0 < i → outS (s.extract a s.size) i = outS s (a + i) := by
  obtain ⟨hlt, ho, hb⟩ := br_at h
  obtain ⟨n34, n92⟩ := not_op hb
  generalize ht : s.extract a s.size = t
  have htz : t.size = s.size - a := by rw [← ht]; exact ext_size s a
  have hb0 : byteAt t 0 = byteAt s a := by rw [← ht]; exact byte_ext s a 0 (by omega)
  have htt := cut_join t 1
  have hb1z := cut_size t 1 (by omega)
  have e1 : byteAt (t.extract 0 1) 0 = byteAt s a := by rw [byte_ext0 t 1 0 (by omega) (by omega), hb0]
  have m1 : markS (t.extract 0 1) 0 = false := by unfold markS; rw [quo_byte, e1, decide_eq_false n34]; rfl
  have be1 : behindS (t.extract 0 1) false = false := behind_last hb1z (by rw [slash_byte, e1, decide_eq_false n92]) false
  have op1 : openS (t.extract 0 1) = false := by unfold openS; rw [hb1z, oddG_succ, m1]; rfl
  have o0 : outS t 0 = true := by
    have := out_first (t.extract 0 1) (t.extract 1 t.size) 0 (by omega)
    rw [htt] at this
    rw [this]
    unfold outS inS
    rw [oddG_succ, m1, hb1z]
    rfl
  have er : t.extract 1 t.size = s.extract (a + 1) s.size := by rw [← ht]; exact ext_ext s a 1
  have hp := cut_join s (a + 1)
  have hpz := cut_size s (a + 1) (by omega)
  have e2 : byteAt (s.extract 0 (a + 1)) a = byteAt s a := byte_ext0 s (a + 1) a (by omega) (by omega)
  have be2 : behindS (s.extract 0 (a + 1)) false = false := behind_last hpz (by rw [slash_byte, e2, decide_eq_false n92]) false
  have op2 : openS (s.extract 0 (a + 1)) = false := by
    unfold openS
    rw [hpz]
    show inS _ a = false
    have := in_first8 (s.extract 0 (a + 1)) (s.extract (a + 1) s.size) a (by omega)
    rw [hp] at this
    rw [← this]
    unfold outS at ho
    cases hi : inS s a
    · rfl
    · rw [hi] at ho; simp at ho
  refine ⟨?_, fun i hi => ?_⟩
  · unfold brO; rw [o0, hb0, hb]; rfl
  · have h1 := out_second (s := t.extract 0 1) (t := t.extract 1 t.size) be1 op1 (i - 1)
    have h2 := out_second (s := s.extract 0 (a + 1)) (t := s.extract (a + 1) s.size) be2 op2 (i - 1)
    rw [htt, hb1z, er, show 1 + (i - 1) = i by omega] at h1
    rw [hp, hpz, show a + 1 + (i - 1) = a + i by omega] at h2
    rw [h1, h2]
theorem rest_br {s : ByteArray} {a : Nat} (h : brO s a = true) (i : Nat) : brO (s.extract a s.size) i = brO s (a + i) ∧ brC (s.extract a s.size) i = brC s (a + i) := by
  cases i with
  | zero => exact ⟨by rw [(rest_out h).1]; exact h.symm, by rw [brO_brC (rest_out h).1]; exact (brO_brC h).symm⟩
  | succ i =>
    by_cases hl : a + (i + 1) < s.size
    · unfold brO brC
      rw [(rest_out h).2 (i + 1) (by omega), byte_ext s a (i + 1) hl]
      exact ⟨rfl, rfl⟩
    · rw [brO_out (by rw [ext_size]; omega), brC_out (by rw [ext_size]; omega), brO_out (by omega), brC_out (by omega)]
      exact ⟨rfl, rfl⟩
/-- Is the place i of what begins at the bracket where it is closed? -/
def endP (t : ByteArray) (i : Nat) : Bool := brC t i && decide (depS t i = 1)
theorem rest_dep {s : ByteArray} {a : Nat} (h : brO s a = true) (j : Nat) (hz : ∀ i, i < j + 1 → endP (s.extract a s.size) i = false) :
    depS s (a + (j + 1)) = depS s a + depS (s.extract a s.size) (j + 1) ∧ 1 ≤ depS (s.extract a s.size) (j + 1) := by
  induction j with
  | zero =>
    rw [← Nat.add_assoc, depS_succ, depS_succ, (rest_br h 0).1, show a + 0 = a by omega, h]
    exact ⟨rfl, Nat.le_refl _⟩
  | succ j ih =>
    obtain ⟨h1, h2⟩ := ih (fun i hi => hz i (by omega))
    have h3 := hz (j + 1) (by omega)
    rw [show a + (j + 1 + 1) = (a + (j + 1)) + 1 by omega, depS_succ, depS_succ _ (j + 1), (rest_br h (j + 1)).1, (rest_br h (j + 1)).2, h1]
    unfold endP at h3
    rw [(rest_br h (j + 1)).2] at h3
    generalize depS (s.extract a s.size) (j + 1) = d at *
    unfold stepD
    cases brO s (a + (j + 1))
    · cases hc : brC s (a + (j + 1))
      · exact ⟨rfl, h2⟩
      · rw [hc] at h3
        have hd : d ≠ 1 := by simpa using h3
        simp
        omega
    · simp
      omega
theorem rest_cls {s : ByteArray} {a : Nat} (h : brO s a = true) (i : Nat) (hz : ∀ j, j < i → endP (s.extract a s.size) j = false) : clsP s a (a + i) = endP (s.extract a s.size) i := by
  cases i with
  | zero =>
    unfold clsP endP
    rw [decide_eq_false (by omega), (rest_br h 0).2, show a + 0 = a by omega, brO_brC h]
    rfl
  | succ i =>
    obtain ⟨h1, h2⟩ := rest_dep h i hz
    unfold clsP endP
    rw [decide_eq_true (by omega), (rest_br h (i + 1)).2, h1]
    have e : decide (depS s a + depS (s.extract a s.size) (i + 1) = depS s a + 1) = decide (depS (s.extract a s.size) (i + 1) = 1) := by
      rw [decide_eq_decide]; omega
    rw [e]
    rfl
theorem cls_low (s : ByteArray) (a q : Nat) (h : q ≤ a) : clsP s a q = false := by unfold clsP; rw [decide_eq_false (by omega)]; rfl
/-- Found in what begins at the bracket, found in the whole. -/
theorem cls_found {s : ByteArray} {a i : Nat} (h : brO s a = true) (hl : i < (s.extract a s.size).size) (he : endP (s.extract a s.size) i = true) (hz : ∀ j, j < i → endP (s.extract a s.size) j = false) : IsCls s a ((a + i : Nat) : Int) := by
  refine .inl ⟨a, rfl, h, .inl ⟨a + i, rfl, ?_, ?_, fun q hq => ?_⟩⟩
  · rw [ext_size] at hl; omega
  · rw [rest_cls h i hz, he]
  · by_cases hqa : q ≤ a
    · exact cls_low s a q hqa
    · have := rest_cls h (q - a) (fun j hj => hz j (by omega))
      rw [show a + (q - a) = q by omega] at this
      rw [this]
      exact hz _ (by omega)
theorem cls_none {s : ByteArray} {a : Nat} (h : brO s a = true) (hz : ∀ j, j < (s.extract a s.size).size → endP (s.extract a s.size) j = false) : IsCls s a (-1) := by
  refine .inl ⟨a, rfl, h, .inr ⟨rfl, fun q hq => ?_⟩⟩
  rw [ext_size] at hz
  by_cases hqa : q ≤ a
  · exact cls_low s a q hqa
  · have := rest_cls h (q - a) (fun j hj => hz j (by omega))
    rw [show a + (q - a) = q by omega] at this
    rw [this]
    exact hz _ (by omega)
end Go.Proofs.YtomeaejjdjidlaaDoor

/-
  What levels.walk does with a function that is handed to it.
-/
namespace Go.Proofs.YtomeaejjdjidlaaDoor
open Go.RowKit Go.Shelf

theorem byteAt_num (s : ByteArray) (i : Nat) (h : i < s.size) : (((s[i]'h).toNat : Nat) : Int) = ((byteAt s i : Nat) : Int) := by rw [byteAt_eq]
theorem op_dec (x : Nat) : (decide ((x : Int) = 123) || decide ((x : Int) = 91)) = opB x := by
  unfold opB; rw [Bool.eq_iff_iff]; simp; omega
theorem cl_dec (x : Nat) : (decide ((x : Int) = 125) || decide ((x : Int) = 93)) = clB x := by
  unfold clB; rw [Bool.eq_iff_iff]; simp; omega
theorem opens_calls (x : Nat) (O : Bool) (hO : Hid (opB x = O)) (w : World) : Calls Tryd.prog 62 #[.int .u8 (x : Int)] w fun e w' => e = .returned (.bool O) ∧ w' = w := by
  have h := hO.out
  go_enter Tryd.func62, Tryd.ntmps62
  by_cases h1 : x = 123
  · subst h1
    have : O = true := by rw [← h]; rfl
    subst this
    go_wp2
    go_ret
    exact ⟨rfl, rfl⟩
  · by_cases h2 : x = 91
    · subst h2
      have : O = true := by rw [← h]; rfl
      subst this
      go_wp2
      go_ret
      exact ⟨rfl, rfl⟩
    · have e1 : ((x : Int) == 123) = false := by simp; omega
      have e2 : ((x : Int) == 91) = false := by simp; omega
      have : O = false := by rw [← h]; unfold opB; simp [h1, h2]
      subst this
      clear h
      go_wp2
      go_ret
      exact ⟨rfl, rfl⟩
theorem closes_calls (x : Nat) (O : Bool) (hO : Hid (clB x = O)) (w : World) : Calls Tryd.prog 65 #[.int .u8 (x : Int)] w fun e w' => e = .returned (.bool O) ∧ w' = w := by
  have h := hO.out
  go_enter Tryd.func65, Tryd.ntmps65
  by_cases h1 : x = 125
  · subst h1
    have : O = true := by rw [← h]; rfl
    subst this
    go_wp2
    go_ret
    exact ⟨rfl, rfl⟩
  · by_cases h2 : x = 93
    · subst h2
      have : O = true := by rw [← h]; rfl
      subst this
      go_wp2
      go_ret
      exact ⟨rfl, rfl⟩
    · have e1 : ((x : Int) == 125) = false := by simp; omega
      have e2 : ((x : Int) == 93) = false := by simp; omega
      have : O = false := by rw [← h]; unfold clB; simp [h1, h2]
      subst this
      clear h
      go_wp2
      go_ret
      exact ⟨rfl, rfl⟩

set_option maxRecDepth 10000 in
set_option maxHeartbeats 4000000 in
theorem walk_calls (s : ByteArray) (hs : s.size ≤ 1099511627776) (g : Nat) (cap : Array Value) (J Jx : World → Nat → World → Prop) (w : World) (hT : Tab w) (hM : TabM w) (h0 : 1 < w.heap.size)
    (he : ∀ (args : Array Value) (w : World), (callFunc g args).run Tryd.prog w = .ok (.enter g args) w)
    (hJ0 : Hid (∀ w1, Below w.heap.size w w1 → J w1 0 w1))
    (hsk : Hid (∀ w1 i wx, begS s i = false → J w1 i wx → J w1 (i + 1) wx))
    (hk : Hid (∀ w1 i wx (p : Addr), J w1 i wx → w.heap.size ≤ p.block → p.block < w1.heap.size → wx.cell? p = w1.cell? p))
    (hp : Hid (∀ w1 i wx (d : Nat), Below w.heap.size w w1 → i < s.size → begS s i = true → depS s i = d → J w1 i wx → Calls Tryd.prog g (#[.int .i64 (i : Int), .int .i64 (d : Int)] ++ cap) wx fun e w' => (e = .returned (.bool true) ∧ J w1 (i + 1) w') ∨ (e = .returned (.bool false) ∧ Jx w1 i w'))) :
    Calls Tryd.prog 43 #[.string s, .func (.func g) #[] cap] w fun e w' => ∃ w1, Below w.heap.size w w1 ∧ ((e = .returned (.int .i64 ((depS s s.size : Nat) : Int)) ∧ J w1 s.size w') ∨ ∃ i, i < s.size ∧ e = .returned (.int .i64 ((depS s i : Nat) : Int)) ∧ Jx w1 i w') := by
  have hix := hid (index8_calls s hs w hT hM h0)
  have hdl := hid (depS_le s)
  have hsz : Hid (s.size ≤ 1099511627776) := hs
  clear hT hM h0 hs
  go_enter Tryd.func43, Tryd.ntmps43
  go_wp2_with fail
  refine Calls.mono hix.out ?_
  rintro e w1 ⟨v, rfl, hown, hb1⟩
  obtain ⟨ao, cap1, rfl, hcs⟩ := lst_of_row hown
  have hb1' := hid hb1
  have hcs' := hid hcs
  obtain ⟨n, hn⟩ : ∃ n, Hid ((idxS s).length = n) := ⟨_, rfl⟩
  have hnl : n ≤ 1099511627776 := by
    rw [← hn.out]
    unfold idxS idxTo
    have := List.length_filter_le (begS s) (List.range s.size)
    rw [List.length_range] at this
    exact Nat.le_trans this hsz.out
  rw [hn.out]
  clear hown hb1 hcs hix
  have hst : Hid (J w1 (ipl s 0) w1) := ipl_skip (P := fun i => J w1 i w1) (Nat.zero_le _) (fun i _ h => ipl_zero h) (fun i hb h => hsk.out w1 i w1 hb h) (hJ0.out w1 hb1'.out)
  go_wp2
  go_loopw [5, 11] (fun dd ii wr => ∃ k : Nat, k ≤ n ∧ ii = .int .i64 (k : Int) ∧ dd = .int .i64 ((depS s (ipl s k) : Nat) : Int) ∧ Hid (J w1 (ipl s k) wr)) (fun _ ii _ => n - (intOf ii).toNat)
  case atStart => exact ⟨0, Nat.zero_le _, rfl, by rw [ipl_dep0]; rfl, hst⟩
  case round =>
    obtain ⟨k, hkn, rfl, rfl, hj⟩ := hrel
    by_cases hlt : k < n
    · have hli : (k : Int) < (n : Int) := by omega
      have hnk : (n : Int) ≤ 1099511627776 := by omega
      obtain ⟨p, hpk⟩ : ∃ p, (idxS s)[k]? = some p := ⟨_, List.getElem?_eq_getElem (by rw [hn.out]; exact hlt)⟩
      obtain ⟨gg, rfl, hg1, hg2, cg⟩ := hcs'.out k p hpk
      obtain ⟨hps, hpb⟩ := idxS_mem.1 (List.mem_of_getElem? hpk)
      rw [ipl_at hpk] at hj ⊢
      have s1 := (hk.out w1 p wr ⟨gg, k, none⟩ hj.out hg1 hg2).trans cg
      have hpi : (p : Int) < (s.size : Int) := by omega
      have hps' := hid hps
      have hpb' := hid hpb
      have hpk' := hid hpk
      obtain ⟨d, hd⟩ : ∃ d, Hid (depS s p = d) := ⟨_, rfl⟩
      have hdz : d ≤ 1099511627776 := by have h1 := hdl.out p; have h2 := hsz.out; rw [hd.out] at h1; omega
      rw [hd.out]
      have hxx := byteAt_num s p hps
      obtain ⟨x, hx⟩ : ∃ x, Hid (byteAt s p = x) := ⟨_, rfl⟩
      have hx256 : x < 256 := by rw [← hx.out]; unfold byteAt; exact UInt8.toNat_lt _
      rw [hx.out] at hxx
      obtain ⟨O, hO⟩ : ∃ O, Hid (opB x = O) := ⟨_, rfl⟩
      obtain ⟨C, hC⟩ : ∃ C, Hid (clB x = C) := ⟨_, rfl⟩
      have hnx : Hid (depS s (ipl s (k + 1)) = stepD O C d) := by show _ = _; rw [ipl_dep hpk, hx.out, hO.out, hC.out, hd.out]
      have hjn : Hid (∀ w2, J w1 (p + 1) w2 → J w1 (ipl s (k + 1)) w2) := fun w2 h2 => ipl_skip (P := fun i => J w1 i w2) (ipl_up hpk) (fun i h1 h3 => ipl_next hpk (by omega) h3) (fun i hb h => hsk.out w1 i w2 hb h) h2
      clear cg hpb hpk
      go_wp2_with fail
      refine Calls.mono (hp.out w1 p wr d hb1'.out hps'.out hpb'.out hd.out hj.out) ?_
      rintro e w2 (⟨rfl, h2⟩ | ⟨rfl, h2⟩)
      · have h3 := hid (hjn.out w2 h2)
        clear h2 hj
        go_wp2_with fail
        refine Calls.mono (opens_calls x O hO _) ?_
        rintro e w3 ⟨rfl, rfl⟩
        cases O
        · go_wp2_with fail
          refine Calls.mono (closes_calls x C hC _) ?_
          rintro e w4 ⟨rfl, rfl⟩
          cases C
          · go_wp2
            go_roundw
            case rel => exact ⟨k + 1, by omega, by go_num, by rw [hnx.out]; rfl, h3⟩
            case measure => simp [intOf]; omega
          · by_cases hd0 : 0 < d
            · have hdi : (0 : Int) < (d : Int) := by omega
              go_wp2
              go_roundw
              case rel => exact ⟨k + 1, by omega, by go_num, by rw [hnx.out]; simp [stepD]; omega, h3⟩
              case measure => simp [intOf]; omega
            · have hdi : d = 0 := by omega
              subst hdi
              go_wp2
              go_roundw
              case rel => exact ⟨k + 1, by omega, by go_num, by rw [hnx.out]; rfl, h3⟩
              case measure => simp [intOf]; omega
        · go_wp2
          go_roundw
          case rel => exact ⟨k + 1, by omega, by go_num, by rw [hnx.out]; simp [stepD], h3⟩
          case measure => simp [intOf]; omega
      · have h2' := hid h2
        clear h2
        go_wp2
        go_ret
        exact ⟨w1, hb1'.out, .inr ⟨p, hps'.out, by rw [hd.out]; rfl, h2'.out⟩⟩
    · have hk' : k = n := by omega
      subst hk'
      have hpe : ipl s k = s.size := ipl_end (by rw [hn.out]; exact Nat.le_refl _)
      rw [hpe] at hj ⊢
      go_wp2
      go_ret
      exact ⟨w1, hb1'.out, .inl ⟨rfl, hj.out⟩⟩
end Go.Proofs.YtomeaejjdjidlaaDoor

/-
  What levels.rows and levels.set do: rows of bits, one behind another.
-/
namespace Go.Proofs.YtomeaejjdjidlaaDoor
open Go.RowKit Go.Shelf

/-- The worlds are the same but for one block, and blocks laid since. -/
def But (g : Nat) (w w' : World) : Prop := Below 0 w w' ∧ ∀ b, b < w.heap.size → b ≠ g → w'.heap[b]? = w.heap[b]?
theorem But.at {g : Nat} {w w' : World} (h : But g w w') {b : Nat} {cs : Array Value} {t : TypeId} (ha : At w b cs t) (hb : b ≠ g) : At w' b cs t := (h.2 b ha.lt hb).trans ha
theorem But.cell {g : Nat} {w w' : World} (h : But g w w') {p : Addr} (hp : p.block < w.heap.size) (hb : p.block ≠ g) : w'.cell? p = w.cell? p := by
  unfold World.cell?
  rw [h.2 _ hp hb]
theorem But.below {g n : Nat} {w w' w0 : World} (h : But g w w') (h0 : Below n w0 w) (hn : n ≤ w.heap.size) (hg : n ≤ g) : Below n w0 w' := by
  refine ⟨h.1.os.trans h0.os, h.1.tape.trans h0.tape, h.1.output.trans h0.output, Nat.le_trans h0.size h.1.size, fun b hb => ?_⟩
  refine Eq.trans ?_ (h0.block b hb)
  by_cases hbw : b < w.heap.size
  · exact h.2 b hbw (by omega)
  · exact absurd (Nat.lt_of_lt_of_le hb hn) hbw
/-- The cells of a list of m rows of n bits, the first k of which are laid in the blocks behind it. -/
def lvC (m n A k : Nat) : Array Value := ((List.range (m * 2)).map fun j => if j / 2 < k then (if j % 2 = 0 then Value.int .i64 (n : Int) else .slice (some ⟨A + 1 + j / 2, 0, none⟩) (need n) (need n)) else (if j % 2 = 0 then Value.int .i64 0 else .slice none 0 0)).toArray
theorem lvC_size (m n A k : Nat) : (lvC m n A k).size = m * 2 := by simp [lvC]
theorem lvC_get {m n A k j : Nat} (h : j < m * 2) : (lvC m n A k)[j]? = some (if j / 2 < k then (if j % 2 = 0 then Value.int .i64 (n : Int) else .slice (some ⟨A + 1 + j / 2, 0, none⟩) (need n) (need n)) else (if j % 2 = 0 then Value.int .i64 0 else .slice none 0 0)) := by simp [lvC, h]
theorem lvC_made (m n A : Nat) : madeCells #[.int .i64 0, .slice none 0 0] (m * 2) = lvC m n A 0 := by
  apply Array.ext_getElem?
  intro i
  by_cases hi : i < m * 2
  · rw [lvC_get hi, if_neg (by omega)]
    have h5 : i % 2 < 2 := Nat.mod_lt _ (by decide)
    simp only [madeCells, Array.getElem?_map, Array.getElem?_range, hi, ↓reduceIte, Option.map_some, List.size_toArray, List.length_cons, List.length_nil]
    show some ((#[Value.int .i64 0, .slice none 0 0])[i % 2]!) = _
    generalize i % 2 = r at *
    obtain rfl | rfl : r = 0 ∨ r = 1 := by omega
    all_goals rfl
  · rw [Array.getElem?_eq_none (by simp [madeCells]; omega), Array.getElem?_eq_none (by rw [lvC_size]; omega)]
theorem lvC_set {m n A k : Nat} (hk : k < m) : ((lvC m n A k).setIfInBounds (k * 2) (.int .i64 (n : Int))).setIfInBounds (k * 2 + 1) (.slice (some ⟨A + 1 + k, 0, none⟩) (need n) (need n)) = lvC m n A (k + 1) := by
  apply Array.ext_getElem?
  intro i
  rw [Array.getElem?_setIfInBounds, Array.getElem?_setIfInBounds, Array.size_setIfInBounds, lvC_size]
  by_cases hi : i < m * 2
  · rw [lvC_get hi, lvC_get hi]
    by_cases h1 : k * 2 + 1 = i
    · subst h1
      rw [if_pos rfl, if_pos (by omega), if_pos (by omega), if_neg (by omega), show (k * 2 + 1) / 2 = k by omega]
    · rw [if_neg h1]
      by_cases h2 : k * 2 = i
      · subst h2
        rw [if_pos rfl, if_pos (by omega), if_pos (by omega), if_pos (by omega)]
      · rw [if_neg h2]
        by_cases h3 : i / 2 < k
        · rw [if_pos h3, if_pos (show i / 2 < k + 1 by omega)]
        · rw [if_neg h3, if_neg (show ¬ i / 2 < k + 1 by omega)]
  · rw [if_neg (by omega), if_neg (by omega), Array.getElem?_eq_none (by rw [lvC_size]; omega), Array.getElem?_eq_none (by rw [lvC_size]; omega)]
theorem infoLv : (Tryd.prog.info? 34).map (fun i => (i.zero, i.size, i.bytes)) = some (some (.agg #[.int .i64 0, .slice none 0 0]), 2, 32) := by kernel_rfl
theorem make_lv (m n A : Nat) (hK : m ≤ 64) (u : World) : (Instr.makeSlice 45 (.int .i64 (m : Int)) (.int .i64 (m : Int))).run Tryd.prog u =
    .ok (.slice (some ⟨u.heap.size, 0, none⟩) m m) (u.alloc (.cells (lvC m n A 0) 34)) := by
  obtain ⟨i0, hi, hz0, hz1, hz2⟩ := info_parts infoLv
  have h := run_make (P := Tryd.prog) u 45 34 i0 (.agg #[.int .i64 0, .slice none 0 0]) Tryd.underlying45 hi hz0 .i64 .i64 (m : Int) (m : Int) (by omega) (Int.le_refl _) (by rw [hz2]; omega) (by omega)
  rw [Int.toNat_natCast] at h
  rw [h, ← lvC_made]
  simp [hz1, Value.cells]
/-- m rows of n bits: the list in the block A, the rows behind it. -/
def LvAt (W : World) (A m n : Nat) (F : Nat → Nat → Nat) : Prop := At W A (lvC m n A m) 34 ∧ ∀ k, k < m → At W (A + 1 + k) (rowCells (need n) (F k)) 22

set_option maxRecDepth 10000 in
set_option maxHeartbeats 2000000 in
theorem rows_calls (m n : Nat) (hm : m ≤ 64) (hn : n ≤ 1099511627776) (w : World) :
    Calls Tryd.prog 42 #[.int .i64 (m : Int), .int .i64 (n : Int)] w fun e w' => e = .returned (.slice (some ⟨w.heap.size, 0, none⟩) m m) ∧ LvAt w' w.heap.size m n (fun _ _ => 0) ∧ w'.heap.size = w.heap.size + 1 + m ∧ Below w.heap.size w w' := by
  have hmk := fun u => make_lv m n w.heap.size hm u
  obtain ⟨K, hK⟩ : ∃ K, Hid (need n = K) := ⟨_, rfl⟩
  have hKl : K ≤ 17592186044416 := by have := hK.out; unfold need at this; omega
  have hmk2 := fun u => make_row K hKl u
  have hq : ((n : Int) + 63) / 64 = (K : Int) := by have := hK.out; unfold need at this; omega
  have hqn : (n + 63) / 64 = K := hK.out
  have hm' : (m : Int) ≤ 64 := by omega
  have hn' : (n : Int) ≤ 1099511627776 := by omega
  go_enter Tryd.func42, Tryd.ntmps42
  go_wp2
  go_loopw [11] (fun ii wr => ∃ k : Nat, k ≤ m ∧ ii = .int .i64 (k : Int) ∧ Hid (At wr w.heap.size (lvC m n w.heap.size k) 34) ∧ Hid (∀ j, j < k → At wr (w.heap.size + 1 + j) (rowCells K (fun _ => 0)) 22) ∧ Hid (wr.heap.size = w.heap.size + 1 + k) ∧ Below w.heap.size w wr) (fun ii _ => m - (intOf ii).toNat)
  case atStart => exact ⟨0, Nat.zero_le _, rfl, hid (At.new w _ _), fun j hj => by omega, by show _ = _; simp, by repeat (first | with_reducible exact Below.refl _ _ | with_reducible refine Below.setCell ?_ (by first | (simp; done) | (simp; omega)) _ | with_reducible refine below_drewN ?_ _ | with_reducible refine Below.alloc ?_ (by first | (simp; done) | (simp; omega)) _ | with_reducible refine Below.drew ?_)⟩
  case round =>
    obtain ⟨k, hk, rfl, ha, hr, hz, hb⟩ := hrel
    by_cases hlt : k < m
    · have hli : (k : Int) < (m : Int) := by omega
      have ha2 := hid ha.out
      have c0 := ha2.out.cell (k * 2)
      have c1 := ha2.out.cell (k * 2 + 1)
      rw [lvC_get (by omega), if_neg (show ¬ k * 2 / 2 < k by omega), if_pos (show k * 2 % 2 = 0 by omega)] at c0
      rw [lvC_get (by omega), if_neg (show ¬ (k * 2 + 1) / 2 < k by omega), if_neg (show ¬ (k * 2 + 1) % 2 = 0 by omega)] at c1
      have f0 := ha2.out.frozen (k * 2)
      have f1 := ha2.out.frozen (k * 2 + 1)
      have hsz : w.heap.size < wr.heap.size := by have := hz.out; omega
      go_wp2
      go_roundw
      case rel =>
        refine ⟨k + 1, by omega, by go_num, ?_, ?_, ?_, ?_⟩
        · have h1 := ((ha.out.set (k * 2) (.int .i64 (n : Int))).set (k * 2 + 1) (.slice (some ⟨w.heap.size + 1 + k, 0, none⟩) K K)).alloc (.cells (rowCells K fun _ => 0) 22)
          rw [← hK.out, lvC_set hlt, hK.out] at h1
          show At _ _ _ _
          rw [hz.out]
          exact h1
        · intro j hj
          by_cases hjk : j < k
          · exact (((hr.out j hjk).other (p := ⟨w.heap.size, k * 2, none⟩) (by show w.heap.size + 1 + j ≠ w.heap.size; omega) _).other (p := ⟨w.heap.size, k * 2 + 1, none⟩) (by show w.heap.size + 1 + j ≠ w.heap.size; omega) _).alloc _
          · have h1 := At.new ((wr.setCell ⟨w.heap.size, k * 2, none⟩ (.int .i64 (n : Int))).setCell ⟨w.heap.size, k * 2 + 1, none⟩ (.slice (some ⟨wr.heap.size, 0, none⟩) K K)) (rowCells K fun _ => 0) 22
            rw [World.size_setCell, World.size_setCell] at h1
            have e : w.heap.size + 1 + j = wr.heap.size := by have := hz.out; omega
            rw [e]
            exact h1
        · show _ = _
          rw [World.size_alloc, World.size_setCell, World.size_setCell, hz.out]
          omega
        · exact ((hb.setCell (p := ⟨w.heap.size, k * 2, none⟩) (Nat.le_refl _) _).setCell (p := ⟨w.heap.size, k * 2 + 1, none⟩) (Nat.le_refl _) _).alloc (by rw [World.size_setCell, World.size_setCell]; exact hb.size) _
      case measure => simp [intOf]; omega
    · have hk' : k = m := by omega
      subst hk'
      go_wp2
      go_ret
      exact ⟨rfl, ⟨ha.out, fun j hj => by rw [hK.out]; exact hr.out j hj⟩, hz.out, hb⟩

set_option maxRecDepth 10000 in
set_option maxHeartbeats 2000000 in
theorem set_calls (n : Int) (g K i : Nat) (Y : Nat → Nat) (hK : i / 64 < K) (hK2 : K ≤ 17592186044416) (hY : Y (i / 64) < 18446744073709551616) (w : World) (hA : At w g (rowCells K Y) 22) :
    Calls Tryd.prog 45 #[bv n (some ⟨g, 0, none⟩) K K, .int .i64 (i : Int)] w fun e w' => e = .returned (.tuple #[]) ∧ At w' g (rowCells K (fun j => if j = i / 64 then Y (i / 64) ||| 2 ^ (i % 64) else Y j)) 22 ∧ But g w w' := by
  obtain ⟨J, hJ⟩ : ∃ J, Hid (i / 64 = J) := ⟨_, rfl⟩
  obtain ⟨R, hR⟩ : ∃ R, Hid (i % 64 = R) := ⟨_, rfl⟩
  have hR64 : R < 64 := by have := hR.out; omega
  have e2 : (i : Int) / 64 = (J : Int) := by have := hJ.out; omega
  have e3 : (i : Int) % 64 = (R : Int) := by have := hR.out; omega
  have hil : i < 1125899906842624 := by omega
  rw [hJ.out, hR.out]
  rw [hJ.out] at hK hY
  obtain ⟨y, hy⟩ : ∃ y, Hid (Y J = y) := ⟨_, rfl⟩
  rw [hy.out] at hY ⊢
  have d2 := (hA.alloc (.cells #[.int .i64 n, .slice (some ⟨g, 0, none⟩) K K] 34)).cell J
  rw [rowCells_get _ hK, hy.out] at d2
  have f2 := (hA.alloc (.cells #[.int .i64 n, .slice (some ⟨g, 0, none⟩) K K] 34)).frozen J
  have e4 := or_pow hY hR64
  have hg := hA.lt
  have hA' := hid hA
  clear hA
  go_enter Tryd.func45, Tryd.ntmps45
  go_wp2
  go_region
  all_goals go_wp2
  all_goals go_end0
  all_goals (
    refine ⟨rfl, ?_, ?_, ?_⟩
    · have h1 := hA'.out.set J (.int .u64 ((y ||| 2 ^ R : Nat) : Int))
      rw [rowCells_set] at h1
      exact (h1.alloc _)
    · exact ((Below.refl 0 w).setCell (Nat.zero_le _) _).alloc (Nat.zero_le _) _ |>.drew
    · intro b hb hne
      exact (Below.heap_alloc _ _ b (by simpa using hb)).trans (Below.heap_setCell w ⟨g, J, none⟩ _ b hne))
end Go.Proofs.YtomeaejjdjidlaaDoor
