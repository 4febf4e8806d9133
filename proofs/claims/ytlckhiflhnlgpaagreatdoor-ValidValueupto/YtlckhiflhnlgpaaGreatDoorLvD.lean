/-
  LvA, LvB, LvC, one behind the other.
-/
import Derived.Test.YtlckhiflhnlgpaaGreatDoorMarkMath
import Derived.Test.YtlckhiflhnlgpaaGreatDoorMkA
import Derived.Test.YtlckhiflhnlgpaaGreatDoorMkIndex
import Derived.Test.YtlckhiflhnlgpaaGreatDoorBitsF
import Derived.Deep.DeepCutAuto
import Derived.Deep.RegionHeld
/- LevMath, LvWalk, LvRows. -/
/-
  Of no program: how deep the places of a text lie; where a bracket is closed.
-/
namespace Go.Proofs.YtlckhiflhnlgpaaGreatDoor

/-- Is the byte a bracket that opens, that closes, wherever it stands? -/
def opB (x : Nat) : Bool := x == 123 || x == 91
def clB (x : Nat) : Bool := x == 125 || x == 93
/-- Does an opening bracket, a closing one, stand there, outside? -/
def brO (s : ByteArray) (i : Nat) : Bool := outS s i && opB (byteAt s i)
def brC (s : ByteArray) (i : Nat) : Bool := outS s i && clB (byteAt s i)
/-- The depth behind a byte, by the one ahead of it. -/
def stepD (o c : Bool) (d : Nat) : Nat := if o then d + 1 else if c then d - 1 else d
/-- The depth ahead of the place. -/
def depS (s : ByteArray) : Nat → Nat
  | 0 => 0
  | i + 1 => stepD (brO s i) (brC s i) (depS s i)
theorem depS_succ (s : ByteArray) (i : Nat) : depS s (i + 1) = stepD (brO s i) (brC s i) (depS s i) := rfl
theorem op_cl {x : Nat} (h : opB x = true) : clB x = false := by
  unfold opB at h
  unfold clB
  simp only [Bool.or_eq_true, beq_iff_eq] at h
  rcases h with h | h <;> subst h <;> rfl
theorem brO_brC {s : ByteArray} {i : Nat} (h : brO s i = true) : brC s i = false := by
  unfold brO at h
  unfold brC
  rw [Bool.and_eq_true] at h
  rw [op_cl h.2, Bool.and_false]
theorem stepD_le (o c : Bool) (d : Nat) : stepD o c d ≤ d + 1 := by unfold stepD; split <;> (try split) <;> omega
theorem depS_le (s : ByteArray) (i : Nat) : depS s i ≤ i := by
  induction i with
  | zero => exact Nat.le_refl _
  | succ i ih => rw [depS_succ]; have := stepD_le (brO s i) (brC s i) (depS s i); omega
theorem brO_out {s : ByteArray} {i : Nat} (h : s.size ≤ i) : brO s i = false := by unfold brO; rw [outS_out h]; rfl
theorem brC_out {s : ByteArray} {i : Nat} (h : s.size ≤ i) : brC s i = false := by unfold brC; rw [outS_out h]; rfl
/-! At a place at which something begins the byte itself tells. -/
theorem beg_sgn {s : ByteArray} {i : Nat} (h : sgnB s i = true) : begS s i = outS s i := by
  have hm : markS s i = true → sgnB s i = false := fun hm => by
    unfold markS quoB at hm
    rw [Bool.and_eq_true] at hm
    have h34 : byteAt s i = 34 := of_decide_eq_true hm.1
    unfold sgnB
    rw [h34]; rfl
  unfold begS strS wordS
  rw [h]
  cases hk : markS s i
  · simp
  · rw [hm hk] at h; cases h
theorem sgn_op {s : ByteArray} {i : Nat} (h : opB (byteAt s i) = true) : sgnB s i = true := by
  unfold opB at h
  unfold sgnB
  generalize byteAt s i = x at h ⊢
  simp only [Bool.or_eq_true, beq_iff_eq] at h
  rcases h with h | h <;> subst h <;> rfl
theorem sgn_cl {s : ByteArray} {i : Nat} (h : clB (byteAt s i) = true) : sgnB s i = true := by
  unfold clB at h
  unfold sgnB
  generalize byteAt s i = x at h ⊢
  simp only [Bool.or_eq_true, beq_iff_eq] at h
  rcases h with h | h <;> subst h <;> rfl
theorem beg_op {s : ByteArray} {i : Nat} (h : begS s i = true) : brO s i = opB (byteAt s i) := by
  unfold brO
  cases ho : opB (byteAt s i)
  · rw [Bool.and_false]
  · rw [← beg_sgn (sgn_op ho), h]; rfl
theorem beg_cl {s : ByteArray} {i : Nat} (h : begS s i = true) : brC s i = clB (byteAt s i) := by
  unfold brC
  cases ho : clB (byteAt s i)
  · rw [Bool.and_false]
  · rw [← beg_sgn (sgn_cl ho), h]; rfl
theorem nbeg_op {s : ByteArray} {i : Nat} (h : begS s i = false) : brO s i = false := by
  unfold brO
  cases ho : opB (byteAt s i)
  · rw [Bool.and_false]
  · rw [← beg_sgn (sgn_op ho), h]; rfl
theorem nbeg_cl {s : ByteArray} {i : Nat} (h : begS s i = false) : brC s i = false := by
  unfold brC
  cases ho : clB (byteAt s i)
  · rw [Bool.and_false]
  · rw [← beg_sgn (sgn_cl ho), h]; rfl
theorem nbeg_dep {s : ByteArray} {i : Nat} (h : begS s i = false) : depS s (i + 1) = depS s i := by rw [depS_succ, nbeg_op h, nbeg_cl h]; rfl
theorem beg_dep {s : ByteArray} {i : Nat} (h : begS s i = true) : depS s (i + 1) = stepD (opB (byteAt s i)) (clB (byteAt s i)) (depS s i) := by rw [depS_succ, beg_op h, beg_cl h]

/-! The places at which something begins, one after another. -/
def ipl (s : ByteArray) (k : Nat) : Nat := (idxS s)[k]?.getD s.size
theorem idxS_mem {s : ByteArray} {p : Nat} : p ∈ idxS s ↔ p < s.size ∧ begS s p = true := by
  unfold idxS idxTo; rw [List.mem_filter, List.mem_range]
theorem idxS_pw (s : ByteArray) : (idxS s).Pairwise (· < ·) := by unfold idxS idxTo; exact List.Pairwise.filter _ List.pairwise_lt_range
theorem idxS_lt {s : ByteArray} {i j p q : Nat} (h : i < j) (hp : (idxS s)[i]? = some p) (hq : (idxS s)[j]? = some q) : p < q := by
  obtain ⟨hi, rfl⟩ := List.getElem?_eq_some_iff.1 hp
  obtain ⟨hj, rfl⟩ := List.getElem?_eq_some_iff.1 hq
  exact List.pairwise_iff_getElem.1 (idxS_pw s) i j hi hj h
theorem ipl_at {s : ByteArray} {k p : Nat} (h : (idxS s)[k]? = some p) : ipl s k = p := by unfold ipl; rw [h]; rfl
theorem ipl_end {s : ByteArray} {k : Nat} (h : (idxS s).length ≤ k) : ipl s k = s.size := by unfold ipl; rw [List.getElem?_eq_none h]; rfl
theorem ipl_le (s : ByteArray) (k : Nat) : ipl s k ≤ s.size := by
  unfold ipl
  cases h : (idxS s)[k]? with
  | none => exact Nat.le_refl _
  | some p => exact Nat.le_of_lt (idxS_mem.1 (List.mem_of_getElem? h)).1
theorem ipl_zero {s : ByteArray} {i : Nat} (h : i < ipl s 0) : begS s i = false := by
  cases hb : begS s i
  · rfl
  · have hi : i < s.size := Nat.lt_of_lt_of_le h (ipl_le s 0)
    obtain ⟨j, hj⟩ := List.mem_iff_getElem?.1 (idxS_mem.2 ⟨hi, hb⟩)
    have h0 : ∃ q, (idxS s)[0]? = some q := by
      cases hL : idxS s with
      | nil => rw [hL] at hj; simp at hj
      | cons a l => exact ⟨a, rfl⟩
    obtain ⟨q, hq⟩ := h0
    rw [ipl_at hq] at h
    by_cases hj0 : j = 0
    · rw [hj0, hq] at hj; cases hj; omega
    · have := idxS_lt (by omega) hq hj; omega
theorem ipl_next {s : ByteArray} {k p i : Nat} (hp : (idxS s)[k]? = some p) (h1 : p < i) (h2 : i < ipl s (k + 1)) : begS s i = false := by
  cases hb : begS s i
  · rfl
  · have hi : i < s.size := Nat.lt_of_lt_of_le h2 (ipl_le s (k + 1))
    obtain ⟨j, hj⟩ := List.mem_iff_getElem?.1 (idxS_mem.2 ⟨hi, hb⟩)
    have hkj : k < j := by
      rcases Nat.lt_trichotomy k j with h | h | h
      · exact h
      · subst h; rw [hp] at hj; cases hj; omega
      · have := idxS_lt h hj hp; omega
    have hlt := (List.getElem?_eq_some_iff.1 hj).1
    obtain ⟨q, hq⟩ : ∃ q, (idxS s)[k + 1]? = some q := ⟨_, List.getElem?_eq_getElem (by omega)⟩
    rw [ipl_at hq] at h2
    by_cases he : j = k + 1
    · rw [he, hq] at hj; cases hj; omega
    · have := idxS_lt (show k + 1 < j by omega) hq hj; omega
theorem ipl_up {s : ByteArray} {k p : Nat} (hp : (idxS s)[k]? = some p) : p + 1 ≤ ipl s (k + 1) := by
  unfold ipl
  cases h : (idxS s)[k + 1]? with
  | none => exact (idxS_mem.1 (List.mem_of_getElem? hp)).1
  | some q => exact idxS_lt (by omega) hp h
/-- What holds behind a place, and isn't turned by places at which nothing begins, holds at the next. -/
theorem ipl_skip {s : ByteArray} {P : Nat → Prop} {a b : Nat} (hab : a ≤ b) (hn : ∀ i, a ≤ i → i < b → begS s i = false) (hs : ∀ i, begS s i = false → P i → P (i + 1)) (h : P a) : P b := by
  induction b with
  | zero => rw [show 0 = a by omega]; exact h
  | succ b ih =>
    by_cases he : a = b + 1
    · rw [← he]; exact h
    · exact hs b (hn b (by omega) (by omega)) (ih (by omega) (fun i h1 h2 => hn i h1 (by omega)))
theorem ipl_dep0 (s : ByteArray) : depS s (ipl s 0) = 0 :=
  ipl_skip (P := fun i => depS s i = 0) (Nat.zero_le _) (fun i _ h => ipl_zero h) (fun i hb h => by rw [nbeg_dep hb]; exact h) rfl
theorem ipl_dep {s : ByteArray} {k p : Nat} (hp : (idxS s)[k]? = some p) : depS s (ipl s (k + 1)) = stepD (opB (byteAt s p)) (clB (byteAt s p)) (depS s p) :=
  ipl_skip (P := fun i => depS s i = stepD (opB (byteAt s p)) (clB (byteAt s p)) (depS s p)) (ipl_up hp) (fun i h1 h2 => ipl_next hp (by omega) h2) (fun i hb h => by rw [nbeg_dep hb]; exact h) (beg_dep (idxS_mem.1 (List.mem_of_getElem? hp)).2)

/-! The depth hangs on nothing behind the place. -/
/-! Where a bracket is closed. -/
def clsP (s : ByteArray) (a p : Nat) : Bool := decide (a < p) && (brC s p && decide (depS s p = depS s a + 1))
def IsCls (s : ByteArray) (a : Int) (c : Int) : Prop :=
  (∃ i : Nat, a = i ∧ brO s i = true ∧ ((∃ p : Nat, c = p ∧ p < s.size ∧ clsP s i p = true ∧ ∀ q, q < p → clsP s i q = false) ∨ (c = -1 ∧ ∀ q, q < s.size → clsP s i q = false))) ∨ (c = -1 ∧ ∀ i : Nat, a = i → brO s i = false)
theorem IsCls.uniq {s : ByteArray} {a c d : Int} (h : IsCls s a c) (h' : IsCls s a d) : c = d := by
  rcases h with ⟨i, rfl, ho, h⟩ | ⟨rfl, h⟩ <;> rcases h' with ⟨j, e, ho', h'⟩ | ⟨rfl, h'⟩
  · have e' : j = i := by omega
    subst e'
    rcases h with ⟨p, rfl, h1, h2, hz⟩ | ⟨rfl, h1⟩ <;> rcases h' with ⟨q, rfl, h4, h5, hy⟩ | ⟨rfl, h4⟩
    · rcases Nat.lt_trichotomy p q with h | h | h
      · have := hy p h; rw [h2] at this; cases this
      · rw [h]
      · have := hz q h; rw [h5] at this; cases this
    · have := h4 p h1; rw [h2] at this; cases this
    · have := h1 q h4; rw [h5] at this; cases this
    · rfl
  · have := h' i rfl; rw [ho] at this; cases this
  · have := h j e; rw [ho'] at this; cases this
  · rfl
/-- A bracket outside: what is behind it is met as at a text's beginning. -/
theorem br_at {s : ByteArray} {a : Nat} (h : brO s a = true) : a < s.size ∧ outS s a = true ∧ opB (byteAt s a) = true := by
  unfold brO at h
  rw [Bool.and_eq_true] at h
  refine ⟨?_, h.1, h.2⟩
  have h1 := h.1
  unfold outS at h1
  rw [Bool.and_eq_true] at h1
  exact of_decide_eq_true h1.1
theorem behind_last {s : ByteArray} {a : Nat} (hz : s.size = a + 1) (h : slash s a = false) (c : Bool) : behindS s c = false := by
  unfold behindS
  rw [hz]
  show (_ && _) = _
  rw [h]
  simp
theorem not_op {x : Nat} (h : opB x = true) : x ≠ 34 ∧ x ≠ 92 := by
  unfold opB at h
  simp only [Bool.or_eq_true, beq_iff_eq] at h
  omega
theorem slash_byte (s : ByteArray) (i : Nat) : slash s i = decide (byteAt s i = 92) := rfl
theorem quo_byte (s : ByteArray) (i : Nat) : quoB s i = decide (byteAt s i = 34) := rfl
theorem byte_ext (s : ByteArray) (a i : Nat) (h : a + i < s.size) : byteAt (s.extract a s.size) i = byteAt s (a + i) := by
  unfold byteAt
  rw [ByteArray.data_extract, Array.getElem?_extract, if_pos (show i < min s.size s.data.size - a from by have e : s.data.size = s.size := rfl; omega)]
theorem ext_size (s : ByteArray) (a : Nat) : (s.extract a s.size).size = s.size - a := by rw [ByteArray.size_extract]; omega
theorem ext_ext (s : ByteArray) (a b : Nat) : (s.extract a s.size).extract b (s.extract a s.size).size = s.extract (a + b) s.size := by
  rw [ext_size]
  apply ByteArray.ext
  rw [ByteArray.data_extract, ByteArray.data_extract, ByteArray.data_extract, Array.extract_extract]
  congr 1
  omega
theorem byte_ext0 (s : ByteArray) (k i : Nat) (hk : k ≤ s.size) (h : i < k) : byteAt (s.extract 0 k) i = byteAt s i := by
  have h2 := byteAt_join (s.extract 0 k) (s.extract k s.size) i
  rw [cut_join s k, if_pos (by rw [cut_size s k hk]; exact h)] at h2
  exact h2.symm
/-- The text from a bracket on. -/
theorem rest_out {s : ByteArray} {a : Nat} (h : brO s a = true) : brO (s.extract a s.size) 0 = true ∧ ∀ i, 0 < i → outS (s.extract a s.size) i = outS s (a + i) := by
  obtain ⟨hlt, ho, hb⟩ := br_at h
  obtain ⟨n34, n92⟩ := not_op hb
  generalize ht : s.extract a s.size = t
  have htz : t.size = s.size - a := by rw [← ht]; exact ext_size s a
  have hb0 : byteAt t 0 = byteAt s a := by rw [← ht]; exact byte_ext s a 0 (by omega)
  have htt := cut_join t 1
  have hb1z := cut_size t 1 (by omega)
  have e1 : byteAt (t.extract 0 1) 0 = byteAt s a := by rw [byte_ext0 t 1 0 (by omega) (by omega), hb0]
  have m1 : markS (t.extract 0 1) 0 = false := by unfold markS; rw [quo_byte, e1, decide_eq_false n34]; rfl
  have be1 : behindS (t.extract 0 1) false = false := behind_last hb1z (by rw [slash_byte, e1, decide_eq_false n92]) false
  have op1 : openS (t.extract 0 1) = false := by unfold openS; rw [hb1z, oddG_succ, m1]; rfl
  have o0 : outS t 0 = true := by
    have := out_first (t.extract 0 1) (t.extract 1 t.size) 0 (by omega)
    rw [htt] at this
    rw [this]
    unfold outS inS
    rw [oddG_succ, m1, hb1z]
    rfl
  have er : t.extract 1 t.size = s.extract (a + 1) s.size := by rw [← ht]; exact ext_ext s a 1
  have hp := cut_join s (a + 1)
  have hpz := cut_size s (a + 1) (by omega)
  have e2 : byteAt (s.extract 0 (a + 1)) a = byteAt s a := byte_ext0 s (a + 1) a (by omega) (by omega)
  have be2 : behindS (s.extract 0 (a + 1)) false = false := behind_last hpz (by rw [slash_byte, e2, decide_eq_false n92]) false
  have op2 : openS (s.extract 0 (a + 1)) = false := by
    unfold openS
    rw [hpz]
    show inS _ a = false
    have := in_first8 (s.extract 0 (a + 1)) (s.extract (a + 1) s.size) a (by omega)
    rw [hp] at this
    rw [← this]
    unfold outS at ho
    cases hi : inS s a
    · rfl
    · rw [hi] at ho; simp at ho
  refine ⟨?_, fun i hi => ?_⟩
  · unfold brO; rw [o0, hb0, hb]; rfl
  · have h1 := out_second (s := t.extract 0 1) (t := t.extract 1 t.size) be1 op1 (i - 1)
    have h2 := out_second (s := s.extract 0 (a + 1)) (t := s.extract (a + 1) s.size) be2 op2 (i - 1)
    rw [htt, hb1z, er, show 1 + (i - 1) = i by omega] at h1
    rw [hp, hpz, show a + 1 + (i - 1) = a + i by omega] at h2
    rw [h1, h2]
theorem rest_br {s : ByteArray} {a : Nat} (h : brO s a = true) (i : Nat) : brO (s.extract a s.size) i = brO s (a + i) ∧ brC (s.extract a s.size) i = brC s (a + i) := by
  cases i with
  | zero => exact ⟨by rw [(rest_out h).1]; exact h.symm, by rw [brO_brC (rest_out h).1]; exact (brO_brC h).symm⟩
  | succ i =>
    by_cases hl : a + (i + 1) < s.size
    · unfold brO brC
      rw [(rest_out h).2 (i + 1) (by omega), byte_ext s a (i + 1) hl]
      exact ⟨rfl, rfl⟩
    · rw [brO_out (by rw [ext_size]; omega), brC_out (by rw [ext_size]; omega), brO_out (by omega), brC_out (by omega)]
      exact ⟨rfl, rfl⟩
/-- Is the place i of what begins at the bracket where it is closed? -/
def endP (t : ByteArray) (i : Nat) : Bool := brC t i && decide (depS t i = 1)
theorem rest_dep {s : ByteArray} {a : Nat} (h : brO s a = true) (j : Nat) (hz : ∀ i, i < j + 1 → endP (s.extract a s.size) i = false) :
    depS s (a + (j + 1)) = depS s a + depS (s.extract a s.size) (j + 1) ∧ 1 ≤ depS (s.extract a s.size) (j + 1) := by
  induction j with
  | zero =>
    rw [← Nat.add_assoc, depS_succ, depS_succ, (rest_br h 0).1, show a + 0 = a by omega, h]
    exact ⟨rfl, Nat.le_refl _⟩
  | succ j ih =>
    obtain ⟨h1, h2⟩ := ih (fun i hi => hz i (by omega))
    have h3 := hz (j + 1) (by omega)
    rw [show a + (j + 1 + 1) = (a + (j + 1)) + 1 by omega, depS_succ, depS_succ _ (j + 1), (rest_br h (j + 1)).1, (rest_br h (j + 1)).2, h1]
    unfold endP at h3
    rw [(rest_br h (j + 1)).2] at h3
    generalize depS (s.extract a s.size) (j + 1) = d at *
    unfold stepD
    cases brO s (a + (j + 1))
    · cases hc : brC s (a + (j + 1))
      · exact ⟨rfl, h2⟩
      · rw [hc] at h3
        have hd : d ≠ 1 := by simpa using h3
        simp
        omega
    · simp
      omega
theorem rest_cls {s : ByteArray} {a : Nat} (h : brO s a = true) (i : Nat) (hz : ∀ j, j < i → endP (s.extract a s.size) j = false) : clsP s a (a + i) = endP (s.extract a s.size) i := by
  cases i with
  | zero =>
    unfold clsP endP
    rw [decide_eq_false (by omega), (rest_br h 0).2, show a + 0 = a by omega, brO_brC h]
    rfl
  | succ i =>
    obtain ⟨h1, h2⟩ := rest_dep h i hz
    unfold clsP endP
    rw [decide_eq_true (by omega), (rest_br h (i + 1)).2, h1]
    have e : decide (depS s a + depS (s.extract a s.size) (i + 1) = depS s a + 1) = decide (depS (s.extract a s.size) (i + 1) = 1) := by
      rw [decide_eq_decide]; omega
    rw [e]
    rfl
theorem cls_low (s : ByteArray) (a q : Nat) (h : q ≤ a) : clsP s a q = false := by unfold clsP; rw [decide_eq_false (by omega)]; rfl
/-- Found in what begins at the bracket, found in the whole. -/
theorem cls_found {s : ByteArray} {a i : Nat} (h : brO s a = true) (hl : i < (s.extract a s.size).size) (he : endP (s.extract a s.size) i = true) (hz : ∀ j, j < i → endP (s.extract a s.size) j = false) : IsCls s a ((a + i : Nat) : Int) := by
  refine .inl ⟨a, rfl, h, .inl ⟨a + i, rfl, ?_, ?_, fun q hq => ?_⟩⟩
  · rw [ext_size] at hl; omega
  · rw [rest_cls h i hz, he]
  · by_cases hqa : q ≤ a
    · exact cls_low s a q hqa
    · have := rest_cls h (q - a) (fun j hj => hz j (by omega))
      rw [show a + (q - a) = q by omega] at this
      rw [this]
      exact hz _ (by omega)
theorem cls_none {s : ByteArray} {a : Nat} (h : brO s a = true) (hz : ∀ j, j < (s.extract a s.size).size → endP (s.extract a s.size) j = false) : IsCls s a (-1) := by
  refine .inl ⟨a, rfl, h, .inr ⟨rfl, fun q hq => ?_⟩⟩
  rw [ext_size] at hz
  by_cases hqa : q ≤ a
  · exact cls_low s a q hqa
  · have := rest_cls h (q - a) (fun j hj => hz j (by omega))
    rw [show a + (q - a) = q by omega] at this
    rw [this]
    exact hz _ (by omega)
end Go.Proofs.YtlckhiflhnlgpaaGreatDoor

/-
  What levels.walk does with a function that is handed to it.
-/
namespace Go.Proofs.YtlckhiflhnlgpaaGreatDoor
open Go.RowKit Go.Shelf

theorem byteAt_num (s : ByteArray) (i : Nat) (h : i < s.size) : (((s[i]'h).toNat : Nat) : Int) = ((byteAt s i : Nat) : Int) := by rw [byteAt_eq]
theorem opens_calls (x : Nat) (O : Bool) (hO : Hid (opB x = O)) (w : World) : Calls Tryz.prog 43 #[.int .u8 (x : Int)] w fun e w' => e = .returned (.bool O) ∧ w' = w := by
  have h := hO.out
  go_enter Tryz.func43, Tryz.ntmps43
  by_cases h1 : x = 123
  · subst h1
    have : O = true := by rw [← h]; rfl
    subst this
    go_wp2
    go_ret
    exact ⟨rfl, rfl⟩
  · by_cases h2 : x = 91
    · subst h2
      have : O = true := by rw [← h]; rfl
      subst this
      go_wp2
      go_ret
      exact ⟨rfl, rfl⟩
    · have e1 : ((x : Int) == 123) = false := by simp; omega
      have e2 : ((x : Int) == 91) = false := by simp; omega
      have : O = false := by rw [← h]; unfold opB; simp [h1, h2]
      subst this
      clear h
      go_wp2
      go_ret
      exact ⟨rfl, rfl⟩
theorem closes_calls (x : Nat) (O : Bool) (hO : Hid (clB x = O)) (w : World) : Calls Tryz.prog 45 #[.int .u8 (x : Int)] w fun e w' => e = .returned (.bool O) ∧ w' = w := by
  have h := hO.out
  go_enter Tryz.func45, Tryz.ntmps45
  by_cases h1 : x = 125
  · subst h1
    have : O = true := by rw [← h]; rfl
    subst this
    go_wp2
    go_ret
    exact ⟨rfl, rfl⟩
  · by_cases h2 : x = 93
    · subst h2
      have : O = true := by rw [← h]; rfl
      subst this
      go_wp2
      go_ret
      exact ⟨rfl, rfl⟩
    · have e1 : ((x : Int) == 125) = false := by simp; omega
      have e2 : ((x : Int) == 93) = false := by simp; omega
      have : O = false := by rw [← h]; unfold clB; simp [h1, h2]
      subst this
      clear h
      go_wp2
      go_ret
      exact ⟨rfl, rfl⟩

set_option maxRecDepth 10000 in
set_option maxHeartbeats 4000000 in
theorem walk_calls (s : ByteArray) (hs : s.size ≤ 1099511627776) (g : Nat) (cap : Array Value) (J Jx : World → Nat → World → Prop) (w : World) (hT : Tab w) (hM : TabM w) (h0 : 1 < w.heap.size)
    (he : ∀ (args : Array Value) (w : World), (callFunc g args).run Tryz.prog w = .ok (.enter g args) w)
    (hJ0 : Hid (∀ w1, Below w.heap.size w w1 → J w1 0 w1))
    (hsk : Hid (∀ w1 i wx, begS s i = false → J w1 i wx → J w1 (i + 1) wx))
    (hk : Hid (∀ w1 i wx (p : Addr), J w1 i wx → w.heap.size ≤ p.block → p.block < w1.heap.size → wx.cell? p = w1.cell? p))
    (hp : Hid (∀ w1 i wx (d : Nat), Below w.heap.size w w1 → i < s.size → begS s i = true → depS s i = d → J w1 i wx → Calls Tryz.prog g (#[.int .i64 (i : Int), .int .i64 (d : Int)] ++ cap) wx fun e w' => (e = .returned (.bool true) ∧ J w1 (i + 1) w') ∨ (e = .returned (.bool false) ∧ Jx w1 i w'))) :
    Calls Tryz.prog 33 #[.string s, .func (.func g) #[] cap] w fun e w' => ∃ w1, Below w.heap.size w w1 ∧ ((e = .returned (.int .i64 ((depS s s.size : Nat) : Int)) ∧ J w1 s.size w') ∨ ∃ i, i < s.size ∧ e = .returned (.int .i64 ((depS s i : Nat) : Int)) ∧ Jx w1 i w') := by
  have hix := hid (index8_calls s hs w hT hM h0)
  have hdl := hid (depS_le s)
  have hsz : Hid (s.size ≤ 1099511627776) := hs
  clear hT hM h0 hs
  go_enter Tryz.func33, Tryz.ntmps33
  go_wp2_with fail
  refine Calls.mono hix.out ?_
  rintro e w1 ⟨v, rfl, hown, hb1⟩
  obtain ⟨ao, cap1, rfl, hcs⟩ := lst_of_row hown
  have hb1' := hid hb1
  have hcs' := hid hcs
  obtain ⟨n, hn⟩ : ∃ n, Hid ((idxS s).length = n) := ⟨_, rfl⟩
  have hnl : n ≤ 1099511627776 := by
    rw [← hn.out]
    unfold idxS idxTo
    have := List.length_filter_le (begS s) (List.range s.size)
    rw [List.length_range] at this
    exact Nat.le_trans this hsz.out
  rw [hn.out]
  clear hown hb1 hcs hix
  have hst : Hid (J w1 (ipl s 0) w1) := ipl_skip (P := fun i => J w1 i w1) (Nat.zero_le _) (fun i _ h => ipl_zero h) (fun i hb h => hsk.out w1 i w1 hb h) (hJ0.out w1 hb1'.out)
  go_wp2
  go_loopw [5, 11] (fun dd ii wr => ∃ k : Nat, k ≤ n ∧ ii = .int .i64 (k : Int) ∧ dd = .int .i64 ((depS s (ipl s k) : Nat) : Int) ∧ Hid (J w1 (ipl s k) wr)) (fun _ ii _ => n - (intOf ii).toNat)
  case atStart => exact ⟨0, Nat.zero_le _, rfl, by rw [ipl_dep0]; rfl, hst⟩
  case round =>
    obtain ⟨k, hkn, rfl, rfl, hj⟩ := hrel
    by_cases hlt : k < n
    · have hli : (k : Int) < (n : Int) := by omega
      have hnk : (n : Int) ≤ 1099511627776 := by omega
      obtain ⟨p, hpk⟩ : ∃ p, (idxS s)[k]? = some p := ⟨_, List.getElem?_eq_getElem (by rw [hn.out]; exact hlt)⟩
      obtain ⟨gg, rfl, hg1, hg2, cg⟩ := hcs'.out k p hpk
      obtain ⟨hps, hpb⟩ := idxS_mem.1 (List.mem_of_getElem? hpk)
      rw [ipl_at hpk] at hj ⊢
      have s1 := (hk.out w1 p wr ⟨gg, k, none⟩ hj.out hg1 hg2).trans cg
      have hpi : (p : Int) < (s.size : Int) := by omega
      have hps' := hid hps
      have hpb' := hid hpb
      have hpk' := hid hpk
      obtain ⟨d, hd⟩ : ∃ d, Hid (depS s p = d) := ⟨_, rfl⟩
      have hdz : d ≤ 1099511627776 := by have h1 := hdl.out p; have h2 := hsz.out; rw [hd.out] at h1; omega
      rw [hd.out]
      have hxx := byteAt_num s p hps
      obtain ⟨x, hx⟩ : ∃ x, Hid (byteAt s p = x) := ⟨_, rfl⟩
      have hx256 : x < 256 := by rw [← hx.out]; unfold byteAt; exact UInt8.toNat_lt _
      rw [hx.out] at hxx
      obtain ⟨O, hO⟩ : ∃ O, Hid (opB x = O) := ⟨_, rfl⟩
      obtain ⟨C, hC⟩ : ∃ C, Hid (clB x = C) := ⟨_, rfl⟩
      have hnx : Hid (depS s (ipl s (k + 1)) = stepD O C d) := by show _ = _; rw [ipl_dep hpk, hx.out, hO.out, hC.out, hd.out]
      have hjn : Hid (∀ w2, J w1 (p + 1) w2 → J w1 (ipl s (k + 1)) w2) := fun w2 h2 => ipl_skip (P := fun i => J w1 i w2) (ipl_up hpk) (fun i h1 h3 => ipl_next hpk (by omega) h3) (fun i hb h => hsk.out w1 i w2 hb h) h2
      clear cg hpb hpk
      go_wp2_with fail
      refine Calls.mono (hp.out w1 p wr d hb1'.out hps'.out hpb'.out hd.out hj.out) ?_
      rintro e w2 (⟨rfl, h2⟩ | ⟨rfl, h2⟩)
      · have h3 := hid (hjn.out w2 h2)
        clear h2 hj
        go_wp2_with fail
        refine Calls.mono (opens_calls x O hO _) ?_
        rintro e w3 ⟨rfl, rfl⟩
        cases O
        · go_wp2_with fail
          refine Calls.mono (closes_calls x C hC _) ?_
          rintro e w4 ⟨rfl, rfl⟩
          cases C
          · go_wp2
            go_roundw
            case rel => exact ⟨k + 1, by omega, by go_num, by rw [hnx.out]; rfl, h3⟩
            case measure => simp [intOf]; omega
          · by_cases hd0 : 0 < d
            · have hdi : (0 : Int) < (d : Int) := by omega
              go_wp2
              go_roundw
              case rel => exact ⟨k + 1, by omega, by go_num, by rw [hnx.out]; simp [stepD]; omega, h3⟩
              case measure => simp [intOf]; omega
            · have hdi : d = 0 := by omega
              subst hdi
              go_wp2
              go_roundw
              case rel => exact ⟨k + 1, by omega, by go_num, by rw [hnx.out]; rfl, h3⟩
              case measure => simp [intOf]; omega
        · go_wp2
          go_roundw
          case rel => exact ⟨k + 1, by omega, by go_num, by rw [hnx.out]; simp [stepD], h3⟩
          case measure => simp [intOf]; omega
      · have h2' := hid h2
        clear h2
        go_wp2
        go_ret
        exact ⟨w1, hb1'.out, .inr ⟨p, hps'.out, by rw [hd.out]; rfl, h2'.out⟩⟩
    · have hk' : k = n := by omega
      subst hk'
      have hpe : ipl s k = s.size := ipl_end (by rw [hn.out]; exact Nat.le_refl _)
      rw [hpe] at hj ⊢
      go_wp2
      go_ret
      exact ⟨w1, hb1'.out, .inl ⟨rfl, hj.out⟩⟩
end Go.Proofs.YtlckhiflhnlgpaaGreatDoor

/-
  What levels.rows and levels.set do: rows of bits, one behind another.
-/
namespace Go.Proofs.YtlckhiflhnlgpaaGreatDoor
open Go.RowKit Go.Shelf

/-- The worlds are the same but for one block, and blocks laid since. -/
def But (g : Nat) (w w' : World) : Prop := Below 0 w w' ∧ ∀ b, b < w.heap.size → b ≠ g → w'.heap[b]? = w.heap[b]?
theorem But.at {g : Nat} {w w' : World} (h : But g w w') {b : Nat} {cs : Array Value} {t : TypeId} (ha : At w b cs t) (hb : b ≠ g) : At w' b cs t := (h.2 b ha.lt hb).trans ha
theorem But.cell {g : Nat} {w w' : World} (h : But g w w') {p : Addr} (hp : p.block < w.heap.size) (hb : p.block ≠ g) : w'.cell? p = w.cell? p := by
  unfold World.cell?
  rw [h.2 _ hp hb]
theorem But.below {g n : Nat} {w w' w0 : World} (h : But g w w') (h0 : Below n w0 w) (hn : n ≤ w.heap.size) (hg : n ≤ g) : Below n w0 w' := by
  refine ⟨h.1.os.trans h0.os, h.1.tape.trans h0.tape, h.1.output.trans h0.output, Nat.le_trans h0.size h.1.size, fun b hb => ?_⟩
  refine Eq.trans ?_ (h0.block b hb)
  by_cases hbw : b < w.heap.size
  · exact h.2 b hbw (by omega)
  · exact absurd (Nat.lt_of_lt_of_le hb hn) hbw
/-- The cells of a list of m rows of n bits, the first k of which are laid in the blocks behind it. -/
def lvC (m n A k : Nat) : Array Value := ((List.range (m * 2)).map fun j => if j / 2 < k then (if j % 2 = 0 then Value.int .i64 (n : Int) else .slice (some ⟨A + 1 + j / 2, 0, none⟩) (need n) (need n)) else (if j % 2 = 0 then Value.int .i64 0 else .slice none 0 0)).toArray
theorem lvC_get {m n A k j : Nat} (h : j < m * 2) : (lvC m n A k)[j]? = some (if j / 2 < k then (if j % 2 = 0 then Value.int .i64 (n : Int) else .slice (some ⟨A + 1 + j / 2, 0, none⟩) (need n) (need n)) else (if j % 2 = 0 then Value.int .i64 0 else .slice none 0 0)) := by simp [lvC, h]
/-- m rows of n bits: the list in the block A, the rows behind it. -/
def LvAt (W : World) (A m n : Nat) (F : Nat → Nat → Nat) : Prop := At W A (lvC m n A m) 81 ∧ ∀ k, k < m → At W (A + 1 + k) (rowCells (need n) (F k)) 49

end Go.Proofs.YtlckhiflhnlgpaaGreatDoor

/- LvBuild, LvBuild2. -/
/-
  What levels.Build answers.
-/
namespace Go.Proofs.YtlckhiflhnlgpaaGreatDoor
open Go.RowKit Go.Shelf

/-! Rows of a list: kept, and one of them turned. -/
def putR (Y : Nat → Nat) (i j : Nat) : Nat := if j = i / 64 then Y (i / 64) ||| 2 ^ (i % 64) else Y j
section
variable {w w' : World} {A m n g : Nat} {F : Nat → Nat → Nat}
theorem LvAt.kept (h : LvAt w A m n F) (hb : Below w.heap.size w w') : LvAt w' A m n F := ⟨h.1.keptAll hb, fun k hk => (h.2 k hk).keptAll hb⟩
theorem LvAt.other (h : LvAt w A m n F) (hb : But g w w') (hg : g < A ∨ A + m < g) : LvAt w' A m n F := ⟨hb.at h.1 (by omega), fun k hk => hb.at (h.2 k hk) (by omega)⟩
theorem LvAt.put {k : Nat} {Y : Nat → Nat} (h : LvAt w A m n F) (hk : k < m) (hb : But (A + 1 + k) w w') (ha : At w' (A + 1 + k) (rowCells (need n) Y) 49) {G : Nat → Nat → Nat} (hG : ∀ j, j < m → ∀ i, G j i = if j = k then Y i else F j i) : LvAt w' A m n G := by
  refine ⟨hb.at h.1 (by omega), fun j hj => ?_⟩
  by_cases hjk : j = k
  · subst hjk
    rw [rowCells_congr (Y' := Y) (fun i _ => by rw [hG j hj, if_pos rfl])]
    exact ha
  · rw [rowCells_congr (Y' := F j) (fun i _ => by rw [hG j hj, if_neg hjk])]
    exact hb.at (h.2 j hj) (by omega)
theorem LvAt.congr {G : Nat → Nat → Nat} (h : LvAt w A m n F) (hG : ∀ j, j < m → ∀ i, G j i = F j i) : LvAt w A m n G := ⟨h.1, fun k hk => by rw [rowCells_congr (Y' := F k) (fun i _ => hG k hk i)]; exact h.2 k hk⟩
theorem LvAt.lt (h : LvAt w A m n F) : A < w.heap.size ∧ ∀ k, k < m → A + 1 + k < w.heap.size := ⟨h.1.lt, fun k hk => (h.2 k hk).lt⟩
theorem LvAt.cells (h : LvAt w A m n F) {k : Nat} (hk : k < m) : w.cell? ⟨A, k * 2, none⟩ = some (.int .i64 (n : Int)) ∧ w.cell? ⟨A, k * 2 + 1, none⟩ = some (.slice (some ⟨A + 1 + k, 0, none⟩) (need n) (need n)) := by
  have c0 := h.1.cell (k * 2)
  have c1 := h.1.cell (k * 2 + 1)
  rw [lvC_get (by omega), if_pos (show k * 2 / 2 < m by omega), if_pos (show k * 2 % 2 = 0 by omega)] at c0
  rw [lvC_get (by omega), if_pos (show (k * 2 + 1) / 2 < m by omega), if_neg (show ¬ (k * 2 + 1) % 2 = 0 by omega), show (k * 2 + 1) / 2 = k by omega] at c1
  exact ⟨c0, c1⟩
end
/-- What is done with a place: a bit of one row, or nothing. -/
def B1 (s : ByteArray) (m i d A B : Nat) (F G : Nat → Nat → Nat) (w w' : World) : Prop :=
  (∃ k, d = k + 1 ∧ k < m ∧ byteAt s i = 58 ∧ At w' (A + 1 + k) (rowCells (need s.size) (putR (F k) i)) 49 ∧ But (A + 1 + k) w w') ∨
       (∃ k, d = k + 1 ∧ k < m ∧ byteAt s i = 44 ∧ At w' (B + 1 + k) (rowCells (need s.size) (putR (G k) i)) 49 ∧ But (B + 1 + k) w w') ∨
       (((d = 0 ∨ m < d) ∨ (byteAt s i ≠ 58 ∧ byteAt s i ≠ 44)) ∧ w' = w)

end Go.Proofs.YtlckhiflhnlgpaaGreatDoor

/-
  What levels.Build answers, whole.
-/
namespace Go.Proofs.YtlckhiflhnlgpaaGreatDoor
open Go.RowKit Go.Shelf

section
variable {w W w1 : World} {s : ByteArray} {m bl A B hw : Nat}
end

end Go.Proofs.YtlckhiflhnlgpaaGreatDoor

/- LvDepth, LvWithin. -/
/-
  What levels.Depth and levels.Close answer.
-/
namespace Go.Proofs.YtlckhiflhnlgpaaGreatDoor
open Go.RowKit Go.Shelf

/-- Between two places, in Close. -/
def ClJ (w : World) (t : ByteArray) (ba br bf hw : Nat) (a : Nat) (w1 : World) (x : Nat) (W : World) : Prop :=
  (At W ba #[.int .i64 (a : Int)] 3 ∧ At W br #[.string t] 9 ∧ At W bf #[.int .i64 (-1)] 3) ∧ (∀ j, j < x → endP t j = false) ∧ (∀ b, hw ≤ b → b < w1.heap.size → W.heap[b]? = w1.heap[b]?) ∧ Below w.heap.size w W
def ClX (w : World) (t : ByteArray) (bf : Nat) (a : Nat) (_ : World) (i : Nat) (W : World) : Prop :=
  At W bf #[.int .i64 ((a + i : Nat) : Int)] 3 ∧ i < t.size ∧ endP t i = true ∧ (∀ j, j < i → endP t j = false) ∧ Below w.heap.size w W

set_option maxRecDepth 10000 in
set_option maxHeartbeats 2000000 in
theorem close1_calls (t : ByteArray) (ht : t.size ≤ 1099511627776) (a i d : Nat) (ha : a ≤ 1099511627776) (hi : i < t.size) (E : Bool) (hE : Hid ((decide (d = 1) && clB (byteAt t i)) = E)) (ba br bf : Nat) (w : World)
    (h1 : At w ba #[.int .i64 (a : Int)] 3) (h2 : At w br #[.string t] 9) (h3 : At w bf #[.int .i64 (-1)] 3) :
    Calls Tryz.prog 44 #[.int .i64 (i : Int), .int .i64 (d : Int), .pointer (some ⟨br, 0, none⟩), .pointer (some ⟨ba, 0, none⟩), .pointer (some ⟨bf, 0, none⟩)] w fun e w' => e = .returned (.bool (!E)) ∧ w' = if E then w.setCell ⟨bf, 0, none⟩ (.int .i64 ((a + i : Nat) : Int)) else w := by
  have c1 := h1.cell 0
  have c2 := h2.cell 0
  have c3 := h3.cell 0
  have f3 := h3.frozen 0
  simp only [List.getElem?_toArray, List.getElem?_cons_zero] at c1 c2 c3
  have hxx := byteAt_num t i hi
  obtain ⟨x, hx⟩ : ∃ x, Hid (byteAt t i = x) := ⟨_, rfl⟩
  rw [hx.out] at hxx
  have hii : (i : Int) < (t.size : Int) := by omega
  have hti : (t.size : Int) ≤ 1099511627776 := by omega
  have hai : (a : Int) ≤ 1099511627776 := by omega
  obtain ⟨C, hC⟩ : ∃ C, Hid (clB x = C) := ⟨_, rfl⟩
  have hE' : Hid ((decide (d = 1) && C) = E) := by show _ = _; rw [← hC.out, ← hx.out]; exact hE.out
  have hcl := hid (fun u => closes_calls x C hC u)
  clear h1 h2 h3 hE hx
  go_enter Tryz.func44, Tryz.ntmps44
  by_cases hd : d = 1
  · subst hd
    go_wp2_with fail
    refine Calls.mono (hcl.out _) ?_
    rintro e w1 ⟨rfl, rfl⟩
    cases C
    · have e0 : E = false := by rw [← hE'.out]; rfl
      subst e0
      go_wp2
      go_ret
      exact ⟨rfl, rfl⟩
    · have e0 : E = true := by rw [← hE'.out]; rfl
      subst e0
      have n2 : decide ((a : Int) + (i : Int) < 0) = false := by simp; omega
      go_wp2
      go_ret
      exact ⟨rfl, by simp⟩
  · have n1 : ((d : Int) == 1) = false := by simp; omega
    have e0 : E = false := by rw [← hE'.out, decide_eq_false hd]; rfl
    subst e0
    go_wp2
    go_ret
    exact ⟨rfl, rfl⟩
theorem enter_close (args : Array Value) (w : World) : (callFunc 44 args).run Tryz.prog w = .ok (.enter 44 args) w := by kernel_rfl
theorem kind_op (s : ByteArray) (a : Int) : opB (kindN s a) = true ↔ ∃ i : Nat, a = i ∧ brO s i = true := by
  unfold kindN
  constructor
  · intro h
    split at h
    · rename_i hr
      refine ⟨a.toNat, by omega, ?_⟩
      split at h
      · rename_i hb
        split at h
        · cases h
        · rw [beg_op hb]; exact h
      · cases h
    · cases h
  · rintro ⟨i, rfl, h⟩
    obtain ⟨h1, h2, h3⟩ := br_at h
    rw [if_pos ⟨by omega, by omega⟩, Int.toNat_natCast, if_pos (by rw [beg_sgn (sgn_op h3)]; exact h2), if_neg (by unfold wordS; rw [sgn_op h3]; simp)]
    exact h3

set_option maxRecDepth 10000 in
set_option maxHeartbeats 2000000 in
theorem close_calls (s : ByteArray) (hs : s.size ≤ 1099511627776) (a : Int) (ha : (Lit.int .i64 a).wf = true) (w : World) (hT : Tab w) (hM : TabM w) (h0 : 1 < w.heap.size) :
    Calls Tryz.prog 28 #[.string s, .int .i64 a] w fun e w' => ∃ c : Int, e = .returned (.int .i64 c) ∧ IsCls s a c ∧ Below w.heap.size w w' := by
  have hbw : Below w.heap.size w (w.alloc (.cells #[.int .i64 a] 3)) := by repeat (first | with_reducible exact Below.refl _ _ | with_reducible refine Below.setCell ?_ (by first | (simp; done) | (simp; omega)) _ | with_reducible refine below_drewN ?_ _ | with_reducible refine Below.alloc ?_ (by first | (simp; done) | (simp; omega)) _ | with_reducible refine Below.drew ?_)
  obtain ⟨k, hk⟩ : ∃ k, Hid (kindN s a = k) := ⟨_, rfl⟩
  have hkc := hid (kind8_calls s (by omega) a ha k hk _ (hT.below hbw (by omega)) (hM.below hbw h0) (by have := hbw.size; omega))
  obtain ⟨O, hO⟩ : ∃ O, Hid (opB k = O) := ⟨_, rfl⟩
  have hop := hid (fun u => opens_calls k O hO u)
  have hT' := hid hT
  have hM' := hid hM
  have h0' := hid h0
  have hsl : Hid (s.size ≤ 1099511627776) := hs
  clear hT hM h0 ha hbw
  go_enter Tryz.func28, Tryz.ntmps28
  go_wp2_with fail
  refine Calls.mono hkc.out ?_
  rintro e w1 ⟨rfl, hb1⟩
  have hb1' := hid hb1
  have hba := hid ((At.new w #[.int .i64 a] 3).keptAll hb1)
  clear hb1 hkc
  go_wp2_with fail
  refine Calls.mono (hop.out _) ?_
  rintro e w2 ⟨rfl, rfl⟩
  cases O
  · go_wp2
    go_ret
    refine ⟨_, rfl, .inr ⟨rfl, fun i hi => ?_⟩, ((Below.refl _ _).alloc (Nat.le_refl _) _).trans (hb1'.out.mono (by simp))⟩
    cases hbo : brO s i
    · rfl
    · have h1 := hO.out
      rw [← hk.out, (kind_op s a).2 ⟨i, hi, hbo⟩] at h1
      cases h1
  · obtain ⟨i, rfl, hbr⟩ := (kind_op s a).1 (by rw [hk.out]; exact hO.out)
    obtain ⟨his, -, -⟩ := br_at hbr
    have hii : (i : Int) ≤ (s.size : Int) := by omega
    have hsi : (s.size : Int) ≤ 1099511627776 := by omega
    have c0 := hba.out.cell 0
    simp only [List.getElem?_toArray, List.getElem?_cons_zero] at c0
    obtain ⟨t, ht⟩ : ∃ t, Hid (s.extract i s.size = t) := ⟨_, rfl⟩
    have et := ht.out
    have hmf : ∀ (fn : Fn) (first cap : Array Value) (w : World), (Instr.makeFunc fn first cap).run Tryz.prog w = .ok (.func fn first cap) w := fun _ _ _ _ => rfl
    go_wp2_with fail
    obtain ⟨V, hV⟩ : ∃ V, (w2.alloc (.cells #[.string t] 9)).alloc (.cells #[.int .i64 (-1)] 3) = V := ⟨_, rfl⟩
    have hVz : V.heap.size = w2.heap.size + 2 := by rw [← hV, World.size_alloc, World.size_alloc]
    have hVb : Below w2.heap.size w2 V := by rw [← hV]; repeat (first | with_reducible exact Below.refl _ _ | with_reducible refine Below.setCell ?_ (by first | (simp; done) | (simp; omega)) _ | with_reducible refine below_drewN ?_ _ | with_reducible refine Below.alloc ?_ (by first | (simp; done) | (simp; omega)) _ | with_reducible refine Below.drew ?_)
    have hw2 : Below w.heap.size w w2 := ((Below.refl _ _).alloc (Nat.le_refl _) _).trans (hb1'.out.mono (by simp))
    have hwV : Below w.heap.size w V := hw2.trans (hVb.mono hw2.size)
    have hlt := hba.out.lt
    have a1 : At V w.heap.size #[.int .i64 (i : Int)] 3 := hba.out.keptAll hVb
    have a2 : At V w2.heap.size #[.string t] 9 := by rw [← hV]; exact (At.new w2 _ _).alloc _
    have a3 : At V (w2.heap.size + 1) #[.int .i64 (-1)] 3 := by
      have h := At.new (w2.alloc (.cells #[.string t] 9)) #[.int .i64 (-1)] 3
      rw [World.size_alloc] at h
      rw [← hV]; exact h
    have htz : t.size ≤ 1099511627776 := by rw [← ht.out, ext_size]; have := hsl.out; omega
    rw [hV]
    refine Calls.mono (walk_calls t htz 44 _ (ClJ w t w.heap.size w2.heap.size (w2.heap.size + 1) V.heap.size i) (ClX w t (w2.heap.size + 1) i) V (hT'.out.below hwV (by have := h0'.out; omega)) (hM'.out.below hwV h0'.out) (by have := h0'.out; have := hwV.size; omega) enter_close
      (fun w3 hb => ⟨⟨a1.keptAll hb, a2.keptAll hb, a3.keptAll hb⟩, fun j hj => by omega, fun _ _ _ => rfl, hwV.trans (hb.mono hwV.size)⟩)
      (fun w3 x wx hx hj => ⟨hj.1, fun j hj2 => by
        by_cases he : j = x
        · rw [he]; unfold endP; rw [nbeg_cl hx]; rfl
        · exact hj.2.1 j (by omega), hj.2.2⟩)
      (fun w3 x wx p hj h1 h2 => by unfold World.cell?; rw [hj.2.2.1 _ h1 h2])
      (fun w3 x wx d hb hx hbg hd hj => by
        obtain ⟨E, hE⟩ : ∃ E, Hid ((decide (d = 1) && clB (byteAt t x)) = E) := ⟨_, rfl⟩
        have hend : endP t x = E := by
          unfold endP
          rw [beg_cl hbg, hd, Bool.and_comm]; exact hE.out
        refine Calls.mono (close1_calls t htz i x d (by have := hsl.out; omega) hx E hE _ _ _ wx hj.1.1 hj.1.2.1 hj.1.2.2) ?_
        rintro e w4 ⟨rfl, rfl⟩
        cases E
        · refine .inl ⟨rfl, hj.1, fun j hj2 => ?_, hj.2.2⟩
          by_cases he : j = x
          · rw [he]; exact hend
          · exact hj.2.1 j (by omega)
        · refine .inr ⟨rfl, ?_, hx, hend, hj.2.1, hj.2.2.2.setCell (p := ⟨w2.heap.size + 1, 0, none⟩) (by show w.heap.size ≤ w2.heap.size + 1; omega) _⟩
          have := hj.1.2.2.set 0 (.int .i64 ((i + x : Nat) : Int))
          simpa using this)) ?_
    rintro e w4 ⟨w3, hb3, ⟨rfl, hJ⟩ | ⟨x, hx, rfl, hX⟩⟩
    · have d0 := hJ.1.2.2.cell 0
      simp only [List.getElem?_toArray, List.getElem?_cons_zero] at d0
      have hJ' := hid hJ
      clear hJ a1 a2 a3 hVz hVb hw2 hwV
      go_wp2
      go_ret
      exact ⟨_, rfl, cls_none hbr (fun j hj => by rw [ht.out] at hj ⊢; exact hJ'.out.2.1 j hj), hJ'.out.2.2.2⟩
    · have d0 := hX.1.cell 0
      simp only [List.getElem?_toArray, List.getElem?_cons_zero] at d0
      have hX' := hid hX
      clear hX a1 a2 a3 hVz hVb hw2 hwV
      go_wp2
      go_ret
      exact ⟨_, rfl, cls_found hbr (by rw [ht.out]; exact hX'.out.2.1) (by rw [ht.out]; exact hX'.out.2.2.1) (fun j hj => by rw [ht.out]; exact hX'.out.2.2.2.1 j hj), hX'.out.2.2.2.2⟩
end Go.Proofs.YtlckhiflhnlgpaaGreatDoor

/-
  What levels.upTo, levels.within, levels.Colons and levels.Commas answer.
-/
namespace Go.Proofs.YtlckhiflhnlgpaaGreatDoor
open Go.RowKit Go.Shelf

/-- The row's beginning that is looked at. -/
def UpTo (N k : Nat) (t : Int) (N' k' : Nat) : Prop := ((N : Int) ≤ t ∧ N' = N ∧ k' = k) ∨ (t < (N : Int) ∧ k' = need t.toNat ∧ N' = min (64 * k') N)
theorem UpTo.le {N k N' k' : Nat} {t : Int} (h : UpTo N k t N' k') (hk : k = need N) : N' ≤ N ∧ k' ≤ k := by
  unfold need at hk
  rcases h with ⟨_, h1, h2⟩ | ⟨h0, h1, h2⟩
  · omega
  · unfold need at h1; omega
theorem UpTo.formed {N k N' k' : Nat} {t : Int} {X : Nat → Nat} (h : UpTo N k t N' k') (hf : formed (N : Int) k X) : formed (N' : Int) k' X := by
  obtain ⟨f1, f2, f3⟩ := hf
  rw [Int.toNat_natCast] at f2 f3
  rcases h with ⟨_, rfl, rfl⟩ | ⟨h0, h1, h2⟩
  · exact ⟨f1, by rw [Int.toNat_natCast]; exact f2, by rw [Int.toNat_natCast]; exact f3⟩
  · unfold need at f2 h1
    refine ⟨by omega, by rw [Int.toNat_natCast]; unfold need; omega, fun i h3 h4 => ?_⟩
    rw [Int.toNat_natCast] at h3
    exact f3 i (by omega) (by omega)
end Go.Proofs.YtlckhiflhnlgpaaGreatDoor
