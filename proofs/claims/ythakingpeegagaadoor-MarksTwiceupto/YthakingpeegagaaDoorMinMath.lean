/-
  Of no program: the text without its blanks outside; where no backslash stands outside, its marks, what is inside and its texts are those of the text.
-/
import Derived.Test.YthakingpeegagaaDoorMarkMath
namespace Go.Proofs.YthakingpeegagaaDoor

/-- How many of the bytes below i stay. -/
def jS (s : ByteArray) : Nat → Nat
  | 0 => 0
  | i + 1 => jS s i + (if blankS s i then 0 else 1)
theorem jS_t {s : ByteArray} {i : Nat} (h : blankS s i = true) : jS s (i + 1) = jS s i := by rw [jS, if_pos h]; rfl
theorem jS_f {s : ByteArray} {i : Nat} (h : blankS s i = false) : jS s (i + 1) = jS s i + 1 := by rw [jS, if_neg (by rw [h]; decide)]
theorem jS_step (s : ByteArray) (i : Nat) : jS s i ≤ jS s (i + 1) := by rw [jS]; omega
theorem jS_mono (s : ByteArray) {a b : Nat} (h : a ≤ b) : jS s a ≤ jS s b := by
  obtain ⟨d, rfl⟩ : ∃ d, b = a + d := ⟨b - a, by omega⟩
  clear h
  induction d with
  | zero => exact Nat.le_refl _
  | succ d ih => exact Nat.le_trans ih (jS_step s (a + d))
theorem jS_le (s : ByteArray) (i : Nat) : jS s i ≤ i := by
  induction i with
  | zero => exact Nat.le_refl _
  | succ i ih => rw [jS]; split <;> omega
theorem jS_lt {s : ByteArray} {i n : Nat} (h : i < n) (hk : blankS s i = false) : jS s i < jS s n := by
  have := jS_mono s (show i + 1 ≤ n from h)
  rw [jS_f hk] at this
  omega
theorem jS_sur (s : ByteArray) {k n : Nat} (h : k < jS s n) : ∃ i, i < n ∧ blankS s i = false ∧ jS s i = k := by
  induction n with
  | zero => rw [jS] at h; omega
  | succ n ih =>
    by_cases hk : k < jS s n
    · obtain ⟨i, h1, h2, h3⟩ := ih hk
      exact ⟨i, by omega, h2, h3⟩
    · cases hb : blankS s n with
      | true => rw [jS_t hb] at h; omega
      | false => rw [jS_f hb] at h; exact ⟨n, by omega, hb, by omega⟩
theorem jS_inj {s : ByteArray} {a b : Nat} (ha : blankS s a = false) (hb : blankS s b = false) (h : jS s a = jS s b) : a = b := by
  rcases Nat.lt_trichotomy a b with h1 | h1 | h1
  · have := jS_lt h1 ha; omega
  · exact h1
  · have := jS_lt h1 hb; omega
/-- The bytes that stay. -/
def minL (s : ByteArray) : Nat → List UInt8
  | 0 => []
  | n + 1 => minL s n ++ (if blankS s n then [] else [s.data[n]?.getD 0])
theorem minL_t {s : ByteArray} {n : Nat} (h : blankS s n = true) : minL s (n + 1) = minL s n := by rw [minL, if_pos h, List.append_nil]
theorem minL_f {s : ByteArray} {n : Nat} (h : blankS s n = false) : minL s (n + 1) = minL s n ++ [s.data[n]?.getD 0] := by rw [minL, if_neg (by rw [h]; decide)]
theorem minL_len (s : ByteArray) (n : Nat) : (minL s n).length = jS s n := by
  induction n with
  | zero => rfl
  | succ n ih =>
    cases hb : blankS s n
    · rw [minL_f hb, jS_f hb, List.length_append, ih]; rfl
    · rw [minL_t hb, jS_t hb, ih]
theorem minL_get {s : ByteArray} {i n : Nat} (h : i < n) (hk : blankS s i = false) : (minL s n)[jS s i]? = some (s.data[i]?.getD 0) := by
  induction n with
  | zero => omega
  | succ n ih =>
    by_cases he : i = n
    · subst he
      rw [minL_f hk, List.getElem?_append_right (by rw [minL_len]; exact Nat.le_refl _), minL_len, Nat.sub_self]
      rfl
    · have h1 := ih (by omega)
      cases hb : blankS s n
      · rw [minL_f hb, List.getElem?_append_left (by rw [minL_len]; exact jS_lt (by omega) hk)]
        exact h1
      · rw [minL_t hb]; exact h1
/-- The text without its blanks outside. -/
def minS (s : ByteArray) : ByteArray := ⟨(minL s s.size).toArray⟩
theorem minS_size (s : ByteArray) : (minS s).size = jS s s.size := by
  show (minL s s.size).toArray.size = _
  rw [List.size_toArray, minL_len]
theorem minS_get {s : ByteArray} {i : Nat} (h : i < s.size) (hk : blankS s i = false) : (minS s).data[jS s i]?.getD 0 = s.data[i]?.getD 0 := by
  show ((minL s s.size).toArray[jS s i]?).getD 0 = _
  rw [List.getElem?_toArray, minL_get h hk]
  rfl
/-- Where there is no blank outside, all stays. -/
theorem min_same {s : ByteArray} (h : ∀ i, i < s.size → blankS s i = false) : minS s = s := by
  have hj : ∀ i, i ≤ s.size → jS s i = i := by
    intro i
    induction i with
    | zero => intro _; rfl
    | succ i ih => intro hi; rw [jS_f (h i (by omega)), ih (by omega)]
  have hs : (minS s).size = s.size := by rw [minS_size, hj _ (Nat.le_refl _)]
  apply ByteArray.ext
  apply Array.ext_getElem?
  intro i
  by_cases hi : i < s.size
  · have h1 := minS_get hi (h i hi)
    rw [hj i (by omega)] at h1
    have a1 : i < (minS s).data.size := by rw [← hs] at hi; exact hi
    have a2 : i < s.data.size := hi
    rw [Array.getElem?_eq_getElem a1, Array.getElem?_eq_getElem a2] at h1 ⊢
    exact congrArg some h1
  · rw [Array.getElem?_eq_none (show (minS s).data.size ≤ i by have : (minS s).data.size = s.size := hs; omega), Array.getElem?_eq_none (show s.data.size ≤ i by have : s.data.size = s.size := rfl; omega)]

theorem slash_quo {s : ByteArray} {i : Nat} (h : slash s i = true) : quoB s i = false := by
  unfold slash at h
  unfold quoB
  rw [decide_eq_true_eq] at h
  rw [h]
  rfl
theorem blank_slash {s : ByteArray} {i : Nat} (h : blankS s i = true) : slash s i = false := by
  unfold blankS blkB byteAt at h
  unfold slash
  rw [Bool.and_eq_true] at h
  have h2 := h.2
  generalize (s.data[i]?.getD 0).toNat = x at h2 ⊢
  simp only [Bool.or_eq_true, beq_iff_eq] at h2
  rcases h2 with ((h | h) | h) | h <;> subst h <;> rfl
theorem blank_out {s : ByteArray} {i : Nat} (h : blankS s i = true) : i < s.size ∧ markS s i = false ∧ inS s i = false := by
  unfold blankS outS at h
  simp only [Bool.and_eq_true, decide_eq_true_eq, Bool.not_eq_true'] at h
  exact ⟨h.1.1, h.1.2.1, h.1.2.2⟩

/-- Within a span all bytes stay, one behind the other. -/
theorem min_run {s : ByteArray} {a b : Nat} (hin : ∀ i, a ≤ i → i < b → inS s i = true) (k : Nat) (hk : a + k ≤ b) : jS s (a + k) = jS s a + k := by
  induction k with
  | zero => rfl
  | succ k ih =>
    have hkp : blankS s (a + k) = false := by
      cases h : blankS s (a + k) with
      | false => rfl
      | true => have := (blank_out h).2.2; rw [hin (a + k) (by omega) (by omega)] at this; cases this
    rw [← Nat.add_assoc, jS_f hkp, ih (by omega)]
    rfl

section
variable {s : ByteArray} (hbs : ∀ i, i < s.size → slash s i = true → inS s i = true)
include hbs
/-- Outside nothing is escaped. -/
theorem out_esc {i : Nat} (hi : i ≤ s.size) (h : oddG (markS s) i = false) : escS s i = false := by
  cases i with
  | zero => rfl
  | succ i =>
    unfold escS
    rw [escG_succ]
    cases hs : slash s i with
    | false => rfl
    | true =>
      have := hbs i hi hs
      unfold inS at this
      rw [h] at this
      cases this
theorem min_state (i : Nat) (hi : i ≤ s.size) : escS (minS s) (jS s i) = escS s i ∧ oddG (markS (minS s)) (jS s i) = oddG (markS s) i := by
  induction i with
  | zero => exact ⟨rfl, rfl⟩
  | succ i ih =>
    obtain ⟨h1, h2⟩ := ih (by omega)
    cases hb : blankS s i with
    | true =>
      obtain ⟨-, b2, b3⟩ := blank_out hb
      have hod : oddG (markS s) i = false := by unfold inS at b3; rw [oddG_succ, b2, Bool.xor_false] at b3; exact b3
      have he := out_esc hbs (by omega) hod
      rw [jS_t hb]
      refine ⟨?_, ?_⟩
      · rw [h1, he]
        unfold escS
        rw [escG_succ, blank_slash hb]
        rfl
      · rw [h2, oddG_succ, b2, Bool.xor_false]
    | false =>
      have hg := minS_get (s := s) (i := i) hi hb
      have hsl : slash (minS s) (jS s i) = slash s i := by unfold slash; rw [hg]
      have hqu : quoB (minS s) (jS s i) = quoB s i := by unfold quoB; rw [hg]
      have hm : markS (minS s) (jS s i) = markS s i := by unfold markS; rw [hqu, h1]
      rw [jS_f hb]
      refine ⟨?_, ?_⟩
      · unfold escS at h1 ⊢
        rw [escG_succ, escG_succ, h1, hsl]
      · rw [oddG_succ, oddG_succ, h2, hm]
theorem min_mark {i : Nat} (hi : i < s.size) (hk : blankS s i = false) : markS (minS s) (jS s i) = markS s i := by
  have hg := minS_get hi hk
  unfold markS
  rw [(min_state hbs i (by omega)).1]
  unfold quoB
  rw [hg]
theorem min_in {i : Nat} (hi : i < s.size) (hk : blankS s i = false) : inS (minS s) (jS s i) = inS s i := by
  unfold inS
  rw [← jS_f hk]
  exact (min_state hbs (i + 1) hi).2
/-- The text without its blanks has none. -/
theorem min_none (k : Nat) (hk : k < (minS s).size) : blankS (minS s) k = false := by
  rw [minS_size] at hk
  obtain ⟨i, h1, h2, rfl⟩ := jS_sur s hk
  have hg := minS_get h1 h2
  unfold blankS outS blkB byteAt at h2 ⊢
  rw [min_mark hbs h1 (by unfold blankS outS blkB byteAt; exact h2), min_in hbs h1 (by unfold blankS outS blkB byteAt; exact h2), hg, minS_size, decide_eq_true hk]
  rw [decide_eq_true h1] at h2
  exact h2
theorem min_twice : minS (minS s) = minS s := min_same (min_none hbs)
theorem min_nxt {f : Nat} (hf : f ≤ s.size + 1) : nxt (markS (minS s)) (minS s).size (jS s f) = jS s (nxt (markS s) s.size f) := by
  rw [minS_size]
  by_cases hfn : f ≤ s.size
  · have hlo := nxt_lo (G := markS s) (n := s.size) (f := f)
    have hle := nxt_le (G := markS s) hfn
    have gap : ∀ k, jS s f ≤ k → k < jS s (nxt (markS s) s.size f) → markS (minS s) k = false := fun k h1 h2 => by
      obtain ⟨i, g1, g2, rfl⟩ := jS_sur s h2
      have hfi : f ≤ i := by
        by_cases h : f ≤ i
        · exact h
        · have := jS_lt (show i < f by omega) g2; omega
      rw [min_mark hbs (by omega) g2]
      exact nxt_gap hfi g1
    by_cases hlt : nxt (markS s) s.size f < s.size
    · have hm := nxt_hit hlt
      have hk : blankS s (nxt (markS s) s.size f) = false := by
        cases hb : blankS s (nxt (markS s) s.size f) with
        | false => rfl
        | true => have := (blank_out hb).2.1; rw [hm] at this; cases this
      exact nxt_is (jS_mono s hlo) (jS_lt hlt hk) (by rw [min_mark hbs hlt hk]; exact hm) gap
    · have he : nxt (markS s) s.size f = s.size := by omega
      rw [he] at gap ⊢
      exact nxt_none (jS_mono s hfn) gap
  · obtain rfl : f = s.size + 1 := by omega
    have h1 : jS s (s.size + 1) = jS s s.size + 1 := jS_f (blankS_out (Nat.le_refl _))
    have e : ∀ (G : Nat → Bool) (n : Nat), nxt G n (n + 1) = n + 1 := fun G n => by unfold nxt; rw [show n - (n + 1) = 0 by omega]; rfl
    rw [e, h1, e]
/-- The spans of the text without its blanks. -/
theorem min_spans : spansS (minS s) = (spansS s).map (fun x => (jS s x.1, jS s x.2)) := by
  have key : ∀ (d f : Nat), f ≤ s.size + 1 → s.size + 1 - f = d → spansAt (markS (minS s)) (minS s).size (jS s f) = (spansAt (markS s) s.size f).map (fun x => (jS s x.1, jS s x.2)) := by
    intro d
    induction d using Nat.strongRecOn with
    | ind d ih =>
      intro f hf hd
      have hn := min_nxt hbs hf
      by_cases hlt : nxt (markS s) s.size f < s.size
      · obtain ⟨o, ho⟩ : ∃ o, nxt (markS s) s.size f = o := ⟨_, rfl⟩
        rw [ho] at hlt hn
        have hlo : f ≤ o := by rw [← ho]; exact nxt_lo
        have hm : markS s o = true := by rw [← ho]; exact nxt_hit (by rw [ho]; exact hlt)
        have hk : blankS s o = false := by
          cases hb : blankS s o with
          | false => rfl
          | true => have := (blank_out hb).2.1; rw [hm] at this; cases this
        obtain ⟨c, hc⟩ : ∃ c, nxt (markS s) s.size (o + 1) = c := ⟨_, rfl⟩
        have hco : o + 1 ≤ c := by rw [← hc]; exact nxt_lo
        have hcn : c ≤ s.size := by rw [← hc]; exact nxt_le (by omega)
        have hn2 := min_nxt hbs (f := o + 1) (by omega)
        rw [hc, jS_f hk] at hn2
        have hkc : blankS s c = false := by
          by_cases hcs : c < s.size
          · cases hb : blankS s c with
            | false => rfl
            | true => have h3 := (blank_out hb).2.1; have h4 := nxt_hit (G := markS s) (n := s.size) (f := o + 1) (by rw [hc]; exact hcs); rw [hc, h3] at h4; cases h4
          · exact blankS_out (by omega)
        have hlt' : nxt (markS (minS s)) (minS s).size (jS s f) < (minS s).size := by rw [hn, minS_size]; exact jS_lt hlt hk
        rw [spansAt_t hlt', hn, hn2, spansAt_t (G := markS s) (n := s.size) (f := f) (by rw [ho]; exact hlt), ho, hc, List.map_cons, ← jS_f hkc, ih (s.size + 1 - (c + 1)) (by omega) (c + 1) (by omega) rfl, jS_f hk]
      · have hnot : ¬ nxt (markS (minS s)) (minS s).size (jS s f) < (minS s).size := by
          rw [hn, minS_size]
          have := jS_mono s (show s.size ≤ nxt (markS s) s.size f by omega)
          omega
        rw [spansAt_f hnot, spansAt_f hlt]
        rfl
  have := key _ 0 (by omega) rfl
  exact this
end
end Go.Proofs.YthakingpeegagaaDoor
