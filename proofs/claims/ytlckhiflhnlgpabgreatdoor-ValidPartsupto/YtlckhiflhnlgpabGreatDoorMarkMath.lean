/-
  Of no program: what each byte of a text is outside of its quotes; two texts, one behind the other.
-/
import Derived.Test.YtlckhiflhnlgpabGreatDoorQuoE
namespace Go.Proofs.YtlckhiflhnlgpabGreatDoor

/-- Is the byte i a structural sign, wherever it stands? -/
def sgnB (s : ByteArray) (i : Nat) : Bool := byteAt s i == 123 || byteAt s i == 125 || byteAt s i == 91 || byteAt s i == 93 || byteAt s i == 58 || byteAt s i == 44
/-- Is it a blank, wherever it stands? -/
def blkB (s : ByteArray) (i : Nat) : Bool := byteAt s i == 32 || byteAt s i == 9 || byteAt s i == 10 || byteAt s i == 13
/-- Is the place outside? -/
def outS (s : ByteArray) (i : Nat) : Bool := decide (i < s.size) && (!markS s i && !inS s i)
def strS (s : ByteArray) (i : Nat) : Bool := outS s i && sgnB s i
def blankS (s : ByteArray) (i : Nat) : Bool := outS s i && blkB s i
def wordS (s : ByteArray) (i : Nat) : Bool := outS s i && (!sgnB s i && !blkB s i)
/-- Does something begin there? -/
def begS (s : ByteArray) (i : Nat) : Bool := strS s i || ((markS s i && inS s i) || (wordS s i && !(decide (0 < i) && wordS s (i - 1))))
/-- What the byte is, by number: 1 structural, 2 a blank, 3 a mark that opens, 4 one that closes, 5 inside, 6 of a word. -/
def kdS (s : ByteArray) (i : Nat) : Nat := if markS s i && inS s i then 3 else if markS s i then 4 else if inS s i then 5 else if sgnB s i then 1 else if blkB s i then 2 else 6
theorem sgn_blk (s : ByteArray) (i : Nat) (h : sgnB s i = true) : blkB s i = false := by
  unfold sgnB at h
  unfold blkB
  generalize byteAt s i = x at h ⊢
  simp only [Bool.or_eq_true, beq_iff_eq] at h
  rcases h with ((((h | h) | h) | h) | h) | h <;> subst h <;> rfl
theorem kd_str {s : ByteArray} {i : Nat} (h : i < s.size) : (kdS s i = 1) ↔ strS s i = true := by
  unfold kdS strS outS
  rw [decide_eq_true h]
  cases markS s i <;> cases inS s i <;> cases sgnB s i <;> cases blkB s i <;> simp
theorem kd_blank {s : ByteArray} {i : Nat} (h : i < s.size) : (kdS s i = 2) ↔ blankS s i = true := by
  have hx := sgn_blk s i
  unfold kdS blankS outS
  rw [decide_eq_true h]
  cases hs : sgnB s i
  · cases markS s i <;> cases inS s i <;> cases blkB s i <;> simp
  · rw [hx hs]
    cases markS s i <;> cases inS s i <;> simp
theorem kd_opens (s : ByteArray) (i : Nat) : (kdS s i = 3) ↔ (markS s i && inS s i) = true := by
  unfold kdS
  cases markS s i <;> cases inS s i <;> cases sgnB s i <;> cases blkB s i <;> simp
theorem kd_word {s : ByteArray} {i : Nat} (h : i < s.size) : (kdS s i = 6) ↔ wordS s i = true := by
  unfold kdS wordS outS
  rw [decide_eq_true h]
  cases markS s i <;> cases inS s i <;> cases sgnB s i <;> cases blkB s i <;> simp
theorem outS_out {s : ByteArray} {i : Nat} (h : s.size ≤ i) : outS s i = false := by unfold outS; rw [decide_eq_false (by omega)]; rfl
theorem wordS_out {s : ByteArray} {i : Nat} (h : s.size ≤ i) : wordS s i = false := by unfold wordS; rw [outS_out h]; rfl
theorem blankS_out {s : ByteArray} {i : Nat} (h : s.size ≤ i) : blankS s i = false := by unfold blankS; rw [outS_out h]; rfl
theorem begS_out {s : ByteArray} {i : Nat} (h : s.size ≤ i) : begS s i = false := by unfold begS strS; rw [outS_out h, wordS_out h, markS_out s i h]; rfl
/-- The places at which something begins. -/
def idxTo (s : ByteArray) (n : Nat) : List Nat := (List.range n).filter (begS s)
theorem idxTo_t {s : ByteArray} {n : Nat} (h : begS s n = true) : idxTo s (n + 1) = idxTo s n ++ [n] := by simp [idxTo, List.range_succ, h]
theorem idxTo_f {s : ByteArray} {n : Nat} (h : begS s n = false) : idxTo s (n + 1) = idxTo s n := by simp [idxTo, List.range_succ, h]
def idxS (s : ByteArray) : List Nat := idxTo s s.size

/-! Two texts, one behind the other. -/
theorem byteAt_join (s t : ByteArray) (i : Nat) : byteAt (s ++ t) i = if i < s.size then byteAt s i else byteAt t (i - s.size) := by
  unfold byteAt
  rw [ByteArray.data_append, Array.getElem?_append]
  show ((if i < s.size then s.data[i]? else t.data[i - s.size]?).getD 0).toNat = _
  split <;> rfl
theorem size_join8 (s t : ByteArray) : (s ++ t).size = s.size + t.size := ByteArray.size_append
theorem slash_join8 (s t : ByteArray) (i : Nat) : slash (s ++ t) i = if i < s.size then slash s i else slash t (i - s.size) := by
  unfold slash
  rw [ByteArray.data_append, Array.getElem?_append]
  show decide (((if i < s.size then s.data[i]? else t.data[i - s.size]?).getD 0).toNat = 92) = _
  split <;> rfl
theorem quo_join8 (s t : ByteArray) (i : Nat) : quoB (s ++ t) i = if i < s.size then quoB s i else quoB t (i - s.size) := by
  unfold quoB
  rw [ByteArray.data_append, Array.getElem?_append]
  show decide (((if i < s.size then s.data[i]? else t.data[i - s.size]?).getD 0).toNat = 34) = _
  split <;> rfl
theorem esc_first8 (s t : ByteArray) (c : Bool) (i : Nat) (hi : i ≤ s.size) : escG (slash (s ++ t)) c i = escG (slash s) c i :=
  escG_congr c fun j hj => by rw [slash_join8, if_pos (by omega)]
theorem esc_second8 (s t : ByteArray) (c : Bool) (i : Nat) : escG (slash (s ++ t)) c (s.size + i) = escG (slash t) (behindS s c) i := by
  rw [escG_add, esc_first8 s t c s.size (Nat.le_refl _)]
  exact escG_congr _ fun j _ => by rw [slash_join8, if_neg (by omega), Nat.add_sub_cancel_left]
theorem mark_first8 (s t : ByteArray) (i : Nat) (hi : i < s.size) : markS (s ++ t) i = markS s i := by
  unfold markS escS
  rw [quo_join8, if_pos hi, esc_first8 s t false i (by omega)]
theorem odd_first8 (s t : ByteArray) (i : Nat) (hi : i ≤ s.size) : oddG (markS (s ++ t)) i = oddG (markS s) i := oddG_congr fun j hj => mark_first8 s t j (by omega)
theorem in_first8 (s t : ByteArray) (i : Nat) (hi : i < s.size) : inS (s ++ t) i = inS s i := odd_first8 s t (i + 1) hi
theorem out_first (s t : ByteArray) (i : Nat) (hi : i < s.size) : outS (s ++ t) i = outS s i := by
  unfold outS
  rw [mark_first8 s t i hi, in_first8 s t i hi, decide_eq_true hi, decide_eq_true (by rw [size_join8]; omega)]
theorem word_first (s t : ByteArray) (i : Nat) (hi : i < s.size) : wordS (s ++ t) i = wordS s i := by
  unfold wordS sgnB blkB
  rw [out_first s t i hi, byteAt_join, if_pos hi]
theorem beg_first (s t : ByteArray) (i : Nat) (hi : i < s.size) : begS (s ++ t) i = begS s i := by
  unfold begS strS sgnB
  rw [out_first s t i hi, byteAt_join, if_pos hi, word_first s t i hi, mark_first8 s t i hi, in_first8 s t i hi]
  by_cases h0 : 0 < i
  · rw [word_first s t (i - 1) (by omega)]
  · rw [decide_eq_false h0]; simp
section
variable {s t : ByteArray} (hb : behindS s false = false) (ho : openS s = false)
include hb
theorem mark_second8 (i : Nat) : markS (s ++ t) (s.size + i) = markS t i := by
  unfold markS escS
  rw [quo_join8, if_neg (by omega), Nat.add_sub_cancel_left, esc_second8, hb]
include ho
theorem in_second8 (i : Nat) : inS (s ++ t) (s.size + i) = inS t i := by
  unfold inS
  rw [show s.size + i + 1 = s.size + (i + 1) by omega, oddG_add, odd_first8 s t s.size (Nat.le_refl _), oddG_congr (H := markS t) (fun j _ => mark_second8 hb j)]
  show (openS s ^^ oddG (markS t) (i + 1)) = _
  rw [ho, Bool.false_xor]
theorem out_second (i : Nat) : outS (s ++ t) (s.size + i) = outS t i := by
  unfold outS
  rw [mark_second8 hb, in_second8 hb ho, size_join8]
  congr 1
  rw [Bool.eq_iff_iff, decide_eq_true_eq, decide_eq_true_eq]
  omega
theorem word_second (i : Nat) : wordS (s ++ t) (s.size + i) = wordS t i := by
  unfold wordS sgnB blkB
  rw [out_second hb ho, byteAt_join, if_neg (by omega), Nat.add_sub_cancel_left]
theorem beg_second (i : Nat) : begS (s ++ t) (s.size + i) = (begS t i && !(decide (i = 0) && (wordS t 0 && (decide (0 < s.size) && wordS s (s.size - 1))))) := by
  unfold begS strS sgnB
  rw [out_second hb ho, byteAt_join, if_neg (by omega), Nat.add_sub_cancel_left, word_second hb ho, mark_second8 hb, in_second8 hb ho]
  cases i with
  | zero =>
    by_cases hn : 0 < s.size
    · rw [decide_eq_true (show 0 < s.size + 0 by omega), show s.size + 0 - 1 = s.size - 1 by omega, word_first s t (s.size - 1) (by omega), decide_eq_true hn]
      have hw : wordS t 0 = true → outS t 0 = true ∧ (byteAt t 0 == 123 || byteAt t 0 == 125 || byteAt t 0 == 91 || byteAt t 0 == 93 || byteAt t 0 == 58 || byteAt t 0 == 44) = false := fun h => by
        unfold wordS sgnB at h
        rw [Bool.and_eq_true, Bool.and_eq_true] at h
        exact ⟨h.1, by simpa using h.2.1⟩
      cases hwt : wordS t 0
      · simp
      · obtain ⟨h1, h2⟩ := hw hwt
        have h3 : markS t 0 = false := by
          unfold outS at h1
          cases hm : markS t 0
          · rfl
          · rw [hm] at h1; simp at h1
        rw [h2, h3]
        cases wordS s (s.size - 1) <;> simp
    · rw [decide_eq_false hn, decide_eq_false (show ¬ 0 < s.size + 0 by omega)]
      simp
  | succ i =>
    rw [show s.size + (i + 1) - 1 = s.size + i by omega, word_second hb ho, decide_eq_true (show 0 < s.size + (i + 1) by omega)]
    simp
end
end Go.Proofs.YtlckhiflhnlgpabGreatDoor
