/-
  Of no program: what each byte of a text is outside of its quotes; two texts, one behind the other.
-/
import Derived.Test.YtlckhiflhnlgpaaGreatDoorQuoE
namespace Go.Proofs.YtlckhiflhnlgpaaGreatDoor

/-- Is the byte i a structural sign, wherever it stands? -/
def sgnB (s : ByteArray) (i : Nat) : Bool := byteAt s i == 123 || byteAt s i == 125 || byteAt s i == 91 || byteAt s i == 93 || byteAt s i == 58 || byteAt s i == 44
/-- Is it a blank, wherever it stands? -/
def blkB (s : ByteArray) (i : Nat) : Bool := byteAt s i == 32 || byteAt s i == 9 || byteAt s i == 10 || byteAt s i == 13
/-- Is the place outside? -/
def outS (s : ByteArray) (i : Nat) : Bool := decide (i < s.size) && (!markS s i && !inS s i)
def strS (s : ByteArray) (i : Nat) : Bool := outS s i && sgnB s i
def blankS (s : ByteArray) (i : Nat) : Bool := outS s i && blkB s i
def wordS (s : ByteArray) (i : Nat) : Bool := outS s i && (!sgnB s i && !blkB s i)
/-- Does something begin there? -/
def begS (s : ByteArray) (i : Nat) : Bool := strS s i || ((markS s i && inS s i) || (wordS s i && !(decide (0 < i) && wordS s (i - 1))))
/-- What the byte is, by number: 1 structural, 2 a blank, 3 a mark that opens, 4 one that closes, 5 inside, 6 of a word. -/
def kdS (s : ByteArray) (i : Nat) : Nat := if markS s i && inS s i then 3 else if markS s i then 4 else if inS s i then 5 else if sgnB s i then 1 else if blkB s i then 2 else 6
theorem sgn_blk (s : ByteArray) (i : Nat) (h : sgnB s i = true) : blkB s i = false := by
  unfold sgnB at h
  unfold blkB
  generalize byteAt s i = x at h ⊢
  simp only [Bool.or_eq_true, beq_iff_eq] at h
  rcases h with ((((h | h) | h) | h) | h) | h <;> subst h <;> rfl
theorem outS_out {s : ByteArray} {i : Nat} (h : s.size ≤ i) : outS s i = false := by unfold outS; rw [decide_eq_false (by omega)]; rfl
theorem wordS_out {s : ByteArray} {i : Nat} (h : s.size ≤ i) : wordS s i = false := by unfold wordS; rw [outS_out h]; rfl
/-- The places at which something begins. -/
def idxTo (s : ByteArray) (n : Nat) : List Nat := (List.range n).filter (begS s)
theorem idxTo_t {s : ByteArray} {n : Nat} (h : begS s n = true) : idxTo s (n + 1) = idxTo s n ++ [n] := by simp [idxTo, List.range_succ, h]
theorem idxTo_f {s : ByteArray} {n : Nat} (h : begS s n = false) : idxTo s (n + 1) = idxTo s n := by simp [idxTo, List.range_succ, h]
def idxS (s : ByteArray) : List Nat := idxTo s s.size

/-! Two texts, one behind the other. -/
theorem byteAt_join (s t : ByteArray) (i : Nat) : byteAt (s ++ t) i = if i < s.size then byteAt s i else byteAt t (i - s.size) := by
  unfold byteAt
  rw [ByteArray.data_append, Array.getElem?_append]
  show ((if i < s.size then s.data[i]? else t.data[i - s.size]?).getD 0).toNat = _
  split <;> rfl
theorem size_join8 (s t : ByteArray) : (s ++ t).size = s.size + t.size := ByteArray.size_append
theorem slash_join8 (s t : ByteArray) (i : Nat) : slash (s ++ t) i = if i < s.size then slash s i else slash t (i - s.size) := by
  unfold slash
  rw [ByteArray.data_append, Array.getElem?_append]
  show decide (((if i < s.size then s.data[i]? else t.data[i - s.size]?).getD 0).toNat = 92) = _
  split <;> rfl
theorem quo_join8 (s t : ByteArray) (i : Nat) : quoB (s ++ t) i = if i < s.size then quoB s i else quoB t (i - s.size) := by
  unfold quoB
  rw [ByteArray.data_append, Array.getElem?_append]
  show decide (((if i < s.size then s.data[i]? else t.data[i - s.size]?).getD 0).toNat = 34) = _
  split <;> rfl
theorem esc_first8 (s t : ByteArray) (c : Bool) (i : Nat) (hi : i ≤ s.size) : escG (slash (s ++ t)) c i = escG (slash s) c i :=
  escG_congr c fun j hj => by rw [slash_join8, if_pos (by omega)]
theorem esc_second8 (s t : ByteArray) (c : Bool) (i : Nat) : escG (slash (s ++ t)) c (s.size + i) = escG (slash t) (behindS s c) i := by
  rw [escG_add, esc_first8 s t c s.size (Nat.le_refl _)]
  exact escG_congr _ fun j _ => by rw [slash_join8, if_neg (by omega), Nat.add_sub_cancel_left]
theorem mark_first8 (s t : ByteArray) (i : Nat) (hi : i < s.size) : markS (s ++ t) i = markS s i := by
  unfold markS escS
  rw [quo_join8, if_pos hi, esc_first8 s t false i (by omega)]
theorem odd_first8 (s t : ByteArray) (i : Nat) (hi : i ≤ s.size) : oddG (markS (s ++ t)) i = oddG (markS s) i := oddG_congr fun j hj => mark_first8 s t j (by omega)
theorem in_first8 (s t : ByteArray) (i : Nat) (hi : i < s.size) : inS (s ++ t) i = inS s i := odd_first8 s t (i + 1) hi
theorem out_first (s t : ByteArray) (i : Nat) (hi : i < s.size) : outS (s ++ t) i = outS s i := by
  unfold outS
  rw [mark_first8 s t i hi, in_first8 s t i hi, decide_eq_true hi, decide_eq_true (by rw [size_join8]; omega)]
theorem word_first (s t : ByteArray) (i : Nat) (hi : i < s.size) : wordS (s ++ t) i = wordS s i := by
  unfold wordS sgnB blkB
  rw [out_first s t i hi, byteAt_join, if_pos hi]
section
variable {s t : ByteArray} (hb : behindS s false = false) (ho : openS s = false)
include hb
theorem mark_second8 (i : Nat) : markS (s ++ t) (s.size + i) = markS t i := by
  unfold markS escS
  rw [quo_join8, if_neg (by omega), Nat.add_sub_cancel_left, esc_second8, hb]
include ho
theorem in_second8 (i : Nat) : inS (s ++ t) (s.size + i) = inS t i := by
  unfold inS
  rw [show s.size + i + 1 = s.size + (i + 1) by omega, oddG_add, odd_first8 s t s.size (Nat.le_refl _), oddG_congr (H := markS t) (fun j _ => mark_second8 hb j)]
  show (openS s ^^ oddG (markS t) (i + 1)) = _
  rw [ho, Bool.false_xor]
theorem out_second (i : Nat) : outS (s ++ t) (s.size + i) = outS t i := by
  unfold outS
  rw [mark_second8 hb, in_second8 hb ho, size_join8]
  congr 1
  rw [Bool.eq_iff_iff, decide_eq_true_eq, decide_eq_true_eq]
  omega
end
end Go.Proofs.YtlckhiflhnlgpaaGreatDoor
