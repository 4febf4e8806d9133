/-
  MkBlanks, RefM, RefM2, MkKind, one behind the other.
-/
import Derived.Test.YtlckhiflhnlgpaaGreatDoorPartE
import Derived.Test.YtlckhiflhnlgpaaGreatDoorMarkMath
import Derived.Test.YtlckhiflhnlgpaaGreatDoorRefQ
import Derived.Test.YtlckhiflhnlgpaaGreatDoorKitB
/- What marks.Blanks answers. -/
namespace Go.Proofs.YtlckhiflhnlgpaaGreatDoor
open Go.RowKit Go.Shelf

theorem pt_cell {w : World} {g K j f : Nat} {s : ByteArray} {t : TypeId} (h : At w g (rowCells (K * 5) (ptZ s)) t) (hj : j < K) (hf : f < 5) : w.cell? ⟨g, j * 5 + f, none⟩ = some (.int .u64 ((ptV s j f : Nat) : Int)) := by
  rw [h.cell, rowCells_get _ (by omega), ptZ, show (j * 5 + f) / 5 = j by omega, show (j * 5 + f) % 5 = f by omega]

end Go.Proofs.YtlckhiflhnlgpaaGreatDoor

/- What quarryref08.Bytes, begins, Index and Kind answer; what quarryref00.SameInts answers. -/
namespace Go.Proofs.YtlckhiflhnlgpaaGreatDoor
open Go.RowKit Go.Shelf

/-- The list of what the bytes are, as it lies. -/
def KdAt (w : World) (ao : Option Addr) (s : ByteArray) (n : Nat) : Prop := ∀ i, i < n → ∃ g, ao = some ⟨g, 0, none⟩ ∧ g < w.heap.size ∧ w.cell? ⟨g, i, none⟩ = some (.int .i64 ((kdS s i : Nat) : Int))
theorem KdAt.kept {n m : Nat} {w w' : World} {ao : Option Addr} {s : ByteArray} (h : KdAt w ao s n) (hm : w.heap.size ≤ m) (hb : Below m w w') : KdAt w' ao s n := fun i hi => by
  obtain ⟨g, h1, h2, h3⟩ := h i hi
  exact ⟨g, h1, Nat.lt_of_lt_of_le h2 hb.size, (hb.cell (p := ⟨g, i, none⟩) (by show g < m; omega)).trans h3⟩
end Go.Proofs.YtlckhiflhnlgpaaGreatDoor

/- What quarryref08.Index and Kind answer; what quarryref00.SameInts answers. -/
namespace Go.Proofs.YtlckhiflhnlgpaaGreatDoor
open Go.RowKit Go.Shelf

theorem idxTo_len (s : ByteArray) (n : Nat) : (idxTo s n).length ≤ n := by
  have := List.length_filter_le (begS s) (List.range n)
  rw [List.length_range] at this
  exact this

/-- What begins at a place, as a byte. -/
def kindN (s : ByteArray) (at_ : Int) : Nat := if 0 ≤ at_ ∧ at_ < (s.size : Int) then (if begS s at_.toNat then (if wordS s at_.toNat then 119 else byteAt s at_.toNat) else 0) else 0
end Go.Proofs.YtlckhiflhnlgpaaGreatDoor

/- What marks.Kind answers. -/
namespace Go.Proofs.YtlckhiflhnlgpaaGreatDoor
open Go.RowKit Go.Shelf

theorem cut_join (s : ByteArray) (k : Nat) : s.extract 0 k ++ s.extract k s.size = s := by
  apply ByteArray.ext
  rw [ByteArray.data_append, ByteArray.data_extract, ByteArray.data_extract]
  have e : s.size = s.data.size := rfl
  rw [e]
  simp
  exact .inr (Nat.le_max_right _ _)
theorem cut_size (s : ByteArray) (k : Nat) (h : k ≤ s.size) : (s.extract 0 k).size = k := by rw [ByteArray.size_extract]; omega
/-- What begins at a place hangs on nothing behind it. -/
theorem cut_opn (s : ByteArray) (i k : Nat) (h : k ≤ s.size) (hi : i < k) : opnS (s.extract 0 k) i = opnS s i := by
  have hz := cut_size s k h
  have h1 := mark_first8 (s.extract 0 k) (s.extract k s.size) i (by omega)
  have h2 := in_first8 (s.extract 0 k) (s.extract k s.size) i (by omega)
  rw [cut_join s k] at h1 h2
  unfold opnS
  rw [h1, h2]
theorem cut_strS (s : ByteArray) (i k : Nat) (h : k ≤ s.size) (hi : i < k) : strS (s.extract 0 k) i = strS s i := by
  have hz := cut_size s k h
  have h1 := out_first (s.extract 0 k) (s.extract k s.size) i (by omega)
  have h2 := byteAt_join (s.extract 0 k) (s.extract k s.size) i
  rw [cut_join s k] at h1 h2
  rw [if_pos (by omega)] at h2
  unfold strS sgnB
  rw [h1, h2]
theorem cut_wordS (s : ByteArray) (i k : Nat) (h : k ≤ s.size) (hi : i < k) : wordS (s.extract 0 k) i = wordS s i := by
  have hz := cut_size s k h
  have h1 := word_first (s.extract 0 k) (s.extract k s.size) i (by omega)
  rw [cut_join s k] at h1
  exact h1.symm
theorem cut_firS (s : ByteArray) (i k : Nat) (h : k ≤ s.size) (hi : i < k) : firS (s.extract 0 k) i = firS s i := by
  unfold firS
  rw [cut_wordS s i k h hi]
  by_cases h0 : 0 < i
  · rw [cut_wordS s (i - 1) k h (by omega)]
  · rw [decide_eq_false h0]; rfl
theorem beg_three (s : ByteArray) (i : Nat) : begS s i = ((strS s i || opnS s i) || firS s i) := by
  unfold begS firS opnS
  rw [Bool.or_assoc]
theorem and_bit {x r : Nat} (hx : x < 18446744073709551616) (hr : r < 64) : (bits BinOp.and IntKind.u64 (x : Int) (IntKind.u64.wrap ((2 : Int) ^ r)) != 0) = x.testBit r := by
  have hp : 2 ^ r < 18446744073709551616 := by have := Nat.pow_lt_pow_right (a := 2) (by decide) hr; simpa using this
  rw [(put_bit (X := 0) (Nat.pow_pos (by decide)) hr).1, u64_and_nat x (2 ^ r) hx hp]
  have e : x &&& 2 ^ r = if x.testBit r then 2 ^ r else 0 := by
    apply Nat.eq_of_testBit_eq
    intro j
    rw [Nat.testBit_and, Nat.testBit_two_pow]
    by_cases hj : r = j
    · subst hj
      cases hb : x.testBit r <;> simp
    · rw [decide_eq_false hj, Bool.and_false]
      split
      · rw [Nat.testBit_two_pow, decide_eq_false hj]
      · simp
  rw [e]
  have := Nat.pow_pos (n := r) (show 0 < 2 by decide)
  cases hb : x.testBit r
  · rfl
  · rw [if_pos rfl, bne_iff_ne]
    clear e
    generalize 2 ^ r = y at *
    omega

set_option maxRecDepth 10000 in
set_option maxHeartbeats 1000000 in
theorem kind8_calls (s : ByteArray) (hs : s.size ≤ 140737488355328) (a : Int) (ha : (Lit.int .i64 a).wf = true) (k : Nat) (hk : Hid (kindN s a = k)) (w : World) (hT : Tab w) (hM : TabM w) (hw0 : 1 < w.heap.size) :
    Calls Tryz.prog 22 #[.string s, .int .i64 a] w fun e w' => e = .returned (.int .u8 (k : Int)) ∧ Below w.heap.size w w' := by
  by_cases h : 0 ≤ a ∧ a < (s.size : Int)
  · obtain ⟨i, rfl⟩ := Int.eq_ofNat_of_zero_le h.1
    have hlt : i < s.size := by omega
    have hkk := hk.out
    unfold kindN at hkk
    rw [if_pos h, Int.toNat_natCast, beg_three] at hkk
    have hli : (i : Int) < (s.size : Int) := by omega
    have hsi : (s.size : Int) ≤ 140737488355328 := by omega
    have n0 : decide ((i : Int) < 0) = false := by simp
    have n1 : decide ((s.size : Int) ≤ (i : Int)) = false := by simp; omega
    have n1' : decide (s.size ≤ i) = false := by simp; omega
    obtain ⟨t, ht⟩ : ∃ t, Hid (s.extract 0 (i + 1) = t) := ⟨_, rfl⟩
    have htz : t.size = i + 1 := by rw [← ht.out]; exact cut_size s _ (by omega)
    have hpc := hid (parts_calls t (by omega) w hT hM hw0)
    obtain ⟨q, hq⟩ : ∃ q, Hid (i / 64 = q) := ⟨_, rfl⟩
    obtain ⟨r, hr⟩ : ∃ r, Hid (i % 64 = r) := ⟨_, rfl⟩
    have hr64 : r < 64 := by have := hr.out; omega
    have eq1 : (i : Int) / 64 = (q : Int) := by have := hq.out; omega
    have er1 : (i : Int) % 64 = (r : Int) := by have := hr.out; omega
    obtain ⟨K, hK⟩ : ∃ K, Hid (need t.size = K) := ⟨_, rfl⟩
    have hqK : q < K := by have := hK.out; have := hq.out; rw [htz] at *; unfold need at *; omega
    have hqKi : (q : Int) < (K : Int) := by omega
    have hKl : K ≤ 2199023255553 := by have := hK.out; unfold need at this; omega
    rw [hK.out] at hpc
    have htz' := hid htz
    have hsl : t = s.extract 0 (i + 1) := ht.out.symm
    have e64 : 64 * q + r = i := by have := hq.out; have := hr.out; omega
    have bS : (ptV t q 0).testBit r = strS s i := by
      show (rowOf (strS t) t.size q).testBit r = _
      rw [rowOf_test _ _ _ _ hr64, e64, decide_eq_true (by omega), Bool.true_and, ← ht.out, cut_strS s i (i + 1) (by omega) (by omega)]
    have bO : (ptV t q 3).testBit r = opnS s i := by
      show (rowOf (opnS t) t.size q).testBit r = _
      rw [rowOf_test _ _ _ _ hr64, e64, decide_eq_true (by omega), Bool.true_and, ← ht.out, cut_opn s i (i + 1) (by omega) (by omega)]
    have bF : (ptV t q 4).testBit r = firS s i := by
      show (rowOf (firS t) t.size q).testBit r = _
      rw [rowOf_test _ _ _ _ hr64, e64, decide_eq_true (by omega), Bool.true_and, ← ht.out, cut_firS s i (i + 1) (by omega) (by omega)]
    obtain ⟨P0, hP0⟩ : ∃ P, Hid (ptV t q 0 = P) := ⟨_, rfl⟩
    obtain ⟨P1, hP1⟩ : ∃ P, Hid (ptV t q 1 = P) := ⟨_, rfl⟩
    obtain ⟨P2, hP2⟩ : ∃ P, Hid (ptV t q 2 = P) := ⟨_, rfl⟩
    obtain ⟨P3, hP3⟩ : ∃ P, Hid (ptV t q 3 = P) := ⟨_, rfl⟩
    obtain ⟨P4, hP4⟩ : ∃ P, Hid (ptV t q 4 = P) := ⟨_, rfl⟩
    have l0 : P0 < 18446744073709551616 := hP0.out ▸ ptV_lt t q 0
    have l3 : P3 < 18446744073709551616 := hP3.out ▸ ptV_lt t q 3
    have l4 : P4 < 18446744073709551616 := hP4.out ▸ ptV_lt t q 4
    rw [hP0.out] at bS
    rw [hP3.out] at bO
    rw [hP4.out] at bF
    obtain ⟨Q, hQ⟩ : ∃ Q, Hid (P0 ||| P3 = Q) := ⟨_, rfl⟩
    have lQ : Q < 18446744073709551616 := hQ.out ▸ Nat.or_lt_two_pow (n := 64) l0 l3
    have eo : bits BinOp.or IntKind.u64 (P0 : Int) (P3 : Int) = (Q : Int) := by rw [u64_or_nat P0 P3 l0 l3, hQ.out]
    have ea := and_bit lQ hr64
    have ef := and_bit l4 hr64
    rw [← hQ.out, Nat.testBit_or, bS, bO, hQ.out] at ea
    rw [bF] at ef
    have hwd : Hid (firS s i = true → wordS s i = true) := fun h => by unfold firS at h; rw [Bool.and_eq_true] at h; exact h.1
    have hnw : Hid ((strS s i || opnS s i) = true → wordS s i = false) := fun h => by
      unfold strS opnS at h
      unfold wordS
      unfold outS at h ⊢
      generalize decide (i < s.size) = d at h ⊢
      revert h
      cases d <;> cases markS s i <;> cases inS s i <;> cases sgnB s i <;> cases blkB s i <;> simp
    have hkk' := hid hkk
    obtain ⟨b1, hb1⟩ : ∃ b, Hid ((strS s i || opnS s i) = b) := ⟨_, rfl⟩
    obtain ⟨b2, hb2⟩ : ∃ b, Hid (firS s i = b) := ⟨_, rfl⟩
    rw [hb1.out] at ea hnw hkk'
    rw [hb2.out] at ef hwd hkk'
    clear hkk h hk bS bO bF hT hM htz hq hr hK e64 hQ hb1 hb2 ha
    go_enter Tryz.func22, Tryz.ntmps22
    go_wp2_with fail
    rw [ht.out]
    refine Calls.mono hpc.out ?_
    rintro e w1 ⟨g, hg, rfl, hA, hb⟩
    have c0 := pt_cell hA hqK (f := 0) (by omega)
    have c1 := pt_cell hA hqK (f := 1) (by omega)
    have c2 := pt_cell hA hqK (f := 2) (by omega)
    have c3 := pt_cell hA hqK (f := 3) (by omega)
    have c4 := pt_cell hA hqK (f := 4) (by omega)
    rw [Nat.add_zero, hP0.out] at c0
    rw [hP1.out] at c1
    rw [hP2.out] at c2
    rw [hP3.out] at c3
    rw [hP4.out] at c4
    have hbx := byteAt_eq s i hlt
    obtain ⟨x, hx⟩ : ∃ x, Hid (byteAt s i = x) := ⟨_, rfl⟩
    rw [hx.out] at hbx hkk'
    have hb' := hid hb
    clear hA hpc hb hP0 hP1 hP2 hP3 hP4 hx ht htz' hsl
    cases b1 with
    | true =>
      obtain rfl : k = x := by have h1 := hkk'.out; rw [hnw.out rfl] at h1; simpa using h1.symm
      clear hkk' hnw hwd
      go_wp2
      go_ret
      exact ⟨rfl, hb'.out.alloc hb'.out.size _⟩
    | false =>
      cases b2 with
      | true =>
        obtain rfl : k = 119 := by have h1 := hkk'.out; rw [hwd.out rfl] at h1; simpa using h1.symm
        clear hkk' hnw hwd
        go_wp2
        go_ret
        exact ⟨rfl, hb'.out.alloc hb'.out.size _⟩
      | false =>
        obtain rfl : k = 0 := by have h1 := hkk'.out; simpa using h1.symm
        clear hkk' hnw hwd
        go_wp2
        go_ret
        exact ⟨rfl, hb'.out.alloc hb'.out.size _⟩
  · have hke : k = 0 := by have := hk.out; unfold kindN at this; rw [if_neg h] at this; exact this.symm
    subst hke
    clear hk
    go_enter Tryz.func22, Tryz.ntmps22
    by_cases h0 : a < 0
    · have n0 : decide (a < 0) = true := by simp; omega
      clear h
      go_wp2
      go_ret
      exact ⟨rfl, Below.refl _ _⟩
    · have n0 : decide (a < 0) = false := by simp; omega
      have n1 : decide ((s.size : Int) ≤ a) = true := by simp; omega
      clear h h0
      go_wp2
      go_ret
      exact ⟨rfl, Below.refl _ _⟩
end Go.Proofs.YtlckhiflhnlgpaaGreatDoor
