/-
  What a number's text is read as (mathematics).
-/
import Derived.Test.YtheeonlfbnkhgaaDoorWhlAwake
namespace Go.Proofs.YtheeonlfbnkhgaaDoor
open Go.RowKit Go.Shelf

theorem dec_first (u : Nat) (h : 0 < u) : ∃ b l, Lib.decDigits u = b :: l ∧ b.toNat ≠ 48 := by
  induction u using Nat.strongRecOn with
  | _ u ih =>
    rw [Lib.decDigits]
    split
    · rename_i h1
      exact ⟨_, _, rfl, by rw [dig_byte u h1]; omega⟩
    · rename_i h1
      obtain ⟨b, l, h2, h3⟩ := ih (u / 10) (by omega) (by omega)
      exact ⟨b, _, by rw [h2, List.cons_append], h3⟩
theorem dec_len (u : Nat) (h : u < 18446744073709551616) : (Lib.decDigits u).length ≤ 20 := by
  rw [Lib.decDigits_length]
  by_cases h0 : u = 0
  · rw [h0, Lib.nDigits_small (by decide)]; decide
  · have := Lib.numDigits_eq u (by omega) h
    split at this <;> omega
theorem dec_plain (b : Bool) (u : Nat) (h : b = true → 0 < u) : PlainN (txN b ++ ⟨(Lib.decDigits u).toArray⟩) b ⟨(Lib.decDigits u).toArray⟩ := by
  refine ⟨rfl, by rw [Lib.size_mk]; exact dec_pos u, allD_mk (dec_dig u), fun e => ?_⟩
  by_cases h0 : u = 0
  · subst h0
    rw [Lib.size_mk, Lib.decDigits_length, Lib.nDigits_small (by decide)]
  · exfalso
    obtain ⟨c, l, h2, h3⟩ := dec_first u (by omega)
    rw [h2, lk_mk _ 0 (by simp)] at e
    exact h3 e
theorem itoa_txt (n : Int) : (⟨(Lib.itoa n).toArray⟩ : ByteArray) = txN (decide (n < 0)) ++ ⟨(Lib.decDigits n.natAbs).toArray⟩ := by
  unfold Lib.itoa
  by_cases h : n < 0
  · rw [if_pos h, decide_eq_true h]
    rfl
  · rw [if_neg h, decide_eq_false h]
    show _ = (⟨#[]⟩ : ByteArray) ++ _
    rw [nil_app]
    have : n.toNat = n.natAbs := by omega
    rw [this]
theorem itoa_plain (n : Int) : PlainN ⟨(Lib.itoa n).toArray⟩ (decide (n < 0)) ⟨(Lib.decDigits n.natAbs).toArray⟩ := by
  rw [itoa_txt]
  exact dec_plain _ _ (fun h => by have := of_decide_eq_true h; omega)
theorem itoa_val (n : Int) : valS ⟨(Lib.itoa n).toArray⟩ = n := by
  rw [(itoa_plain n).val_eq]
  show (if decide (n < 0) = true then -((pwN (Lib.decDigits n.natAbs) : Nat) : Int) else ((pwN (Lib.decDigits n.natAbs) : Nat) : Int)) = n
  rw [dec_pw]
  by_cases h : n < 0
  · rw [decide_eq_true h, if_pos rfl]; omega
  · rw [decide_eq_false h, if_neg (by decide)]; omega
/-- A number's text is read as it. -/
theorem who_text {T : ByteArray} {n lo hi : Int} (hT : Hid ((⟨(Lib.itoa n).toArray⟩ : ByteArray) = T)) (h0 : lo ≤ n) (h1 : n ≤ hi) : wholeS lo hi T = (n, 0) := by
  rw [← hT.out]
  exact who_fit (itoa_plain n).of (itoa_plain n).noP (itoa_val n) h0 h1
theorem itoa_size {T : ByteArray} {n : Int} (hT : Hid ((⟨(Lib.itoa n).toArray⟩ : ByteArray) = T)) (h : n.natAbs < 18446744073709551616) : T.size ≤ 281474976710656 := by
  have hl := dec_len n.natAbs h
  have h2 : (txN (decide (n < 0))).size ≤ 1 := by cases decide (n < 0) <;> decide
  have h3 : (⟨(Lib.decDigits n.natAbs).toArray⟩ : ByteArray).size = (Lib.decDigits n.natAbs).length := Lib.size_mk _
  rw [← hT.out, itoa_txt, app_size, h3]
  omega
end Go.Proofs.YtheeonlfbnkhgaaDoor
