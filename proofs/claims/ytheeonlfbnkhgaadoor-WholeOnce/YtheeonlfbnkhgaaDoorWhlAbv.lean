/-
  Digits compared as texts (mathematics), and what the reference's above, worth and Plain answer.
-/
import Derived.Test.YtheeonlfbnkhgaaDoorWhlBk
import Derived.Test.YtheeonlfbnkhgaaDoorDReads
namespace Go.Proofs.YtheeonlfbnkhgaaDoor
open Go.RowKit Go.Shelf

theorem less_pw : ∀ (a b : List UInt8), a.length = b.length → (∀ x ∈ a, dgB x.toNat = true) → (∀ x ∈ b, dgB x.toNat = true) → Op.bytesLess a b = decide (pwN a < pwN b)
  | [], [], _, _, _ => by simp [Op.bytesLess]
  | [], _ :: _, h, _, _ => by simp at h
  | _ :: _, [], h, _, _ => by simp at h
  | x :: a, y :: b, h, ha, hb => by
    have hl : a.length = b.length := by simpa using h
    have ih := less_pw a b hl (fun z hz => ha z (List.mem_cons_of_mem _ hz)) (fun z hz => hb z (List.mem_cons_of_mem _ hz))
    have h1 := pw_lt (l := a) (fun z hz => ha z (List.mem_cons_of_mem _ hz))
    have h2 := pw_lt (l := b) (fun z hz => hb z (List.mem_cons_of_mem _ hz))
    have hx := (dgB_iff _).1 (ha x List.mem_cons_self)
    have hy := (dgB_iff _).1 (hb y List.mem_cons_self)
    rw [pw_cons, pw_cons, hl]
    rw [hl] at h1
    unfold Op.bytesLess
    rw [ih]
    generalize 10 ^ b.length = T at h1 h2 ⊢
    by_cases e : x = y
    · subst e
      have : ¬ x < x := UInt8.lt_irrefl x
      simp
    · have e1 : ¬ x.toNat = y.toNat := fun h => e (UInt8.toNat_inj.1 h)
      have e2 : (x == y) = false := beq_eq_false_iff_ne.2 e
      rcases Nat.lt_or_gt_of_ne e1 with h4 | h4
      · have h5 : x < y := UInt8.lt_iff_toNat_lt.2 h4
        obtain ⟨d, hd⟩ : ∃ d, y.toNat - 48 = (x.toNat - 48) + 1 + d := ⟨y.toNat - 48 - (x.toNat - 48) - 1, by omega⟩
        rw [hd, Nat.add_mul, Nat.add_mul, Nat.one_mul]
        have h6 : (x.toNat - 48) * T + pwN a < (x.toNat - 48) * T + T + d * T + pwN b := by omega
        simp [h5, h6]
      · have h5 : ¬ x < y := fun h => by have := UInt8.lt_iff_toNat_lt.1 h; omega
        obtain ⟨d, hd⟩ : ∃ d, x.toNat - 48 = (y.toNat - 48) + 1 + d := ⟨x.toNat - 48 - (y.toNat - 48) - 1, by omega⟩
        rw [hd, Nat.add_mul, Nat.add_mul, Nat.one_mul]
        have h6 : ¬ (y.toNat - 48) * T + T + d * T + pwN a < (y.toNat - 48) * T + pwN b := by omega
        simp [h5, h6, e2]
/-- As many digits, the same number: the same digits. -/
theorem digs_inj : ∀ (a b : List UInt8), a.length = b.length → (∀ x ∈ a, dgB x.toNat = true) → (∀ x ∈ b, dgB x.toNat = true) → pwN a = pwN b → a = b
  | [], [], _, _, _, _ => rfl
  | [], _ :: _, h, _, _, _ => by simp at h
  | _ :: _, [], h, _, _, _ => by simp at h
  | x :: a, y :: b, h, ha, hb, hp => by
    have hl : a.length = b.length := by simpa using h
    have ih := digs_inj a b hl (fun z hz => ha z (List.mem_cons_of_mem _ hz)) (fun z hz => hb z (List.mem_cons_of_mem _ hz))
    have h1 := pw_lt (l := a) (fun z hz => ha z (List.mem_cons_of_mem _ hz))
    have h2 := pw_lt (l := b) (fun z hz => hb z (List.mem_cons_of_mem _ hz))
    have hx := (dgB_iff _).1 (ha x List.mem_cons_self)
    have hy := (dgB_iff _).1 (hb y List.mem_cons_self)
    rw [pw_cons, pw_cons, hl] at hp
    rw [hl] at h1
    generalize 10 ^ b.length = T at h1 h2 hp
    have e1 : x.toNat = y.toNat := by
      rcases Nat.lt_trichotomy x.toNat y.toNat with h4 | h4 | h4
      · exfalso
        obtain ⟨d, hd⟩ : ∃ d, y.toNat - 48 = (x.toNat - 48) + 1 + d := ⟨y.toNat - 48 - (x.toNat - 48) - 1, by omega⟩
        rw [hd, Nat.add_mul, Nat.add_mul, Nat.one_mul] at hp
        omega
      · exact h4
      · exfalso
        obtain ⟨d, hd⟩ : ∃ d, x.toNat - 48 = (y.toNat - 48) + 1 + d := ⟨x.toNat - 48 - (y.toNat - 48) - 1, by omega⟩
        rw [hd, Nat.add_mul, Nat.add_mul, Nat.one_mul] at hp
        omega
    have e : x = y := UInt8.toNat_inj.1 e1
    subst e
    rw [ih (by omega)]
theorem allD_list {D : ByteArray} (h : AllD D) : ∀ b ∈ D.data.toList, dgB b.toNat = true := fun b hb => by
  obtain ⟨i, hi, h2⟩ := byte_lk hb
  rw [← h2]
  exact h i hi
/-- Is the one text of digits above the other? -/
def abvS (a b : ByteArray) : Bool := if a.size ≠ b.size then decide (b.size < a.size) else (!Op.bytesLess a.toList b.toList && !a.toList == b.toList)
/-- Of a plain number's digits, beside a number's own text: is it greater? -/
theorem abv_pw {D : ByteArray} (hd : AllD D) (hl : lk D 0 = 48 → D.size = 1) (h0 : 0 < D.size) (m : Nat) : abvS D ⟨(Lib.decDigits m).toArray⟩ = decide (m < pwN D.data.toList) := by
  have hD := allD_list hd
  have hlen : D.data.toList.length = D.size := size_list D
  have hE := dec_dig m
  have hEs : (⟨(Lib.decDigits m).toArray⟩ : ByteArray).size = (Lib.decDigits m).length := Lib.size_mk _
  have hEp := dec_pos m
  have hm := dec_pw m
  have hEl : (⟨(Lib.decDigits m).toArray⟩ : ByteArray).toList = Lib.decDigits m := by rw [Lib.toList_data]
  unfold abvS
  rw [hEs, hEl, Lib.toList_data]
  by_cases hs : D.size = (Lib.decDigits m).length
  · rw [if_neg (by omega), less_pw _ _ (by rw [hlen]; exact hs) hD hE, hm]
    by_cases e : D.data.toList = Lib.decDigits m
    · have h1 : pwN D.data.toList = m := by rw [e, hm]
      rw [e]
      simp [hm]
    · have h1 : pwN D.data.toList ≠ m := by
        intro h2
        apply e
        exact digs_inj _ _ (by rw [hlen]; exact hs) hD hE (by rw [h2, hm])
      have e2 : (D.data.toList == Lib.decDigits m) = false := beq_eq_false_iff_ne.2 e
      rw [e2]
      by_cases h3 : pwN D.data.toList < m
      · have h4 : ¬ m < pwN D.data.toList := by omega
        simp [h3, h4]
      · have h4 : m < pwN D.data.toList := by omega
        simp [h3, h4]
  · rw [if_pos (by omega)]
    by_cases h3 : (Lib.decDigits m).length < D.size
    · rw [decide_eq_true h3]
      have hne : D.data.toList ≠ [] := fun e => by rw [e] at hlen; simp at hlen; omega
      have h5 := pw_ge hD hne (fun b hb e => by
        have := (lk_get (t := D) (j := 0) hb).1
        rw [e] at this
        have h6 := hl this
        omega)
      have h6 := pw_lt hE
      rw [hm] at h6
      rw [hlen] at h5
      have h7 : 10 ^ (Lib.decDigits m).length ≤ 10 ^ (D.size - 1) := Nat.pow_le_pow_right (by decide) (by omega)
      rw [decide_eq_true (by omega)]
    · rw [decide_eq_false h3]
      have h4 : D.size < (Lib.decDigits m).length := by omega
      have hm0 : 0 < m := by
        rcases Nat.eq_zero_or_pos m with h | h
        · rw [h, Lib.decDigits_length, Lib.nDigits_small (by decide)] at h4; omega
        · exact h
      obtain ⟨c, l, h6, h7⟩ := dec_first m hm0
      have h5 := pw_ge hE (by rw [h6]; simp) (fun b hb e => by
        rw [h6] at hb
        simp at hb
        rw [hb, e] at h7
        exact h7 rfl)
      rw [hm] at h5
      have h8 := pw_lt hD
      rw [hlen] at h8
      have h9 : 10 ^ D.size ≤ 10 ^ ((Lib.decDigits m).length - 1) := Nat.pow_le_pow_right (by decide) (by omega)
      rw [decide_eq_false (by omega)]
end Go.Proofs.YtheeonlfbnkhgaaDoor
