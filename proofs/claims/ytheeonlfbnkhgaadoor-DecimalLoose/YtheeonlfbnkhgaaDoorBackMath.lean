/-
  What is written of a decimal is read as it (mathematics; for DecimalBack).
-/
import Derived.Test.YtheeonlfbnkhgaaDoorTxtMath
import Derived.Test.YtheeonlfbnkhgaaDoorRefMake
import Derived.Lib.ItoaNum
namespace Go.Proofs.YtheeonlfbnkhgaaDoor
open Go.RowKit

theorem dig_byte (k : Nat) (h : k < 10) : (UInt8.ofNat (48 + k)).toNat = 48 + k := by
  rw [UInt8.toNat_ofNat']
  omega
theorem dec_pw (u : Nat) : pwN (Lib.decDigits u) = u := by
  induction u using Nat.strongRecOn with
  | _ u ih =>
    rw [Lib.decDigits]
    split
    · rename_i h
      show 10 * 0 + ((UInt8.ofNat (48 + u)).toNat - 48) = u
      rw [dig_byte u h]; omega
    · rename_i h
      rw [pwN_snoc, ih (u / 10) (by omega), dig_byte _ (Nat.mod_lt _ (by decide))]
      omega
theorem dec_dig (u : Nat) : ∀ b ∈ Lib.decDigits u, dgB b.toNat = true := by
  induction u using Nat.strongRecOn with
  | _ u ih =>
    rw [Lib.decDigits]
    split
    · rename_i h
      intro b hb
      rw [List.mem_singleton.1 hb, dig_byte u h, dgB_iff]
      omega
    · rename_i h
      intro b hb
      rcases List.mem_append.1 hb with hb | hb
      · exact ih (u / 10) (by omega) b hb
      · have := Nat.mod_lt u (show 0 < 10 by decide)
        rw [List.mem_singleton.1 hb, dig_byte _ this, dgB_iff]
        omega
theorem dec_pos (u : Nat) : 0 < (Lib.decDigits u).length := by
  rw [Lib.decDigits]
  split
  · exact Nat.one_pos
  · rw [List.length_append]; exact Nat.lt_of_lt_of_le Nat.one_pos (Nat.le_add_left _ _)
theorem allD_mk {l : List UInt8} (h : ∀ b ∈ l, dgB b.toNat = true) : AllD ⟨l.toArray⟩ := fun i hi => by
  rw [Lib.size_mk] at hi
  rw [lk_mk l i hi]
  exact h _ (List.getElem_mem hi)
/-- What Text writes. -/
def txN (n : Bool) : ByteArray := if n then ⟨#[45]⟩ else ⟨#[]⟩
def txW (t : ByteArray) : ByteArray := if t.size = 0 then ⟨#[48]⟩ else t
def txX (x : Int) : ByteArray := if x = 0 then ⟨#[]⟩ else ⟨#[101]⟩ ++ ⟨(Lib.itoa x).toArray⟩
def txtB (n : Bool) (t : ByteArray) (x : Int) : ByteArray := txN n ++ (txW t ++ (⟨#[]⟩ ++ txX x))
theorem frm_parts {t : ByteArray} {x : Int} (h : frmS t x = true) (h0 : t.size ≠ 0) : AllD t ∧ lk t 0 ≠ 48 ∧ lk t (t.size - 1) ≠ 48 ∧ inB x = true := by
  unfold frmS at h
  rw [if_neg h0] at h
  simp only [Bool.and_eq_true, decide_eq_true_eq] at h
  obtain ⟨⟨h1, h2, h3⟩, h4⟩ := h
  exact ⟨fun i hi => rn_dig t 0 i (Nat.zero_le _) (by omega), h2, h3, h4⟩
theorem txP (n : Bool) {t : ByteArray} {x : Int} (h : frmS t x = true) : ∃ D dn, TxtP n (txW t) ⟨#[]⟩ dn D (txN n) ⟨#[]⟩ (txX x) ∧ powS ⟨n, txW t, ⟨#[]⟩, dn, D⟩ = x := by
  have hsign : (txN n = ⟨#[]⟩ ∧ n = false) ∨ (txN n = ⟨#[45]⟩ ∧ n = true) := by
    cases n
    · exact .inl ⟨rfl, rfl⟩
    · exact .inr ⟨rfl, rfl⟩
  have hW : 0 < (txW t).size ∧ AllD (txW t) ∧ (lk (txW t) 0 = 48 → (txW t).size = 1) := by
    unfold txW
    by_cases h0 : t.size = 0
    · rw [if_pos h0]
      refine ⟨Nat.one_pos, fun i hi => ?_, fun _ => rfl⟩
      have hi' : i < 1 := hi
      obtain rfl : i = 0 := by omega
      rfl
    · rw [if_neg h0]
      obtain ⟨h1, h2, -, -⟩ := frm_parts h h0
      exact ⟨by omega, h1, fun e => absurd e h2⟩
  by_cases hx : x = 0
  · refine ⟨⟨#[]⟩, false, ⟨hsign, hW.1, hW.2.1, hW.2.2, .inl ⟨rfl, rfl⟩, .inl ⟨by rw [txX, if_pos hx], rfl, rfl⟩⟩, ?_⟩
    rw [hx]
    rfl
  · by_cases hneg : x < 0
    · refine ⟨⟨(Lib.decDigits x.natAbs).toArray⟩, true, ⟨hsign, hW.1, hW.2.1, hW.2.2, .inl ⟨rfl, rfl⟩, .inr ⟨101, ⟨#[45]⟩, ?_, .inl rfl, .inr (.inr ⟨rfl, rfl⟩), by rw [Lib.size_mk]; exact dec_pos _, allD_mk (dec_dig _)⟩⟩, ?_⟩
      · rw [txX, if_neg hx, Lib.itoa, if_pos hneg]
        congr 1
      · show -((pwN (Lib.decDigits x.natAbs) : Nat) : Int) = x
        rw [dec_pw]; omega
    · refine ⟨⟨(Lib.decDigits x.toNat).toArray⟩, false, ⟨hsign, hW.1, hW.2.1, hW.2.2, .inl ⟨rfl, rfl⟩, .inr ⟨101, ⟨#[]⟩, ?_, .inl rfl, .inl ⟨rfl, rfl⟩, by rw [Lib.size_mk]; exact dec_pos _, allD_mk (dec_dig _)⟩⟩, ?_⟩
      · rw [txX, if_neg hx, Lib.itoa, if_neg hneg, nil_app]
      · show ((pwN (Lib.decDigits x.toNat) : Nat) : Int) = x
        rw [dec_pw]; omega
/-- Of of what is written. -/
theorem of_text (n : Bool) {t : ByteArray} {x : Int} (h : frmS t x = true) : ofS (txtB n t x) = (⟨n, t.data.toList, x⟩, 0) := by
  obtain ⟨D, dn, hP, hpw⟩ := txP n h
  have hsc := hP.scan
  have hw : worthS ⟨n, txW t, ⟨#[]⟩, dn, D⟩ = some ⟨n, t.data.toList, x⟩ := by
    by_cases h0 : t.size = 0
    · have hx : x = 0 := by have := h; rw [frm_none h0] at this; exact of_decide_eq_true this
      have ht : t.data.toList = [] := List.eq_nil_of_length_eq_zero (by rw [size_list]; exact h0)
      have hW : txW t = ⟨#[48]⟩ := by rw [txW, if_pos h0]
      unfold worthS
      rw [if_pos (by rw [hW]; rfl), ht, hx]
    · obtain ⟨-, h2, h3, h4⟩ := frm_parts h h0
      have hW : txW t = t := by rw [txW, if_neg h0]
      have hall : allS ⟨n, txW t, ⟨#[]⟩, dn, D⟩ = t.data.toList := by
        show Lib.trimLeftB ((txW t).data.toList ++ []) 48 = _
        rw [List.append_nil, hW]
        exact lead_drop (k := 0) (Nat.zero_le _) (fun j hj => by omega) (.inr h2)
      have hdig : digS ⟨n, txW t, ⟨#[]⟩, dn, D⟩ = t.data.toList := by
        unfold digS
        rw [hall]
        have := trail_take (t := t) (k := 0) (m := t.size) (Nat.zero_le _) (Nat.le_refl _) (fun j h5 h6 => by omega) (.inr h3)
        rw [List.drop_zero, Nat.sub_zero, List.take_of_length_le (by rw [size_list]; exact Nat.le_refl _)] at this
        exact this
      have hex : expS ⟨n, txW t, ⟨#[]⟩, dn, D⟩ = x := by
        unfold expS
        rw [hpw, hall, hdig]
        show x - ((0 : Nat) : Int) + ((_ - _ : Nat) : Int) = x
        omega
      unfold worthS
      rw [if_neg (by rw [hall]; intro e; have := congrArg List.length e; rw [size_list] at this; exact h0 this), hex, h4, hdig]
      rfl
  have hrd : readS (txtB n t x) 0 = (⟨n, t.data.toList, x⟩, (txtB n t x).size, 0) := by
    unfold readS txtB
    rw [hsc]
    dsimp only
    rw [hw]
  rw [ofS_same _ (by rw [hrd]), hrd]
end Go.Proofs.YtheeonlfbnkhgaaDoor
