/-
  What whole number a text is (mathematics).
-/
import Derived.Test.YtheeonlfbnkhgaaDoorBackMath
import Derived.Lib.IndexAny
namespace Go.Proofs.YtheeonlfbnkhgaaDoor
open Go.RowKit

theorem containsAny_any (cs : List UInt8) : ∀ l : List UInt8, Lib.containsAny l cs = l.any (fun b => cs.contains b)
  | [] => rfl
  | b :: l => by
    have ih := containsAny_any cs l
    have hge := Lib.indexAny_ge cs l
    unfold Lib.containsAny at ih ⊢
    rw [List.any_cons, ← ih, Lib.indexAny]
    by_cases h : cs.contains b = true
    · rw [if_pos h, h]; rfl
    · have h' : cs.contains b = false := by simpa using h
      rw [if_neg h, h', Bool.false_or]
      by_cases h2 : Lib.indexAny l cs = -1
      · rw [if_pos (by simp [h2]), h2]
      · rw [if_neg (by simpa using h2)]
        by_cases h3 : 0 ≤ Lib.indexAny l cs
        · rw [decide_eq_true h3, decide_eq_true (by omega)]
        · omega
/-- Is a point, an e or an E in it? -/
def hasP (s : ByteArray) : Bool := Lib.containsAny s.data.toList [46, 101, 69]
theorem hasP_iff (s : ByteArray) : hasP s = true ↔ ∃ i, i < s.size ∧ (lk s i = 46 ∨ lk s i = 101 ∨ lk s i = 69) := by
  unfold hasP
  rw [containsAny_any, List.any_eq_true]
  constructor
  · rintro ⟨b, hb, h⟩
    obtain ⟨i, hi, h2⟩ := byte_lk hb
    refine ⟨i, hi, ?_⟩
    rw [h2]
    have h3 : b = 46 ∨ b = 101 ∨ b = 69 := by simpa using h
    rcases h3 with rfl | rfl | rfl <;> simp
  · rintro ⟨i, hi, h⟩
    have hm : s[i]'hi ∈ s.data.toList := by
      rw [ByteArray.getElem_eq_getElem_data]
      exact Array.getElem_mem_toList _
    refine ⟨s[i]'hi, hm, ?_⟩
    rw [lk_at s i hi] at h
    generalize s[i]'hi = b at h
    have h3 : b = 46 ∨ b = 101 ∨ b = 69 := by
      rcases h with h | h | h
      · exact .inl (UInt8.toNat_inj.1 h)
      · exact .inr (.inl (UInt8.toNat_inj.1 h))
      · exact .inr (.inr (UInt8.toNat_inj.1 h))
    rcases h3 with rfl | rfl | rfl <;> simp
theorem hasP_not {s : ByteArray} (h : hasP s = false) (i : Nat) : lk s i ≠ 46 ∧ lk s i ≠ 101 ∧ lk s i ≠ 69 := by
  by_cases hi : i < s.size
  · refine ⟨fun e => ?_, fun e => ?_, fun e => ?_⟩
    · have := (hasP_iff s).2 ⟨i, hi, .inl e⟩; rw [h] at this; cases this
    · have := (hasP_iff s).2 ⟨i, hi, .inr (.inl e)⟩; rw [h] at this; cases this
    · have := (hasP_iff s).2 ⟨i, hi, .inr (.inr e)⟩; rw [h] at this; cases this
  · rw [lk_out s i (by omega)]; decide
theorem hasP_no {s : ByteArray} (h : ∀ i, i < s.size → lk s i ≠ 46 ∧ lk s i ≠ 101 ∧ lk s i ≠ 69) : hasP s = false := by
  cases hh : hasP s with
  | false => rfl
  | true =>
    obtain ⟨i, hi, h1⟩ := (hasP_iff s).1 hh
    have := h i hi
    omega

/-- A number's text: all of it is read. -/
theorem of_scan {s : ByteArray} (h : (ofS s).2 ≠ 110) : dgB (lk s (scA s 0)) = true ∧ ¬ (lk s (scB s 0) = 46 ∧ dgB (lk s (scB s 0 + 1)) = false) ∧ ¬ (scX s 0 = true ∧ dgB (lk s (scF s 0)) = false) ∧ scH s 0 = s.size := by
  unfold ofS at h
  by_cases he : (readS s 0).2.1 = s.size
  · rw [if_pos he] at h
    dsimp only at h
    unfold readS at h he
    unfold scanS at h he
    by_cases h1 : dgB (lk s (scA s 0)) = false
    · rw [if_pos h1] at h; exact absurd rfl h
    · rw [if_neg h1] at h he
      by_cases h2 : lk s (scB s 0) = 46 ∧ dgB (lk s (scB s 0 + 1)) = false
      · rw [if_pos h2] at h; exact absurd rfl h
      · rw [if_neg h2] at h he
        by_cases h3 : scX s 0 = true ∧ dgB (lk s (scF s 0)) = false
        · rw [if_pos h3] at h; exact absurd rfl h
        · rw [if_neg h3] at h he
          refine ⟨by simpa using h1, h2, h3, ?_⟩
          dsimp only at he
          split at he <;> exact he
  · rw [if_neg he] at h; exact absurd rfl h
theorem scB_dig {s : ByteArray} (h : dgB (lk s (scA s 0)) = true) (i : Nat) (h1 : scA s 0 ≤ i) (h2 : i < scB s 0) : dgB (lk s i) = true := by
  unfold scB at h2
  split at h2
  · obtain rfl : i = scA s 0 := by omega
    exact h
  · exact rn_dig s _ i h1 h2
theorem dg_ascii {x : Nat} (h : dgB x = true) : x < 128 := by have := (dgB_iff x).1 h; omega
/-- All its bytes are below 128. -/
theorem of_ascii {s : ByteArray} (h : (ofS s).2 ≠ 110) (i : Nat) : lk s i < 128 := by
  obtain ⟨h1, h2, h3, h4⟩ := of_scan h
  by_cases hi : i < s.size
  · by_cases ha : i < scA s 0
    · unfold scA at ha
      split at ha
      · rename_i h5
        obtain rfl : i = 0 := by omega
        omega
      · omega
    · by_cases hb : i < scB s 0
      · exact dg_ascii (scB_dig h1 i (by omega) hb)
      · by_cases hc : i < scC s 0
        · unfold scC at hc
          split at hc
          · rename_i h5
            by_cases h6 : i = scB s 0
            · rw [h6]; omega
            · exact dg_ascii (rn_dig s _ i (by omega) hc)
          · omega
        · unfold scH at h4
          split at h4
          · rename_i h5
            have h7 := h5
            unfold scX at h7
            have h8 := of_decide_eq_true h7
            by_cases h6 : i = scC s 0
            · rw [h6]; omega
            · by_cases h9 : i < scF s 0
              · unfold scF at h9
                split at h9
                · rename_i h10
                  obtain rfl : i = scC s 0 + 1 := by omega
                  omega
                · omega
              · exact dg_ascii (rn_dig s (scF s 0) i (by omega) (by omega))
          · omega
  · rw [lk_out s i (by omega)]; decide

/-- A plain number's text: a minus or none, and digits without a nought ahead. -/
structure PlainN (s : ByteArray) (neg : Bool) (D : ByteArray) : Prop where
  txt : s = txN neg ++ D
  pos : 0 < D.size
  dig : AllD D
  lead : lk D 0 = 48 → D.size = 1
theorem plain_of {s : ByteArray} (h : (ofS s).2 ≠ 110) (hp : hasP s = false) : PlainN s (scNeg s 0) (s.extract (scA s 0) s.size) := by
  obtain ⟨h1, h2, h3, h4⟩ := of_scan h
  have hB := hasP_not hp (scB s 0)
  have hC : scC s 0 = scB s 0 := by unfold scC; rw [if_neg hB.1]
  have hX : scX s 0 = false := by
    unfold scX
    rw [hC]
    exact decide_eq_false (by omega)
  have hS : scB s 0 = s.size := by
    unfold scH at h4
    rw [if_neg (by rw [hX]; decide), hC] at h4
    exact h4
  have hin := dg_in h1
  have hsz : (s.extract (scA s 0) s.size).size = s.size - scA s 0 := by rw [ByteArray.size_extract]; omega
  have hlk : ∀ i, i < s.size - scA s 0 → lk (s.extract (scA s 0) s.size) i = lk s (scA s 0 + i) := fun i hi => lk_extract s _ _ i hi (Nat.le_refl _)
  refine ⟨?_, by omega, fun i hi => ?_, fun e => ?_⟩
  · unfold txN scNeg
    by_cases h5 : lk s 0 = 45
    · have hA : scA s 0 = 1 := by unfold scA; rw [if_pos h5]
      rw [hA, decide_eq_true h5, if_pos rfl]
      have h6 : 0 < s.size := lk_in (by omega)
      have h7 : s = s.extract 0 1 ++ s.extract 1 s.size := by
        rw [ByteArray.extract_append_extract, Nat.min_eq_left (by omega), Nat.max_eq_right (by omega), ByteArray.extract_zero_size]
      have h8 : s.extract 0 1 = ⟨#[45]⟩ := by
        rw [lk_at s 0 h6] at h5
        have h9 : s[0]'h6 = 45 := UInt8.toNat_inj.1 h5
        apply ByteArray.ext_getElem
        · rw [ByteArray.size_extract]; show min 1 s.size - 0 = 1; omega
        · intro i hi hi'
          have hi2 : i < 1 := hi'
          obtain rfl : i = 0 := by omega
          rw [ByteArray.getElem_extract]
          exact h9
      rw [h8] at h7
      exact h7
    · have hA : scA s 0 = 0 := by unfold scA; rw [if_neg h5]
      rw [hA, decide_eq_false h5, if_neg (by decide), nil_app, ByteArray.extract_zero_size]
  · rw [hsz] at hi
    rw [hlk i hi]
    exact scB_dig h1 _ (by omega) (by omega)
  · rw [hlk 0 (by omega), Nat.add_zero] at e
    have : scB s 0 = scA s 0 + 1 := by unfold scB; rw [if_pos e]
    omega
theorem PlainN.lk0 {s : ByteArray} {neg : Bool} {D : ByteArray} (h : PlainN s neg D) : neg = decide (lk s 0 = 45) := by
  have hd := (dgB_iff _).1 (h.dig 0 h.pos)
  rw [h.txt]
  cases neg
  · show false = decide (lk ((⟨#[]⟩ : ByteArray) ++ D) 0 = 45)
    rw [nil_app, decide_eq_false (by omega)]
  · show true = decide (lk ((⟨#[45]⟩ : ByteArray) ++ D) 0 = 45)
    rw [lk_left _ _ 0 (by decide)]
    rfl
/-- The digits of a plain number's text, and its worth. -/
def wdig (s : ByteArray) : ByteArray := if lk s 0 = 45 then s.extract 1 s.size else s
def valS (s : ByteArray) : Int := if lk s 0 = 45 then -((pwN (wdig s).data.toList : Nat) : Int) else ((pwN (wdig s).data.toList : Nat) : Int)
theorem PlainN.dig_eq {s : ByteArray} {neg : Bool} {D : ByteArray} (h : PlainN s neg D) : wdig s = D := by
  have h0 := h.lk0
  unfold wdig
  cases neg
  · rw [if_neg (by simpa using h0.symm)]
    rw [h.txt]
    exact nil_app D
  · rw [if_pos (by simpa using h0.symm), h.txt]
    show ((⟨#[45]⟩ : ByteArray) ++ D).extract 1 (((⟨#[45]⟩ : ByteArray) ++ D).size) = D
    have := ext_mid ⟨#[45]⟩ D ⟨#[]⟩
    rw [app_nil] at this
    rw [app_size]
    exact this
theorem PlainN.val_eq {s : ByteArray} {neg : Bool} {D : ByteArray} (h : PlainN s neg D) : valS s = if neg then -((pwN D.data.toList : Nat) : Int) else ((pwN D.data.toList : Nat) : Int) := by
  have h0 := h.lk0
  unfold valS
  rw [h.dig_eq]
  cases neg
  · rw [if_neg (by simpa using h0.symm)]; rfl
  · rw [if_pos (by simpa using h0.symm)]; rfl
theorem PlainN.scan {s : ByteArray} {neg : Bool} {D : ByteArray} (h : PlainN s neg D) : scanS s 0 = (some ⟨neg, D, ⟨#[]⟩, false, ⟨#[]⟩⟩, s.size) := by
  have hP : TxtP neg D ⟨#[]⟩ false ⟨#[]⟩ (txN neg) ⟨#[]⟩ ⟨#[]⟩ := by
    refine ⟨?_, h.pos, h.dig, h.lead, .inl ⟨rfl, rfl⟩, .inl ⟨rfl, rfl, rfl⟩⟩
    cases neg
    · exact .inl ⟨rfl, rfl⟩
    · exact .inr ⟨rfl, rfl⟩
  have h1 := hP.scan
  rw [nil_app, app_nil, ← h.txt] at h1
  exact h1
theorem PlainN.of {s : ByteArray} {neg : Bool} {D : ByteArray} (h : PlainN s neg D) : (ofS s).2 ≠ 110 := by
  unfold ofS readS
  rw [h.scan]
  dsimp only
  split
  · split <;> simp
  · split at * <;> simp_all
theorem PlainN.noP {s : ByteArray} {neg : Bool} {D : ByteArray} (h : PlainN s neg D) : hasP s = false := by
  refine hasP_no fun i hi => ?_
  have hz : s.size = (txN neg).size + D.size := by rw [h.txt]; exact app_size _ _
  by_cases h1 : i < (txN neg).size
  · have h2 : lk s i = 45 := by
      cases neg
      · exact absurd h1 (Nat.not_lt_zero _)
      · have h1' : i < 1 := h1
        obtain rfl : i = 0 := by omega
        have := h.lk0
        simpa using this.symm
    omega
  · obtain ⟨j, rfl⟩ : ∃ j, i = (txN neg).size + j := ⟨i - (txN neg).size, by omega⟩
    have h2 : lk s ((txN neg).size + j) = lk D j := by rw [h.txt]; exact lk_shift _ _ _
    have h3 := (dgB_iff _).1 (h.dig j (by omega))
    omega

/-- What a text is as a whole number from lo to hi, and why it is none. -/
def wholeS (lo hi : Int) (s : ByteArray) : Int × Nat :=
  if (ofS s).2 = 110 then (0, 110) else if hasP s then (0, 120) else if lo ≤ valS s ∧ valS s ≤ hi then (valS s, 0) else (0, 121)
def wholeV (k : IntKind) (lo hi : Int) (s : ByteArray) : Value := .tuple #[.int k (wholeS lo hi s).1, .int .i64 ((wholeS lo hi s).2 : Int)]

/-- Digits: the greater text is the greater number. -/
theorem pw_from (r : List UInt8) : ∀ a : Nat, r.foldl (fun n b => 10 * n + (b.toNat - 48)) a = a * 10 ^ r.length + pwN r := by
  induction r with
  | nil => intro a; simp [pwN]
  | cons b r ih =>
    intro a
    have h1 : pwN (b :: r) = r.foldl (fun n b => 10 * n + (b.toNat - 48)) (10 * 0 + (b.toNat - 48)) := rfl
    rw [h1, List.foldl_cons, ih, ih, List.length_cons, Nat.pow_succ, Nat.add_mul, Nat.mul_zero, Nat.zero_add]
    have : 10 * a * 10 ^ r.length = a * (10 ^ r.length * 10) := by rw [Nat.mul_comm 10 a, Nat.mul_assoc, Nat.mul_comm 10]
    omega
theorem pw_pre (l r : List UInt8) : pwN (l ++ r) = pwN l * 10 ^ r.length + pwN r := by
  have := pw_from r (pwN l)
  rw [← this]
  unfold pwN
  rw [List.foldl_append]
theorem pw_cons (b : UInt8) (l : List UInt8) : pwN (b :: l) = (b.toNat - 48) * 10 ^ l.length + pwN l := by
  have := pw_pre [b] l
  rw [List.singleton_append] at this
  rw [this]
  simp [pwN]
theorem pw_lt : ∀ {l : List UInt8}, (∀ b ∈ l, dgB b.toNat = true) → pwN l < 10 ^ l.length
  | [], _ => by decide
  | b :: l, h => by
    have h1 := pw_lt (l := l) (fun x hx => h x (List.mem_cons_of_mem _ hx))
    have h2 := (dgB_iff _).1 (h b List.mem_cons_self)
    rw [pw_cons, List.length_cons, Nat.pow_succ]
    have h3 := Nat.mul_le_mul_right (10 ^ l.length) (show b.toNat - 48 ≤ 9 by omega)
    omega
theorem pw_mono (l : List UInt8) (i : Nat) : pwN (l.take i) ≤ pwN l := by
  have h := pw_pre (l.take i) (l.drop i)
  rw [List.take_append_drop] at h
  rw [h]
  have := Nat.le_mul_of_pos_right (pwN (l.take i)) (show 0 < 10 ^ (l.drop i).length from Nat.pow_pos (by decide))
  omega
/-- As many digits: the order of the texts. -/
theorem pw_lex : ∀ (a b : List UInt8), a.length = b.length → (∀ x ∈ a, dgB x.toNat = true) → (∀ x ∈ b, dgB x.toNat = true) → (a < b ↔ pwN a < pwN b)
  | [], [], _, _, _ => by simp
  | [], _ :: _, h, _, _ => by simp at h
  | _ :: _, [], h, _, _ => by simp at h
  | x :: a, y :: b, h, ha, hb => by
    have hl : a.length = b.length := by simpa using h
    have ih := pw_lex a b hl (fun z hz => ha z (List.mem_cons_of_mem _ hz)) (fun z hz => hb z (List.mem_cons_of_mem _ hz))
    have h1 := pw_lt (l := a) (fun z hz => ha z (List.mem_cons_of_mem _ hz))
    have h2 := pw_lt (l := b) (fun z hz => hb z (List.mem_cons_of_mem _ hz))
    have hx := (dgB_iff _).1 (ha x List.mem_cons_self)
    have hy := (dgB_iff _).1 (hb y List.mem_cons_self)
    rw [List.cons_lt_cons_iff, pw_cons, pw_cons, ih, hl]
    rw [hl] at h1
    generalize 10 ^ b.length = T at h1 h2 ⊢
    by_cases e : x = y
    · subst e
      have : ¬ x < x := UInt8.lt_irrefl x
      simp [this]
    · have e1 : ¬ x.toNat = y.toNat := fun h => e (UInt8.toNat_inj.1 h)
      have hxy : x < y ↔ x.toNat < y.toNat := UInt8.lt_iff_toNat_lt
      simp only [e, false_and, or_false, hxy]
      constructor
      · intro h3
        obtain ⟨d, hd⟩ : ∃ d, y.toNat - 48 = (x.toNat - 48) + 1 + d := ⟨y.toNat - 48 - (x.toNat - 48) - 1, by omega⟩
        rw [hd, Nat.add_mul, Nat.add_mul, Nat.one_mul]
        omega
      · intro h3
        rcases Nat.lt_or_gt_of_ne e1 with h4 | h4
        · exact h4
        · exfalso
          obtain ⟨d, hd⟩ : ∃ d, x.toNat - 48 = (y.toNat - 48) + 1 + d := ⟨x.toNat - 48 - (y.toNat - 48) - 1, by omega⟩
          rw [hd, Nat.add_mul, Nat.add_mul, Nat.one_mul] at h3
          omega
/-- Without a nought ahead: more digits, a greater number. -/
theorem pw_ge {l : List UInt8} (hd : ∀ b ∈ l, dgB b.toNat = true) (h0 : l ≠ []) (hl : ∀ b, l[0]? = some b → b ≠ 48) : 10 ^ (l.length - 1) ≤ pwN l := by
  cases l with
  | nil => exact absurd rfl h0
  | cons b l =>
    have h1 := hl b rfl
    have h2 := (dgB_iff _).1 (hd b List.mem_cons_self)
    have h3 : b.toNat ≠ 48 := fun e => h1 (UInt8.toNat_inj.1 e)
    rw [pw_cons, List.length_cons, Nat.add_sub_cancel]
    have := Nat.le_mul_of_pos_left (10 ^ l.length) (show 0 < b.toNat - 48 by omega)
    omega
end Go.Proofs.YtheeonlfbnkhgaaDoor
