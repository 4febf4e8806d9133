/-
  A number's text with other bytes ahead, and without those behind it (mathematics).
-/
import Derived.Test.YtheeonlfbnkhgaaDoorDecRead
import Derived.Test.YtheeonlfbnkhgaaDoorDecCmp
namespace Go.Proofs.YtheeonlfbnkhgaaDoor
open Go.RowKit

theorem lk_shift (a s : ByteArray) (i : Nat) : lk (a ++ s) (a.size + i) = lk s i := by
  by_cases h : i < s.size
  · rw [lk_at _ _ (by rw [ByteArray.size_append]; omega), lk_at s i h, ByteArray.getElem_append_right (by omega)]
    congr 2
    omega
  · rw [lk_out _ _ (by rw [ByteArray.size_append]; omega), lk_out s i (by omega)]
theorem rn_shift (a s : ByteArray) (i : Nat) : rn (a ++ s) (a.size + i) = a.size + rn s i := by
  have h1 := rn_ge s i
  refine rn_uniq _ _ _ (by omega) (fun j h2 h3 => ?_) ?_
  · obtain ⟨k, rfl⟩ : ∃ k, j = a.size + k := ⟨j - a.size, by omega⟩
    rw [lk_shift]
    exact rn_dig s i k (by omega) (by omega)
  · rw [lk_shift]
    exact rn_end s i
theorem ext_shift2 (a s : ByteArray) (x y : Nat) : (a ++ s).extract (a.size + x) (a.size + y) = s.extract x y := by
  apply ByteArray.ext
  rw [ByteArray.data_extract, ByteArray.data_extract, ByteArray.data_append]
  have hz : a.size = a.data.size := rfl
  rw [hz, Array.extract_append]
  simp
theorem scA_shift (a s : ByteArray) (p : Nat) : scA (a ++ s) (a.size + p) = a.size + scA s p := by
  unfold scA
  rw [lk_shift]
  split <;> omega
theorem scB_shift (a s : ByteArray) (p : Nat) : scB (a ++ s) (a.size + p) = a.size + scB s p := by
  unfold scB
  rw [scA_shift, lk_shift, rn_shift]
  split <;> omega
theorem scC_shift (a s : ByteArray) (p : Nat) : scC (a ++ s) (a.size + p) = a.size + scC s p := by
  unfold scC
  rw [scB_shift, lk_shift, Nat.add_assoc, rn_shift]
  split <;> rfl
theorem scF_shift (a s : ByteArray) (p : Nat) : scF (a ++ s) (a.size + p) = a.size + scF s p := by
  unfold scF
  rw [scC_shift, Nat.add_assoc, lk_shift]
  split <;> omega
theorem scX_shift (a s : ByteArray) (p : Nat) : scX (a ++ s) (a.size + p) = scX s p := by
  unfold scX
  rw [scC_shift, lk_shift]
theorem scH_shift (a s : ByteArray) (p : Nat) : scH (a ++ s) (a.size + p) = a.size + scH s p := by
  unfold scH
  rw [scX_shift, scF_shift, rn_shift, scC_shift]
  split <;> rfl
theorem scan_shift (a s : ByteArray) (p : Nat) : scanS (a ++ s) (a.size + p) = ((scanS s p).1, a.size + (scanS s p).2) := by
  have hn : scNeg (a ++ s) (a.size + p) = scNeg s p := by unfold scNeg; rw [lk_shift]
  have hd : scDn (a ++ s) (a.size + p) = scDn s p := by unfold scDn; rw [scX_shift, scC_shift, Nat.add_assoc, lk_shift]
  have hb : scBe (a ++ s) (a.size + p) = scBe s p := by unfold scBe; rw [scB_shift, scC_shift, lk_shift, Nat.add_assoc, ext_shift2]
  have hp : scPw (a ++ s) (a.size + p) = scPw s p := by unfold scPw; rw [scX_shift, scF_shift, scH_shift, ext_shift2]
  unfold scanS
  rw [hn, hd, hb, hp, scH_shift, scA_shift, scB_shift, scF_shift, scX_shift, ext_shift2, lk_shift, lk_shift, Nat.add_assoc, lk_shift, lk_shift]
  split
  · rfl
  · split
    · rfl
    · split <;> rfl
theorem read_shift (a s : ByteArray) : readS (a ++ s) a.size = ((readS s 0).1, a.size + (readS s 0).2.1, (readS s 0).2.2) := by
  have h := scan_shift a s 0
  rw [Nat.add_zero] at h
  unfold readS
  rw [h]
  dsimp only
  cases (scanS s 0).1 with
  | none => rfl
  | some n => dsimp only; cases worthS n <;> rfl

/-! Without what stands behind. -/
section
variable (s : ByteArray) (E : Nat) (hE : E ≤ s.size)
include hE
theorem lk_pre (i : Nat) (h : i < E) : lk (s.extract 0 E) i = lk s i := by rw [lk_extract s 0 E i (by omega) hE, Nat.zero_add]
theorem pre_size : (s.extract 0 E).size = E := by rw [ByteArray.size_extract]; omega
theorem lk_pre_out (i : Nat) (h : E ≤ i) : lk (s.extract 0 E) i = 0 := lk_out _ _ (by rw [pre_size s E hE]; exact h)
theorem rn_pre (a : Nat) (h : rn s a ≤ E) : rn (s.extract 0 E) a = rn s a := by
  refine rn_uniq _ _ _ (rn_ge s a) (fun j h2 h3 => ?_) ?_
  · rw [lk_pre s E hE j (by omega)]
    exact rn_dig s a j h2 h3
  · rcases Nat.lt_or_ge (rn s a) E with h4 | h4
    · rw [lk_pre s E hE _ h4]; exact rn_end s a
    · rw [lk_pre_out s E hE _ h4]; rfl
end
theorem ext_pre (s : ByteArray) (E : Nat) (_ : E ≤ s.size) (x y : Nat) (h : y ≤ E) : (s.extract 0 E).extract x y = s.extract x y := by
  apply ByteArray.ext
  rw [ByteArray.data_extract, ByteArray.data_extract, ByteArray.data_extract, Array.extract_extract]
  congr 1 <;> omega
/-- The number alone: the same parts, the same end. -/
theorem scan_pre {s : ByteArray} {n : Num} {E : Nat} (h : scanS s 0 = (some n, E)) : E ≤ s.size ∧ 1 ≤ E ∧ scanS (s.extract 0 E) 0 = (some n, E) := by
  have hE : E ≤ s.size := by have := scan_end (s := s) (p := 0) (Nat.zero_le _); rw [h] at this; exact this
  unfold scanS at h
  split at h
  · cases h
  · rename_i h1
    split at h
    · cases h
    · rename_i h2
      split at h
      · cases h
      · rename_i h3
        simp only [Prod.mk.injEq, Option.some.injEq] at h
        obtain ⟨hn, hH⟩ := h
        have d1 : dgB (lk s (scA s 0)) = true := by simpa using h1
        -- the places' order
        have oA : scA s 0 ≤ 1 := by unfold scA; split <;> omega
        have oAB : scA s 0 < scB s 0 := by
          unfold scB
          split
          · omega
          · exact rn_lt s _ d1
        have oBC : scB s 0 ≤ scC s 0 ∧ (lk s (scB s 0) = 46 → scB s 0 + 1 < scC s 0) := by
          unfold scC
          split
          · rename_i h4
            have h5 : dgB (lk s (scB s 0 + 1)) = true := by
              cases hd : dgB (lk s (scB s 0 + 1)) with
              | true => rfl
              | false => exact absurd ⟨h4, hd⟩ h2
            have := rn_lt s _ h5
            exact ⟨by omega, fun _ => this⟩
          · rename_i h4
            exact ⟨Nat.le_refl _, fun h => absurd h h4⟩
        have oCH : scC s 0 ≤ E ∧ (scX s 0 = true → scC s 0 + 1 ≤ scF s 0 ∧ scF s 0 < E) := by
          rw [← hH]
          unfold scH
          split
          · rename_i h4
            have h5 : dgB (lk s (scF s 0)) = true := by
              cases hd : dgB (lk s (scF s 0)) with
              | true => rfl
              | false => exact absurd ⟨h4, hd⟩ h3
            have h6 := rn_lt s _ h5
            have h7 : scC s 0 + 1 ≤ scF s 0 := by unfold scF; split <;> omega
            exact ⟨by omega, fun _ => ⟨h7, h6⟩⟩
          · rename_i h4
            exact ⟨Nat.le_refl _, fun h => absurd h h4⟩
        refine ⟨hE, by omega, ?_⟩
        have l0 : lk (s.extract 0 E) 0 = lk s 0 := lk_pre s E hE 0 (by omega)
        have pA : scA (s.extract 0 E) 0 = scA s 0 := by unfold scA; rw [l0]
        have lA : lk (s.extract 0 E) (scA s 0) = lk s (scA s 0) := lk_pre s E hE _ (by omega)
        have pB : scB (s.extract 0 E) 0 = scB s 0 := by
          unfold scB
          rw [pA, lA]
          split
          · rfl
          · rename_i h4
            exact rn_pre s E hE _ (by have : scB s 0 = rn s (scA s 0) := (by rw [scB, if_neg h4]); omega)
        have lB : lk (s.extract 0 E) (scB s 0) = 46 ↔ lk s (scB s 0) = 46 := by
          rcases Nat.lt_or_ge (scB s 0) E with h4 | h4
          · rw [lk_pre s E hE _ h4]
          · rw [lk_pre_out s E hE _ h4]
            constructor
            · intro h; omega
            · intro h; have := oBC.2 h; omega
        have pC : scC (s.extract 0 E) 0 = scC s 0 := by
          unfold scC
          rw [pB]
          by_cases h4 : lk s (scB s 0) = 46
          · rw [if_pos (lB.2 h4), if_pos h4]
            exact rn_pre s E hE _ (by have : scC s 0 = rn s (scB s 0 + 1) := (by rw [scC, if_pos h4]); omega)
          · rw [if_neg (fun h => h4 (lB.1 h)), if_neg h4]
        have pX : scX (s.extract 0 E) 0 = scX s 0 := by
          cases hX : scX s 0 with
          | true =>
            have h5 := oCH.2 hX
            unfold scX at hX ⊢
            rw [pC, lk_pre s E hE _ (by omega)]
            exact hX
          | false =>
            have h5 : E = scC s 0 := by rw [← hH, scH, if_neg (by rw [hX]; decide)]
            unfold scX
            rw [pC, lk_pre_out s E hE _ (by omega)]
            rfl
        have pF : scX s 0 = true → scF (s.extract 0 E) 0 = scF s 0 := fun hX => by
          have h5 := oCH.2 hX
          unfold scF
          rw [pC, lk_pre s E hE _ (by omega)]
        have pH : scH (s.extract 0 E) 0 = E := by
          unfold scH
          rw [pX, pC]
          split
          · rename_i hX
            rw [pF hX, rn_pre s E hE _ (by rw [← hH, scH, if_pos hX]; exact Nat.le_refl _), ← hH, scH, if_pos hX]
          · rename_i hX
            rw [← hH, scH, if_neg hX]
        have g2 : ¬ (lk (s.extract 0 E) (scB s 0) = 46 ∧ dgB (lk (s.extract 0 E) (scB s 0 + 1)) = false) := fun h => by
          have h4 := lB.1 h.1
          have h5 := oBC.2 h4
          have h6 := h.2
          rw [lk_pre s E hE _ (by omega)] at h6
          exact h2 ⟨h4, h6⟩
        have g3 : ¬ (scX s 0 = true ∧ dgB (lk (s.extract 0 E) (scF (s.extract 0 E) 0)) = false) := fun h => by
          have h5 := oCH.2 h.1
          rw [pF h.1, lk_pre s E hE _ (by omega)] at h
          exact h3 h
        have hn1 : scNeg (s.extract 0 E) 0 = scNeg s 0 := by unfold scNeg; rw [l0]
        have hn2 : scBe (s.extract 0 E) 0 = scBe s 0 := by
          unfold scBe
          rw [pB, pC]
          by_cases h4 : lk s (scB s 0) = 46
          · rw [if_pos (lB.2 h4), if_pos h4]; exact ext_pre s E hE _ _ (by omega)
          · rw [if_neg (fun h => h4 (lB.1 h)), if_neg h4]
        have hn3 : scDn (s.extract 0 E) 0 = scDn s 0 := by
          unfold scDn
          rw [pX, pC]
          cases hX : scX s 0 with
          | true =>
            have h5 := oCH.2 hX
            rw [lk_pre s E hE _ (by omega)]
          | false => rfl
        have hn4 : scPw (s.extract 0 E) 0 = scPw s 0 := by
          unfold scPw
          rw [pX, pH, hH]
          split
          · rename_i hX
            rw [pF hX]; exact ext_pre s E hE _ _ (Nat.le_refl _)
          · rfl
        have hn5 : (s.extract 0 E).extract (scA s 0) (scB s 0) = s.extract (scA s 0) (scB s 0) := ext_pre s E hE _ _ (by omega)
        unfold scanS
        rw [pA, lA, if_neg h1, pB, if_neg g2, pX, if_neg g3, hn1, hn2, hn3, hn4, hn5, pH, ← hn]

/-! What is read is well shaped. -/
theorem dropW_head {p : UInt8 → Bool} : ∀ {l : List UInt8} {x : UInt8} {r : List UInt8}, l.dropWhile p = x :: r → p x = false
  | [], _, _, h => by simp at h
  | y :: l, x, r, h => by
    rw [List.dropWhile_cons] at h
    split at h
    · exact dropW_head h
    · rename_i h1
      injection h with h2 h3
      rw [← h2]
      simpa using h1
theorem dropW_nil {p : UInt8 → Bool} : ∀ {l : List UInt8}, l.dropWhile p = [] → ∀ x ∈ l, p x = true
  | [], _, x, hx => by simp at hx
  | y :: l, h, x, hx => by
    rw [List.dropWhile_cons] at h
    split at h
    · rename_i h1
      rcases List.mem_cons.1 hx with h2 | h2
      · rw [h2]; exact h1
      · exact dropW_nil h x h2
    · cases h
theorem lk_mk (l : List UInt8) (i : Nat) (h : i < l.length) : lk ⟨l.toArray⟩ i = (l[i]).toNat := by
  have h1 : i < (⟨l.toArray⟩ : ByteArray).size := by rw [Lib.size_mk]; exact h
  rw [lk_at _ i h1]
  rfl
theorem trim_parts {L : List UInt8} (h : Lib.trimLeftB L 48 ≠ []) : ∃ (x y : UInt8) (a b : List UInt8), Lib.trimRightB (Lib.trimLeftB L 48) 48 = x :: a ∧ Lib.trimRightB (Lib.trimLeftB L 48) 48 = b ++ [y] ∧ x ≠ 48 ∧ y ≠ 48 := by
  cases hT : Lib.trimLeftB L 48 with
  | nil => exact absurd hT h
  | cons x r =>
    have hx : x ≠ 48 := by
      have := dropW_head (p := (· == 48)) hT
      simpa using this
    cases hR : (x :: r).reverse.dropWhile (· == 48) with
    | nil =>
      have := dropW_nil hR x (by simp)
      exact absurd (by simpa using this) hx
    | cons y a =>
      have hy : y ≠ 48 := by
        have := dropW_head (p := (· == 48)) hR
        simpa using this
      have hD : Lib.trimRightB (x :: r) 48 = a.reverse ++ [y] := by
        unfold Lib.trimRightB
        rw [hR, List.reverse_cons]
      have hpre : (a.reverse ++ [y]) <+: (x :: r) := by
        have hs : (y :: a) <:+ (x :: r).reverse := by rw [← hR]; exact List.dropWhile_suffix _
        have := List.reverse_prefix.2 hs
        rw [List.reverse_reverse, List.reverse_cons] at this
        exact this
      cases hc : a.reverse ++ [y] with
      | nil => simp at hc
      | cons z q =>
        rw [hc] at hpre
        obtain ⟨t, ht⟩ := hpre
        injection ht with h1 h2
        exact ⟨x, y, q, a.reverse, by rw [hD, hc, h1], hD, hx, hy⟩
theorem frm_of {L : List UInt8} {x : Int} (h : Lib.trimLeftB L 48 ≠ []) (hd : ∀ b ∈ L, dgB b.toNat = true) (hx : inB x = true) : frmS ⟨(Lib.trimRightB (Lib.trimLeftB L 48) 48).toArray⟩ x = true := by
  obtain ⟨u, v, a, b, h1, h2, hu, hv⟩ := trim_parts h
  have hmem : ∀ c ∈ Lib.trimRightB (Lib.trimLeftB L 48) 48, dgB c.toNat = true := fun c hc => by
    refine hd c ?_
    have h3 : c ∈ Lib.trimLeftB L 48 := by
      unfold Lib.trimRightB at hc
      have := (List.dropWhile_sublist (fun z => z == 48)).subset (List.mem_reverse.1 hc)
      exact List.mem_reverse.1 this
    exact (List.dropWhile_sublist (fun z => z == 48)).subset h3
  generalize hD : Lib.trimRightB (Lib.trimLeftB L 48) 48 = D at *
  have hz : (⟨D.toArray⟩ : ByteArray).size = D.length := Lib.size_mk D
  have hpos : 0 < D.length := by rw [h1]; simp
  have hall : ∀ i, i < (⟨D.toArray⟩ : ByteArray).size → dgB (lk ⟨D.toArray⟩ i) = true := fun i hi => by
    rw [hz] at hi
    rw [lk_mk D i hi]
    exact hmem _ (List.getElem_mem hi)
  rw [frm_yes (by rw [hz]; exact hpos) hall]
  have n48 : ∀ c : UInt8, c ≠ 48 → c.toNat ≠ 48 := fun c hc he => hc (UInt8.toNat_inj.1 he)
  have e0 : lk ⟨D.toArray⟩ 0 = u.toNat := by
    rw [lk_mk D 0 hpos]
    subst h1
    rfl
  have e1 : lk ⟨D.toArray⟩ ((⟨D.toArray⟩ : ByteArray).size - 1) = v.toNat := by
    have key : ∀ (D : List UInt8), D = b ++ [v] → ∀ h : D.length - 1 < D.length, D[D.length - 1] = v := by
      intro D h
      subst h
      intro h
      simp
    have h3 : D.length - 1 < D.length := by omega
    rw [hz, lk_mk D _ h3, key D h2 h3]
  rw [e0, e1, decide_eq_true (n48 u hu), decide_eq_true (n48 v hv), hx]
  rfl
theorem byte_lk {s : ByteArray} {b : UInt8} (h : b ∈ s.data.toList) : ∃ i, i < s.size ∧ lk s i = b.toNat := by
  obtain ⟨i, hi, hb⟩ := List.getElem_of_mem h
  have hi' : i < s.size := by rw [size_list] at hi; exact hi
  refine ⟨i, hi', ?_⟩
  rw [lk_at s i hi', ← hb, Array.getElem_toList]
  rfl
theorem num_dig {s : ByteArray} {p e : Nat} {n : Num} (h : scanS s p = (some n, e)) (hp : p ≤ s.size) : ∀ b ∈ n.wh.data.toList ++ n.be.data.toList, dgB b.toNat = true := by
  unfold scanS at h
  split at h
  · cases h
  · rename_i h1
    split at h
    · cases h
    · rename_i h2
      split at h
      · cases h
      · simp only [Prod.mk.injEq, Option.some.injEq] at h
        obtain ⟨rfl, rfl⟩ := h
        have d1 : dgB (lk s (scA s p)) = true := by simpa using h1
        have hA := scA_le s p hp
        have hB := scB_le s p hp
        have hC := scC_le s p hp
        intro b hb
        rcases List.mem_append.1 hb with hb | hb
        · obtain ⟨i, hi, he⟩ := byte_lk hb
          rw [← he]
          have hz : (s.extract (scA s p) (scB s p)).size = scB s p - scA s p := by rw [ByteArray.size_extract]; omega
          have hi' : i < scB s p - scA s p := by rw [← hz]; exact hi
          rw [lk_extract s _ _ i hi' hB]
          unfold scB at hi'
          split at hi'
          · obtain rfl : i = 0 := by omega
            exact d1
          · exact rn_dig s (scA s p) (scA s p + i) (by omega) (by omega)
        · obtain ⟨i, hi, he⟩ := byte_lk hb
          rw [← he]
          have hi2 : i < (scBe s p).size := hi
          show dgB (lk (scBe s p) i) = true
          unfold scBe at hi2 ⊢
          split
          · rename_i h4
            rw [if_pos h4, ByteArray.size_extract] at hi2
            have h5 : scC s p = rn s (scB s p + 1) := by rw [scC, if_pos h4]
            rw [lk_extract s _ _ i (by omega) hC]
            exact rn_dig s (scB s p + 1) _ (by omega) (by omega)
          · rename_i h4
            rw [if_neg h4] at hi2
            exact absurd hi2 (Nat.not_lt_zero _)
theorem read_formed {s : ByteArray} {p : Nat} (hp : p ≤ s.size) (h : (readS s p).2.2 = 0) : frmS ⟨((readS s p).1.ds).toArray⟩ (readS s p).1.ex = true := by
  obtain ⟨r, hr⟩ : ∃ r, scanS s p = r := ⟨_, rfl⟩
  obtain ⟨on, en⟩ := r
  unfold readS at h ⊢
  rw [hr] at h ⊢
  dsimp only at h ⊢
  cases on with
  | none => exact absurd h (by show ¬ (110 : Nat) = 0; decide)
  | some n =>
    dsimp only at h ⊢
    cases hw : worthS n with
    | none => rw [hw] at h; exact absurd h (by show ¬ (111 : Nat) = 0; decide)
    | some d =>
      dsimp only
      unfold worthS at hw
      split at hw
      · injection hw with hw; rw [← hw]; rfl
      · rename_i h1
        split at hw
        · rename_i h2
          injection hw with hw
          rw [← hw]
          exact frm_of h1 (num_dig hr hp) h2
        · cases hw

theorem er_in (s : ByteArray) (p : Nat) : ((readS s p).2.2 = 110 ∧ (readS s p).1 = zeroD) ∨ ((readS s p).2.2 = 111 ∧ (readS s p).1 = zeroD) ∨ (readS s p).2.2 = 0 := by
  unfold readS
  cases (scanS s p).1 with
  | none => exact .inl ⟨rfl, rfl⟩
  | some n =>
    dsimp only
    cases worthS n with
    | none => exact .inr (.inl ⟨rfl, rfl⟩)
    | some d => exact .inr (.inr rfl)
/-- Of of the number alone. -/
theorem of_pre {s : ByteArray} (h : (readS s 0).2.2 ≠ 110) : 1 ≤ (readS s 0).2.1 ∧ ofS (s.extract 0 (readS s 0).2.1) = ((readS s 0).1, (readS s 0).2.2) := by
  obtain ⟨r, hr⟩ : ∃ r, scanS s 0 = r := ⟨_, rfl⟩
  obtain ⟨on, en⟩ := r
  cases on with
  | none =>
    exfalso
    apply h
    unfold readS
    rw [hr]
  | some n =>
    obtain ⟨h1, h2, h3⟩ := scan_pre hr
    have e1 : readS s 0 = match worthS n with | none => (zeroD, en, 111) | some d => (d, en, 0) := by rw [readS, hr]; rfl
    have e2 : readS (s.extract 0 en) 0 = match worthS n with | none => (zeroD, en, 111) | some d => (d, en, 0) := by rw [readS, h3]; rfl
    have e3 : (readS s 0).2.1 = en := by rw [e1]; cases worthS n <;> rfl
    rw [e3]
    refine ⟨h2, ?_⟩
    rw [ofS_same _ (by rw [e2, pre_size s en h1]; cases worthS n <;> rfl), e2, e1]
end Go.Proofs.YtheeonlfbnkhgaaDoor
