/-
  The forms of what a text tells are its beginning; what the form of a character tells.
-/
import Derived.Test.YtlcihopklnnhdaaUtf8Rows
import Derived.Test.YtlcihopklnnhdaaUtf8Walk
namespace Go.Proofs.Ytlcihopklnnhdaa

/-- The forms, one behind the other. -/
def Forms (L : List (Nat × Nat)) : List Nat := (L.map fun y => formL y.2).flatten
theorem Forms_snoc (L : List (Nat × Nat)) (y : Nat × Nat) : Forms (L ++ [y]) = Forms L ++ formL y.2 := by unfold Forms; rw [List.map_append, List.flatten_append]; simp
/-- What is so of the forms that were told, up to the place p. -/
def Good5 (s : ByteArray) (p : Nat) (pre : List (Nat × Nat)) : Prop := Forms pre = (byts s).take p ∧ (∀ y ∈ pre, sizeN y.2 ≠ 0) ∧ ∀ (j : Nat) (y : Nat × Nat), pre[j]? = some y → y.1 = (Forms (pre.take j)).length
/-- What is so of all that a text tells. -/
def Tells (s : ByteArray) : Prop := ∃ p, p ≤ s.size ∧ Good5 s p (telOf s) ∧ (badOf s = -1 → p = s.size) ∧ (badOf s = -1 ∨ ∃ n : Nat, badOf s = (n : Int) ∧ p ≤ n ∧ n ≤ s.size ∧ n < p + 4)
theorem tells_all (s : ByteArray) : Tells s := by
  have key : ∀ i, i ≤ s.size → Tells s ∨ ∃ p b q r pre, WalkAt s p i b q r pre ∧ Good5 s p pre := by
    intro i
    induction i with
    | zero => exact fun _ => .inr ⟨0, [], s5.q, 0, [], WalkAt.start s, ⟨rfl, (fun y hy => absurd hy (by simp)), fun j y h => absurd h (by simp)⟩⟩
    | succ i ih =>
      intro hi
      rcases ih (by omega) with h | ⟨p, b, q, r, pre, hW, hG⟩
      · exact .inl h
      · cases hs : stp q (byt s i) with
        | none =>
          left
          obtain ⟨h1, h2⟩ := hW.bad (by omega) hs
          have hl := form_len hW.2.2.2.1
          have e := hW.1
          refine ⟨p, by omega, h2 ▸ hG, fun h => by omega, .inr ⟨i, h1, by omega, by omega, by omega⟩⟩
        | some q' =>
          right
          have hn := hW.next (by omega) hs
          rcases form_step hW.2.2.2.1 (byt_lt s i) hs with ⟨h0, hf, hz⟩ | ⟨h0, _⟩
          · have e := hW.1
            have hpi : (byts s).take (i + 1) = (byts s).take p ++ (b ++ [byt s i]) := by
              rw [byts_take s i (by omega), ← List.append_assoc]
              congr 1
              have := List.take_append_drop p ((byts s).take i)
              rw [List.take_take, Nat.min_eq_left (by omega), List.drop_take, show i - p = b.length by omega, ← hW.2.2.1] at this
              exact this.symm
            refine ⟨i + 1, [], q', _, _, hn.1 h0, ?_, ?_, ?_⟩
            · rw [Forms_snoc, hG.1, hpi, hf]
            · intro y hy
              rcases List.mem_append.1 hy with hy | hy
              · exact hG.2.1 y hy
              · simp at hy; subst hy; show sizeN (nextR b r (byt s i) q'.left) ≠ 0; rw [hz]; omega
            · intro j y hj
              by_cases hjl : j < pre.length
              · rw [List.getElem?_append_left hjl] at hj
                rw [List.take_append_of_le_length (by omega)]
                exact hG.2.2 j y hj
              · have hjl2 := (List.getElem?_eq_some_iff.1 hj).1
                rw [List.length_append, List.length_cons, List.length_nil] at hjl2
                obtain rfl : j = pre.length := by omega
                rw [List.getElem?_append_right (Nat.le_refl _)] at hj
                simp at hj
                subst hj
                rw [List.take_append_of_le_length (Nat.le_refl _), List.take_length, hG.1, List.length_take, byts_length]
                show p = _
                omega
          · exact ⟨p, _, q', _, pre, hn.2 (by omega), hG⟩
  rcases key s.size (Nat.le_refl _) with h | ⟨p, b, q, r, pre, hW, hG⟩
  · exact h
  · obtain ⟨h1, h2⟩ := hW.done
    have hl := form_len hW.2.2.2.1
    have hn := form_nil hW.2.2.2.1
    have e := hW.1
    refine ⟨p, by omega, h1 ▸ hG, fun h => ?_, ?_⟩
    · rw [h2] at h
      split at h
      · rename_i h0
        rw [hn.2 h0] at e
        simpa using e
      · omega
    · rw [h2]
      split
      · exact .inl rfl
      · exact .inr ⟨s.size, rfl, by omega, Nat.le_refl _, by omega⟩

theorem sizeN_le (c : Nat) : sizeN c ≤ 4 := by
  unfold sizeN
  split
  · omega
  · split
    · omega
    · split
      · omega
      · split <;> omega
set_option maxRecDepth 10000 in
theorem formL_inj {c d : Nat} (_hc : sizeN c ≠ 0) (hd : sizeN d ≠ 0) (h : formL c = formL d) : c = d := by
  have hl : sizeN c = sizeN d := by rw [← formL_len c, ← formL_len d, h]
  have hb := size_bounds (c := c) rfl
  have hb2 := size_bounds (c := d) rfl
  unfold formL at h
  rw [← hl] at h
  split at h
  · simpa using h
  · split at h
    · injection h with h1 h2; injection h2 with h2 _; omega
    · split at h
      · injection h with h1 h2; injection h2 with h2 h3; injection h3 with h3 _; omega
      · split at h
        · injection h with h1 h2; injection h2 with h2 h3; injection h3 with h3 h4; injection h4 with h4 _; omega
        · have := sizeN_le c
          omega
/-- The form of a character tells just that. -/
theorem tel_form {c : Nat} (hc : sizeN c ≠ 0) : telOf (mkS (formL c)) = [(0, c)] := by
  obtain ⟨hlen, hpart, q, hq, hq0⟩ := run_form (s := s5) rfl rfl c hc
  have hby : byts (mkS (formL c)) = formL c := byts_mkS (formL_lt c)
  have hsz : (mkS (formL c)).size = sizeN c := by rw [mkS_size, hlen]
  have key : ∀ k, k < sizeN c → ∃ q r, WalkAt (mkS (formL c)) 0 k ((formL c).take k) q r [] := by
    intro k
    induction k with
    | zero => exact fun _ => ⟨s5.q, 0, WalkAt.start _⟩
    | succ k ih =>
      intro hk
      obtain ⟨q, r, hW⟩ := ih (by omega)
      obtain ⟨q2, r2, h2, hF2, hl2, _⟩ := hpart (k + 1) (by omega) hk
      have hk' : k < (mkS (formL c)).size := by omega
      have hrun := hW.2.2.2.2.1
      have ht := byts_take (mkS (formL c)) k hk'
      rw [hby] at hrun ht
      rw [ht, runS_snoc, hrun] at h2
      cases hs : stp q (byt (mkS (formL c)) k) with
      | none => rw [tk_none rfl hs] at h2; have := congrArg St5.wrong h2; cases this
      | some q' =>
        rw [tk_some rfl hs] at h2
        have hq : q' = q2 := congrArg St5.q h2
        have hn := (hW.next hk' hs).2 (by rw [hq]; omega)
        rw [← ht] at hn
        exact ⟨q', _, hn⟩
  obtain ⟨q1, r1, hW⟩ := key (sizeN c - 1) (by omega)
  have hk' : sizeN c - 1 < (mkS (formL c)).size := by omega
  have hrun := hW.2.2.2.2.1
  have ht := byts_take (mkS (formL c)) (sizeN c - 1) hk'
  rw [hby] at hrun ht
  rw [show sizeN c - 1 + 1 = sizeN c by omega, List.take_of_length_le (by omega)] at ht
  rw [ht, runS_snoc, hrun] at hq
  cases hs : stp q1 (byt (mkS (formL c)) (sizeN c - 1)) with
  | none => rw [tk_none rfl hs] at hq; have := congrArg St5.wrong hq; cases this
  | some q' =>
    rw [tk_some rfl hs] at hq
    have hqq : q' = q := congrArg St5.q hq
    rcases form_step hW.2.2.2.1 (byt_lt _ _) hs with ⟨h0, hf, hz⟩ | ⟨h0, _⟩
    · have hn := (hW.next hk' hs).1 h0
      rw [← ht] at hf
      have hcc := formL_inj hc (by omega) hf
      rw [← hcc, show sizeN c - 1 + 1 = (mkS (formL c)).size by omega] at hn
      exact hn.done.1
    · rw [hqq] at h0; omega
/-- Beginnings of a form that are not all of it, with what can't follow. -/
theorem bad_part {c : Nat} (hc : sizeN c ≠ 0) {k : Nat} (h1 : 0 < k) (h2 : k < sizeN c) :
    badI (runS s5 ((formL c).take k)) = (k : Int) ∧ badI (runS s5 ((formL c).take k ++ [97])) = (k : Int) ∧ badI (runS s5 ((formL c).take k ++ formL c)) = (k : Int) := by
  obtain ⟨hlen, hpart, -⟩ := run_form (s := s5) rfl rfl c hc
  obtain ⟨q, r, e, _, hl, hlo, hhi⟩ := hpart k h1 h2
  have hg : s5.good + k = k := Nat.zero_add _
  rw [hg] at e
  have no : ∀ x l, x < 128 ∨ 192 ≤ x → badI (runS s5 ((formL c).take k ++ x :: l)) = (k : Int) := by
    intro x l hx
    have hs : stp q x = none := by unfold stp; rw [if_neg (by omega), if_pos (by omega)]
    rw [runS_append, e, runS_cons, tk_none rfl hs, runS_wrong rfl]
    rfl
  refine ⟨?_, no 97 [] (by omega), ?_⟩
  · rw [e]
    unfold badI
    rw [if_pos (.inr hl)]
  · have hb := size_bounds (c := c) rfl
    obtain ⟨x, l, hxl, hx⟩ : ∃ x l, formL c = x :: l ∧ 192 ≤ x := by
      have hs := sizeN_iff c
      have hle := sizeN_le c
      unfold formL
      rw [if_neg (by omega)]
      split
      · exact ⟨_, _, rfl, by omega⟩
      · split
        · exact ⟨_, _, rfl, by omega⟩
        · rw [if_pos (by omega)]
          exact ⟨_, _, rfl, by omega⟩
    have := no x l (.inr hx)
    rw [← hxl] at this
    exact this
end Go.Proofs.Ytlcihopklnnhdaa
