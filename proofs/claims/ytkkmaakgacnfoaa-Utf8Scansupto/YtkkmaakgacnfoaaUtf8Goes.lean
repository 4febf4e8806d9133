/-
  Which texts can go on to one that is UTF-8.
-/
import Derived.Test.YtkkmaakgacnfoaaUtf8Walk
namespace Go.Proofs.Ytkkmaakgacnfoaa

theorem reach_form (l : List Nat) : ∀ (s : St5) (b : List Nat) (r : Nat), s.wrong = false → FormAt b s.q r → (∀ x ∈ l, x < 256) → (runS s l).wrong = false → ∃ b r, FormAt b (runS s l).q r := by
  induction l with
  | nil => exact fun s b r _ h _ _ => ⟨b, r, h⟩
  | cons x l ih =>
    intro s b r hw hf hl hr
    rw [runS_cons] at hr ⊢
    cases hs : stp s.q x with
    | none => rw [tk_none hw hs, runS_wrong rfl] at hr; cases hr
    | some q =>
      rw [tk_some hw hs] at hr ⊢
      rcases form_step hf (hl x (by simp)) hs with ⟨h0, _, _⟩ | ⟨_, h1⟩
      · exact ih ⟨s.good + 1, false, q⟩ [] 0 rfl h0 (fun y hy => hl y (by simp [hy])) hr
      · exact ih ⟨s.good + 1, false, q⟩ _ _ rfl h1 (fun y hy => hl y (by simp [hy])) hr
theorem form_range {b : List Nat} {q : Q5} {r : Nat} (h : FormAt b q r) (hl : 0 < q.left) : 128 ≤ q.lo ∧ q.lo ≤ 160 ∧ 143 ≤ q.hi ∧ q.hi ≤ 191 ∧ (q.lo = 128 ∨ q.hi = 191) := by
  match b, h with
  | [], h => have h : q.left = 0 := h; omega
  | [x], h =>
    have f := sec_facts x
    have m := sec_more x
    have key : 128 ≤ secLo x ∧ secLo x ≤ 160 ∧ 143 ≤ secHi x ∧ secHi x ≤ 191 ∧ (secLo x = 128 ∨ secHi x = 191) := by
      by_cases a : x = 224
      · have := f.1 a; have := m.2 (by omega) (by omega); omega
      · by_cases b : x = 240
        · have := f.2.1 b; have := m.2 (by omega) (by omega); omega
        · have e := m.1 a b
          by_cases c : x = 237
          · have := f.2.2.1 c; omega
          · by_cases d : x = 244
            · have := f.2.2.2 d; omega
            · have := m.2 c d; omega
    rcases h with ⟨_, _, rfl, _⟩ | ⟨_, _, rfl, _⟩ | ⟨_, _, rfl, _⟩ <;> exact key
  | [x, y], h => obtain ⟨_, _, ⟨_, _, rfl, _⟩ | ⟨_, _, rfl, _⟩⟩ := h <;> simp
  | [x, y, z], h => obtain ⟨_, _, _, _, _, _, rfl, _⟩ := h; simp
theorem byts_lt (s : ByteArray) : ∀ x ∈ byts s, x < 256 := by
  intro x hx
  unfold byts at hx
  obtain ⟨y, _, rfl⟩ := List.mem_map.1 hx
  exact UInt8.toNat_lt y
/-- The text with a byte behind it, and so many bytes 80 (hex). -/
def tryS (s t : ByteArray) : Nat → ByteArray
  | 0 => s ++ t
  | k + 1 => tryS s t k ++ ⟨#[128]⟩
theorem tryS_byts (s : ByteArray) (x : UInt8) (k : Nat) : byts (tryS s ⟨#[x]⟩ k) = byts s ++ [x.toNat] ++ List.replicate k 128 := by
  induction k with
  | zero => rw [tryS, byts_append, List.replicate_zero, List.append_nil]; rfl
  | succ k ih =>
    rw [tryS, byts_append, ih, List.replicate_succ', ← List.append_assoc]
    rfl
theorem tryS_size (s t : ByteArray) (k : Nat) : (tryS s t k).size = s.size + t.size + k := by
  induction k with
  | zero => rw [tryS, ByteArray.size_append]; rfl
  | succ k ih => rw [tryS, ByteArray.size_append, ih]; rfl
theorem run_more (n : Nat) : ∀ (g : Nat) (q : Q5), q = ⟨n, 128, 191⟩ → ∃ g' q', runS ⟨g, false, q⟩ (List.replicate n 128) = ⟨g', false, q'⟩ ∧ q'.left = 0 := by
  induction n with
  | zero => exact fun g q h => ⟨g, q, rfl, by rw [h]⟩
  | succ n ih =>
    intro g q h
    subst h
    rw [List.replicate_succ, runS_cons, tk_some rfl (stp_next (q := ⟨n + 1, 128, 191⟩) (by simp) (by simp) (by simp))]
    exact ih (g + 1) ⟨n, 128, 191⟩ rfl
theorem badI_good {s : St5} (h : s.wrong = false) (h0 : s.q.left = 0) : badI s = -1 := by
  unfold badI
  rw [if_neg]
  intro k
  rcases k with k | k
  · rw [h] at k; cases k
  · omega
theorem badI_wrong {s : St5} (h : s.wrong = true) : badI s ≠ -1 := by
  unfold badI
  rw [if_pos (.inl h)]
  omega

/-- The bytes that are tried. -/
def triesL : List ByteArray := [⟨#[128]⟩, ⟨#[144]⟩, ⟨#[160]⟩, ⟨#[143]⟩, ⟨#[191]⟩]
/-- Some try makes it UTF-8. -/
def Goes (s : ByteArray) : Prop := badOf s = -1 ∨ ∃ (i : Nat) (t : ByteArray) (k : Nat), triesL[i]? = some t ∧ k ≤ 2 ∧ badOf (tryS s t k) = -1
theorem goes_yes {s : ByteArray} (h : (runS s5 (byts s)).wrong = false) : Goes s := by
  by_cases h0 : (runS s5 (byts s)).q.left = 0
  · exact .inl (badI_good h h0)
  · obtain ⟨b, r, hf⟩ := reach_form (byts s) s5 [] 0 rfl rfl (byts_lt s) h
    have hr := form_range hf (by omega)
    have hl := form_left hf
    right
    have key : ∀ x : UInt8, (runS s5 (byts s)).q.lo ≤ x.toNat → x.toNat ≤ (runS s5 (byts s)).q.hi → badOf (tryS s ⟨#[x]⟩ ((runS s5 (byts s)).q.left - 1)) = -1 := by
      intro x h1 h2
      unfold badOf
      rw [tryS_byts, runS_append, runS_append, runS_cons, tk_some h (stp_next h0 h1 h2), runS_nil]
      obtain ⟨g, q, e1, e2⟩ := run_more ((runS s5 (byts s)).q.left - 1) ((runS s5 (byts s)).good + 1) _ rfl
      rw [e1]
      exact badI_good rfl e2
    by_cases e : (runS s5 (byts s)).q.lo = 128
    · exact ⟨0, _, _, rfl, by omega, key 128 (by rw [e]; decide) (by show 128 ≤ _; omega)⟩
    · exact ⟨4, _, _, rfl, by omega, key 191 (by show _ ≤ 191; omega) (by show 191 ≤ _; omega)⟩
theorem goes_no {s : ByteArray} (h : (runS s5 (byts s)).wrong = true) : ¬ Goes s := by
  rintro (h1 | ⟨i, t, k, h1, _, h3⟩)
  · exact badI_wrong h h1
  · have : ∃ x : UInt8, t = ⟨#[x]⟩ := by
      match i, h1 with
      | 0, h1 => cases h1; exact ⟨_, rfl⟩
      | 1, h1 => cases h1; exact ⟨_, rfl⟩
      | 2, h1 => cases h1; exact ⟨_, rfl⟩
      | 3, h1 => cases h1; exact ⟨_, rfl⟩
      | 4, h1 => cases h1; exact ⟨_, rfl⟩
    obtain ⟨x, rfl⟩ := this
    unfold badOf at h3
    rw [tryS_byts, runS_append, runS_append, runS_wrong h, runS_wrong h] at h3
    exact badI_wrong h h3
/-- Where a text is bad: the beginning up to there can go on, with the next byte it can't. -/
theorem bad_at (s : ByteArray) : badOf s = -1 ∨ ∃ n : Nat, badOf s = (n : Int) ∧ n ≤ s.size ∧ (runS s5 ((byts s).take n)).wrong = false ∧ (n < s.size → (runS s5 ((byts s).take (n + 1))).wrong = true) := by
  have key : ∀ i, i ≤ s.size → (runS s5 ((byts s).take i)).wrong = false → (runS s5 ((byts s).take i)).good = i := by
    intro i
    induction i with
    | zero => exact fun _ _ => rfl
    | succ i ih =>
      intro hi hw
      rw [byts_take s i (by omega), runS_snoc] at hw ⊢
      cases hp : (runS s5 ((byts s).take i)).wrong with
      | true => rw [tk_wrong hp, hp] at hw; cases hw
      | false =>
        cases hs : stp (runS s5 ((byts s).take i)).q (byt s i) with
        | none => rw [tk_none hp hs] at hw; cases hw
        | some q => rw [tk_some hp hs]; show _ + 1 = _; rw [ih (by omega) hp]
  cases hw : (runS s5 (byts s)).wrong with
  | false =>
    by_cases h0 : (runS s5 (byts s)).q.left = 0
    · exact .inl (badI_good hw h0)
    · right
      have hk := key s.size (Nat.le_refl _) (by rw [byts_whole]; exact hw)
      rw [byts_whole] at hk
      refine ⟨s.size, ?_, Nat.le_refl _, by rw [byts_whole]; exact hw, fun h => by omega⟩
      unfold badOf badI
      rw [if_pos (.inr (by omega)), hk]
  | true =>
    right
    -- the first byte that is wrong
    have : ∀ i, i ≤ s.size → (runS s5 ((byts s).take i)).wrong = true → ∃ n, n < i ∧ (runS s5 ((byts s).take n)).wrong = false ∧ (runS s5 ((byts s).take (n + 1))).wrong = true := by
      intro i
      induction i with
      | zero => intro _ h; cases h
      | succ i ih =>
        intro hi h
        cases hp : (runS s5 ((byts s).take i)).wrong with
        | true => obtain ⟨n, h1, h2⟩ := ih (by omega) hp; exact ⟨n, by omega, h2⟩
        | false => exact ⟨i, by omega, hp, h⟩
    obtain ⟨n, h1, h2, h3⟩ := this s.size (Nat.le_refl _) (by rw [byts_whole]; exact hw)
    refine ⟨n, ?_, by omega, h2, fun _ => h3⟩
    have hk := key n (by omega) h2
    have e : runS s5 (byts s) = runS s5 ((byts s).take (n + 1)) := by
      conv => lhs; rw [← List.take_append_drop (n + 1) (byts s), runS_append]
      exact runS_wrong h3 _
    unfold badOf badI
    rw [e, if_pos (.inl h3), byts_take s n h1, runS_snoc]
    cases hs : stp (runS s5 ((byts s).take n)).q (byt s n) with
    | none => rw [tk_none h2 hs]; show ((runS s5 ((byts s).take n)).good : Int) = _; rw [hk]
    | some q => rw [byts_take s n h1, runS_snoc, tk_some h2 hs] at h3; cases h3
end Go.Proofs.Ytkkmaakgacnfoaa
