/-
  Of no program: the words cover just the word bytes; what begins is of some kind. What quarrylaw08.sign and looked answer.
-/
import Derived.Test.YthakingpeegagaaDoorJoinM
import Derived.Test.YthakingpeegagaaDoorWrdMath
namespace Go.Proofs.YthakingpeegagaaDoor
open Go.RowKit Go.Shelf

/-- What is known of the words up to i. -/
def WdGood (s : ByteArray) (i : Nat) (L : List (Nat × Nat)) : Prop :=
  (∀ p ∈ L, p.1 < p.2 ∧ p.2 ≤ i ∧ (∀ k, p.1 ≤ k → k < p.2 → wordS s k = true) ∧ (p.1 = 0 ∨ wordS s (p.1 - 1) = false)) ∧ List.Pairwise (fun p q => p.2 ≤ q.1) L ∧ ∀ k, k < i → wordS s k = true → ∃ p ∈ L, p.1 ≤ k ∧ k < p.2
theorem wd_good (s : ByteArray) (i : Nat) : WdGood s i (oS s i) := by
  induction i with
  | zero => exact ⟨fun p hp => by simp [oS, prs, tqS, tlS] at hp, by simp [oS, prs, tqS, tlS], fun k hk => by omega⟩
  | succ i ih =>
    obtain ⟨h1, h2, h3⟩ := ih
    by_cases hw : wordS s i = true
    · cases hp : (decide (0 < i) && wordS s (i - 1)) with
      | false =>
        rw [oS_new hw hp]
        have hb : i = 0 ∨ wordS s (i - 1) = false := by
          rcases Nat.eq_zero_or_pos i with h | h
          · exact .inl h
          · rw [decide_eq_true h, Bool.true_and] at hp; exact .inr hp
        refine ⟨fun p hm => ?_, ?_, fun k hk hwk => ?_⟩
        · rcases List.mem_append.1 hm with hm | hm
          · obtain ⟨a, b, c, d⟩ := h1 p hm
            exact ⟨a, by omega, c, d⟩
          · obtain rfl : p = (i, i + 1) := by simpa using hm
            exact ⟨Nat.lt_succ_self i, Nat.le_refl _, fun k k1 k2 => by
              have k1' : i ≤ k := k1
              have k2' : k < i + 1 := k2
              rw [show k = i by omega]; exact hw, hb⟩
        · rw [List.pairwise_append]
          refine ⟨h2, by simp, fun p hm q hq => ?_⟩
          obtain rfl : q = (i, i + 1) := by simpa using hq
          exact (h1 p hm).2.1
        · by_cases e : k = i
          · exact ⟨(i, i + 1), by simp, by show i ≤ k; omega, by show k < i + 1; omega⟩
          · obtain ⟨p, hm, hp⟩ := h3 k (by omega) hwk
            exact ⟨p, by simp [hm], hp⟩
      | true =>
        obtain ⟨L, a, e1, e2⟩ := oS_grow hw hp
        rw [e1] at h1 h2 h3
        rw [e2]
        have ha := h1 (a, i) (by simp)
        refine ⟨fun p hm => ?_, ?_, fun k hk hwk => ?_⟩
        · rcases List.mem_append.1 hm with hm | hm
          · obtain ⟨a, b, c, d⟩ := h1 p (by simp [hm])
            exact ⟨a, by omega, c, d⟩
          · obtain rfl : p = (a, i + 1) := by simpa using hm
            have a1 : a < i := ha.1
            exact ⟨show a < i + 1 by omega, Nat.le_refl _, fun k k1 k2 => by
              have k1' : a ≤ k := k1
              have k2' : k < i + 1 := k2
              by_cases e : k = i
              · rw [e]; exact hw
              · exact ha.2.2.1 k k1' (by show k < i; omega), ha.2.2.2⟩
        · rw [List.pairwise_append] at h2 ⊢
          refine ⟨h2.1, by simp, fun p hm q hq => ?_⟩
          obtain rfl : q = (a, i + 1) := by simpa using hq
          exact h2.2.2 p hm (a, i) (by simp)
        · by_cases e : k = i
          · exact ⟨(a, i + 1), by simp, by show a ≤ k; have : a < i := ha.1; omega, by show k < i + 1; omega⟩
          · obtain ⟨p, hm, hp⟩ := h3 k (by omega) hwk
            rcases List.mem_append.1 hm with hm | hm
            · exact ⟨p, by simp [hm], hp⟩
            · obtain rfl : p = (a, i) := by simpa using hm
              exact ⟨(a, i + 1), by simp, hp.1, by have : k < i := hp.2; show k < i + 1; omega⟩
    · rw [Bool.not_eq_true] at hw
      have e : oS s (i + 1) = oS s i := by unfold oS; rw [tq_same hw]
      rw [e]
      refine ⟨fun p hm => ?_, h2, fun k hk hwk => ?_⟩
      · obtain ⟨a, b, c, d⟩ := h1 p hm
        exact ⟨a, by omega, c, d⟩
      · by_cases e : k = i
        · rw [e, hw] at hwk; cases hwk
        · exact h3 k (by omega) hwk
theorem prs_get (L : List Nat) {r : Nat} (h : r < L.length / 2) : (prs L)[r]? = some (L.getD (2 * r) 0, L.getD (2 * r + 1) 0) := by simp [prs, h]
theorem prs_len (L : List Nat) : (prs L).length = L.length / 2 := by simp [prs]
theorem trT_good (s : ByteArray) : WdGood s s.size (prs (trT s)) := by rw [trT_tq]; exact wd_good s s.size
/-- Is the place k in one of the first r words? -/
def covS (s : ByteArray) (r k : Nat) : Bool := ((prs (trT s)).take r).any fun p => decide (p.1 ≤ k) && decide (k < p.2)
theorem cov_zero (s : ByteArray) (k : Nat) : covS s 0 k = false := by simp [covS]
section
variable {s : ByteArray} {r A C : Nat}
theorem trT_word (h : r < (trT s).length / 2) (hAC : ((trT s).getD (2 * r) 0, (trT s).getD (2 * r + 1) 0) = (A, C)) :
    A < C ∧ C ≤ s.size ∧ (∀ k, A ≤ k → k < C → wordS s k = true) ∧ begS s A = true ∧ (∀ k, A ≤ k → k < C → covS s r k = false) ∧ ∀ k, covS s (r + 1) k = (covS s r k || (decide (A ≤ k) && decide (k < C))) := by
  obtain ⟨h1, h2, h3⟩ := trT_good s
  have hg := prs_get (trT s) h
  rw [hAC] at hg
  obtain ⟨a, b, c, d⟩ := h1 (A, C) (List.mem_of_getElem? hg)
  have a' : A < C := a
  have hwA : wordS s A = true := c A (Nat.le_refl _) a'
  refine ⟨a, b, c, ?_, fun k k1 k2 => ?_, fun k => ?_⟩
  · unfold begS
    rw [hwA]
    rcases d with d | d
    · have d' : A = 0 := d
      rw [d']; simp
    · have d' : wordS s (A - 1) = false := d
      rw [d']; simp
  · unfold covS
    rw [List.any_eq_false]
    intro p hp
    obtain ⟨q, hq⟩ := List.mem_iff_getElem?.1 hp
    rw [List.getElem?_take] at hq
    split at hq
    · rename_i hqr
      have hlt : r < (prs (trT s)).length := by rw [prs_len]; exact h
      have := List.pairwise_iff_getElem.1 h2 q r (by omega) hlt hqr
      have e1 : (prs (trT s))[q]'(by omega) = p := by
        rw [List.getElem?_eq_getElem (by omega)] at hq
        exact Option.some.inj hq
      have e2 : (prs (trT s))[r]'hlt = (A, C) := by
        rw [List.getElem?_eq_getElem hlt] at hg
        exact Option.some.inj hg
      rw [e1, e2] at this
      have this' : p.2 ≤ A := this
      simp
      intro _
      omega
    · cases hq
  · unfold covS
    rw [List.take_add_one, hg]
    simp [List.any_append]
theorem cov_all {k : Nat} (hk : k < s.size) : covS s ((trT s).length / 2) k = wordS s k := by
  obtain ⟨h1, h2, h3⟩ := trT_good s
  unfold covS
  rw [List.take_of_length_le (by rw [prs_len]; exact Nat.le_refl _)]
  rw [Bool.eq_iff_iff, List.any_eq_true]
  constructor
  · rintro ⟨p, hp, hk2⟩
    simp at hk2
    exact (h1 p hp).2.2.1 k hk2.1 hk2.2
  · intro hw
    obtain ⟨p, hp, k1, k2⟩ := h3 k hk hw
    exact ⟨p, hp, by simp [k1, k2]⟩
end
/-- What begins is of some kind. -/
theorem kind_nz (s : ByteArray) (i : Nat) (hi : i < s.size) : (kindN s ((i : Nat) : Int) ≠ 0) ↔ begS s i = true := by
  unfold kindN
  rw [if_pos ⟨by omega, by omega⟩, Int.toNat_natCast]
  cases hb : begS s i with
  | false => simp
  | true =>
    rw [if_pos rfl]
    cases hw : wordS s i with
    | true => simp
    | false =>
      simp only [Bool.false_eq_true, if_false, iff_true]
      intro h0
      unfold begS strS at hb
      rw [hw] at hb
      have hq : quoB s i = false := by
        rw [quoB_at s i hi]
        have : (s[i]'hi).toNat = byteAt s i := by unfold byteAt; rw [Array.getElem?_eq_getElem (show i < s.data.size from hi)]; rfl
        rw [this, h0]; rfl
      have hm : markS s i = false := by unfold markS; rw [hq]; rfl
      rw [hm] at hb
      simp [sgnB, h0] at hb
theorem word_was (s : ByteArray) (i : Nat) (hi : i < s.size) (M I : Bool) (hM : markS s i = M) (hI : inS s i = I) : outS s i = (!M && !I) := by unfold outS; rw [hM, hI, decide_eq_true hi, Bool.true_and]

/-- Is a byte a structural one? -/
def sgnN (x : Nat) : Bool := x == 123 || x == 125 || x == 91 || x == 93 || x == 58 || x == 44
theorem beqI (x y : Nat) : ((x : Int) == (y : Int)) = (x == y) := by rw [Bool.eq_iff_iff, beq_iff_eq, beq_iff_eq]; omega
set_option maxRecDepth 10000 in
set_option maxHeartbeats 1000000 in
theorem sign_calls (x : Nat) (B : Bool) (hB : Hid (sgnN x = B)) (w : World) : Calls Tryd.prog 14 #[.int .u8 (x : Int)] w fun e w' => e = .returned (.bool B) ∧ w' = w := by
  have h1 : ((x : Int) == 123) = (x == 123) := beqI x 123
  have h2 : ((x : Int) == 125) = (x == 125) := beqI x 125
  have h3 : ((x : Int) == 91) = (x == 91) := beqI x 91
  have h4 : ((x : Int) == 93) = (x == 93) := beqI x 93
  have h5 : ((x : Int) == 58) = (x == 58) := beqI x 58
  have h6 : ((x : Int) == 44) = (x == 44) := beqI x 44
  have hBB := hB.out
  unfold sgnN at hBB
  obtain ⟨c1, e1⟩ : ∃ c, (x == 123) = c := ⟨_, rfl⟩
  obtain ⟨c2, e2⟩ : ∃ c, (x == 125) = c := ⟨_, rfl⟩
  obtain ⟨c3, e3⟩ : ∃ c, (x == 91) = c := ⟨_, rfl⟩
  obtain ⟨c4, e4⟩ : ∃ c, (x == 93) = c := ⟨_, rfl⟩
  obtain ⟨c5, e5⟩ : ∃ c, (x == 58) = c := ⟨_, rfl⟩
  obtain ⟨c6, e6⟩ : ∃ c, (x == 44) = c := ⟨_, rfl⟩
  rw [e1] at h1 hBB
  rw [e2] at h2 hBB
  rw [e3] at h3 hBB
  rw [e4] at h4 hBB
  rw [e5] at h5 hBB
  rw [e6] at h6 hBB
  clear hB e1 e2 e3 e4 e5 e6
  go_enter Tryd.func14, Tryd.ntmps14
  cases c1
  · cases c2
    · cases c3
      · cases c4
        · cases c5
          · obtain rfl : c6 = B := by simpa using hBB
            clear hBB
            go_wp2
            go_ret
            exact ⟨rfl, rfl⟩
          · obtain rfl : true = B := by simpa using hBB
            clear hBB
            go_wp2
            go_ret
            exact ⟨rfl, rfl⟩
        · obtain rfl : true = B := by simpa using hBB
          clear hBB
          go_wp2
          go_ret
          exact ⟨rfl, rfl⟩
      · obtain rfl : true = B := by simpa using hBB
        clear hBB
        go_wp2
        go_ret
        exact ⟨rfl, rfl⟩
    · obtain rfl : true = B := by simpa using hBB
      clear hBB
      go_wp2
      go_ret
      exact ⟨rfl, rfl⟩
  · obtain rfl : true = B := by simpa using hBB
    clear hBB
    go_wp2
    go_ret
    exact ⟨rfl, rfl⟩
set_option maxRecDepth 10000 in
set_option maxHeartbeats 1000000 in
theorem looked_calls (s : ByteArray) (hs : s.size ≤ 1048576) (i : Nat) : ∃ B : Bool, ∀ w : World, Calls Tryd.prog 11 #[.string s, .int .i64 (i : Int)] w fun e w' => e = .returned (.bool B) ∧ w' = w := by
  obtain ⟨q, hq⟩ : ∃ q, Hid (s.size / 64 = q) := ⟨_, rfl⟩
  have eq1 : (s.size : Int) / 64 = (q : Int) := by have := hq.out; omega
  have hql : Hid (q ≤ 16384) := by have := hq.out; show _ ≤ _; omega
  have hsi : (s.size : Int) ≤ 1048576 := by omega
  obtain ⟨m, hm⟩ : ∃ m, (i : Int) % ((q : Int) + 1) = m := ⟨_, rfl⟩
  by_cases h1 : (i : Int) < 64
  · refine ⟨true, fun w => ?_⟩
    go_enter Tryd.func11, Tryd.ntmps11
    go_wp2
    go_ret
    exact ⟨rfl, rfl⟩
  · have h1' : decide ((i : Int) < 64) = false := by simp; omega
    by_cases h2 : (s.size : Int) - 64 ≤ (i : Int)
    · have h2' : decide ((s.size : Int) - 64 ≤ (i : Int)) = true := by simp; omega
      refine ⟨true, fun w => ?_⟩
      go_enter Tryd.func11, Tryd.ntmps11
      go_wp2
      go_ret
      exact ⟨rfl, rfl⟩
    · have h2' : decide ((s.size : Int) - 64 ≤ (i : Int)) = false := by simp; omega
      refine ⟨m == 0, fun w => ?_⟩
      have hq1 : ((q : Int) + 1 == 0) = false := by simp; omega
      have hqi : (q : Int) ≤ 16384 := by have := hql.out; omega
      go_enter Tryd.func11, Tryd.ntmps11
      go_wp2
      go_ret
      exact ⟨rfl, rfl⟩
end Go.Proofs.YthakingpeegagaaDoor
