/-
  What the methods of utf8's state do with it.
-/
import Derived.Test.YtlcihopklnnhdaaKitA
import Derived.Test.YtlcihopklnnhdaaUtf8Math
namespace Go.Proofs.Ytlcihopklnnhdaa
open Go.RowKit

/-- All but block b is as it was. -/
def Only (b : Nat) (w w' : World) : Prop := Below b w w' ∧ w'.heap.size = w.heap.size ∧ ∀ c, c ≠ b → w'.heap[c]? = w.heap[c]?
theorem Only.refl (b : Nat) (w : World) : Only b w w := ⟨Below.refl _ _, rfl, fun _ _ => rfl⟩
theorem Only.trans {b : Nat} {w w1 w2 : World} (h : Only b w w1) (k : Only b w1 w2) : Only b w w2 := ⟨h.1.trans k.1, k.2.1.trans h.2.1, fun c hc => (k.2.2 c hc).trans (h.2.2 c hc)⟩
theorem Only.set {b : Nat} {w w' : World} (h : Only b w w') (i : Nat) (v : Value) : Only b w (w'.setCell ⟨b, i, none⟩ v) :=
  ⟨h.1.setCell (p := ⟨b, i, none⟩) (Nat.le_refl _) _, by simp [h.2.1], fun c hc => (Below.heap_setCell w' ⟨b, i, none⟩ v c hc).trans (h.2.2 c hc)⟩
theorem Only.drew {b : Nat} {w w' : World} (h : Only b w w') : Only b w w'.drew := ⟨h.1.drew, h.2.1, h.2.2⟩
theorem Only.below {b k : Nat} {w w' : World} (h : Only b w w') (hk : k ≤ b) : Below k w w' := h.1.mono hk
theorem Only.at {b c : Nat} {w w' : World} (h : Only b w w') {cs : Array Value} {t : TypeId} (ha : At w c cs t) (hc : c ≠ b) : At w' c cs t := (h.2.2 c hc).trans ha

/-- The cells of a state. -/
def stC (s : St5) : Array Value := #[.int .i64 (s.good : Int), .bool s.wrong, .int .i64 (s.q.left : Int), .int .u8 (s.q.lo : Int), .int .u8 (s.q.hi : Int)]

set_option maxRecDepth 10000 in
theorem second_calls (x : Nat) (w : World) : Calls Try.prog 55 #[.int .u8 (x : Int)] w fun e w' => e = .returned (.tuple #[.int .u8 (secLo x : Int), .int .u8 (secHi x : Int)]) ∧ w' = w := by
  by_cases h1 : x = 224
  · subst h1
    go_enter Try.func55, Try.ntmps55
    go_wp2
    exact bodyPost_ret (v := .tuple #[.int .u8 160, .int .u8 191]) (by simp [results, Try.results55, go_sem]; try decide) rfl ⟨rfl, rfl⟩
  by_cases h2 : x = 237
  · subst h2
    go_enter Try.func55, Try.ntmps55
    go_wp2
    exact bodyPost_ret (v := .tuple #[.int .u8 128, .int .u8 159]) (by simp [results, Try.results55, go_sem]; try decide) rfl ⟨rfl, rfl⟩
  by_cases h3 : x = 240
  · subst h3
    go_enter Try.func55, Try.ntmps55
    go_wp2
    exact bodyPost_ret (v := .tuple #[.int .u8 144, .int .u8 191]) (by simp [results, Try.results55, go_sem]; try decide) rfl ⟨rfl, rfl⟩
  by_cases h4 : x = 244
  · subst h4
    go_enter Try.func55, Try.ntmps55
    go_wp2
    exact bodyPost_ret (v := .tuple #[.int .u8 128, .int .u8 143]) (by simp [results, Try.results55, go_sem]; try decide) rfl ⟨rfl, rfl⟩
  have e1 : secLo x = 128 := by unfold secLo; rw [if_neg h1, if_neg h3]
  have e2 : secHi x = 191 := by unfold secHi; rw [if_neg h2, if_neg h4]
  rw [e1, e2]
  have i1 : ¬ ((x : Int) = 224) := by omega
  have i2 : ¬ ((x : Int) = 237) := by omega
  have i3 : ¬ ((x : Int) = 240) := by omega
  have i4 : ¬ ((x : Int) = 244) := by omega
  clear e1 e2
  go_enter Try.func55, Try.ntmps55
  go_wp2
  exact bodyPost_ret (v := .tuple #[.int .u8 128, .int .u8 191]) (by simp [results, Try.results55, go_sem]; try decide) rfl ⟨rfl, rfl⟩

set_option maxRecDepth 10000 in
set_option maxHeartbeats 1000000 in
theorem begin_calls (b : Nat) (t : TypeId) (s : St5) (x : Nat) (w : World) (hA : At w b (stC s) t) (hl : s.q.left = 0) :
    Calls Try.prog 51 #[.pointer (some ⟨b, 0, none⟩), .int .u8 (x : Int)] w fun e w' => e = .returned (.bool (begQ s.q x).isSome) ∧ Only b w w' ∧ At w' b (stC ⟨s.good, s.wrong, (begQ s.q x).getD s.q⟩) t := by
  have hA' := hid hA
  have c2 : w.cell? ⟨b, 2, none⟩ = some (.int .i64 0) := by rw [hA.cell]; simp [stC, hl]
  have c3 : w.cell? ⟨b, 3, none⟩ = some (.int .u8 (s.q.lo : Int)) := by rw [hA.cell]; simp [stC]
  have c4 : w.cell? ⟨b, 4, none⟩ = some (.int .u8 (s.q.hi : Int)) := by rw [hA.cell]; simp [stC]
  have f2 := hA.frozen 2
  have f3 := hA.frozen 3
  have f4 := hA.frozen 4
  clear hA
  by_cases h1 : 244 < x
  · have e : begQ s.q x = none := by unfold begQ; rw [if_pos h1]
    have i1 : (244 : Int) < (x : Int) := by omega
    rw [e]
    clear e
    go_enter Try.func51, Try.ntmps51
    go_wp2
    go_ret
    exact ⟨rfl, Only.refl _ _, hA'.out⟩
  have i1 : ¬ (244 : Int) < (x : Int) := by omega
  by_cases h2 : 240 ≤ x
  · have e : begQ s.q x = some ⟨3, secLo x, secHi x⟩ := by unfold begQ; rw [if_neg h1, if_pos h2]
    have i2 : (240 : Int) ≤ (x : Int) := by omega
    rw [e]
    clear e
    go_enter Try.func51, Try.ntmps51
    go_wp2_with (first | (refine (second_calls x _).mono ?_; rintro e w1 ⟨rfl, hw1⟩; rw [hw1]; clear hw1))
    go_ret
    exact ⟨rfl, ((((((Only.refl _ _).set _ _).set _ _).set _ _).set _ _).set _ _), by simpa [stC] using (((((hA'.out.set 2 (.int .i64 1)).set 2 (.int .i64 2)).set 2 (.int .i64 3)).set 3 (.int .u8 (secLo x : Int))).set 4 (.int .u8 (secHi x : Int)))⟩
  have i2 : ¬ (240 : Int) ≤ (x : Int) := by omega
  by_cases h3 : 224 ≤ x
  · have e : begQ s.q x = some ⟨2, secLo x, secHi x⟩ := by unfold begQ; rw [if_neg h1, if_neg h2, if_pos h3]
    have i3 : (224 : Int) ≤ (x : Int) := by omega
    rw [e]
    clear e
    go_enter Try.func51, Try.ntmps51
    go_wp2_with (first | (refine (second_calls x _).mono ?_; rintro e w1 ⟨rfl, hw1⟩; rw [hw1]; clear hw1))
    go_ret
    exact ⟨rfl, (((((Only.refl _ _).set _ _).set _ _).set _ _).set _ _), by simpa [stC] using ((((hA'.out.set 2 (.int .i64 1)).set 2 (.int .i64 2)).set 3 (.int .u8 (secLo x : Int))).set 4 (.int .u8 (secHi x : Int)))⟩
  have i3 : ¬ (224 : Int) ≤ (x : Int) := by omega
  by_cases h4 : 194 ≤ x
  · have e : begQ s.q x = some ⟨1, secLo x, secHi x⟩ := by unfold begQ; rw [if_neg h1, if_neg h2, if_neg h3, if_pos h4]
    have i4 : (194 : Int) ≤ (x : Int) := by omega
    rw [e]
    clear e
    go_enter Try.func51, Try.ntmps51
    go_wp2_with (first | (refine (second_calls x _).mono ?_; rintro e w1 ⟨rfl, hw1⟩; rw [hw1]; clear hw1))
    go_ret
    exact ⟨rfl, ((((Only.refl _ _).set _ _).set _ _).set _ _), by simpa [stC] using (((hA'.out.set 2 (.int .i64 1)).set 3 (.int .u8 (secLo x : Int))).set 4 (.int .u8 (secHi x : Int)))⟩
  have i4 : ¬ (194 : Int) ≤ (x : Int) := by omega
  by_cases h5 : 128 ≤ x
  · have e : begQ s.q x = none := by unfold begQ; rw [if_neg h1, if_neg h2, if_neg h3, if_neg h4, if_pos h5]
    have i5 : (128 : Int) ≤ (x : Int) := by omega
    rw [e]
    clear e
    go_enter Try.func51, Try.ntmps51
    go_wp2
    go_ret
    exact ⟨rfl, Only.refl _ _, hA'.out⟩
  have i5 : ¬ (128 : Int) ≤ (x : Int) := by omega
  have e : begQ s.q x = some s.q := by unfold begQ; rw [if_neg h1, if_neg h2, if_neg h3, if_neg h4, if_neg h5]
  rw [e]
  clear e
  go_enter Try.func51, Try.ntmps51
  go_wp2
  go_ret
  exact ⟨rfl, Only.refl _ _, hA'.out⟩

/-- The state behind a byte that comes, as far as it fits. -/
def fitQ (s : St5) (x : Nat) : St5 := ⟨s.good, s.wrong, (stp s.q x).getD s.q⟩

set_option maxRecDepth 10000 in
set_option maxHeartbeats 1000000 in
theorem fits_calls (b : Nat) (t : TypeId) (s : St5) (x : Nat) (w : World) (hA : At w b (stC s) t) (hL : s.q.left ≤ 3) :
    Calls Try.prog 45 #[.pointer (some ⟨b, 0, none⟩), .int .u8 (x : Int)] w fun e w' => e = .returned (.bool (stp s.q x).isSome) ∧ Only b w w' ∧ At w' b (stC (fitQ s x)) t := by
  have hA' := hid hA
  have f2 := hA.frozen 2
  have f3 := hA.frozen 3
  have f4 := hA.frozen 4
  by_cases h0 : s.q.left = 0
  · have c2 : w.cell? ⟨b, 2, none⟩ = some (.int .i64 0) := by rw [hA.cell]; simp [stC, h0]
    have hb := hid (begin_calls b t s x w hA h0)
    have e : stp s.q x = begQ s.q x := by unfold stp; rw [if_pos h0]
    unfold fitQ
    rw [e]
    clear e hA h0
    go_enter Try.func45, Try.ntmps45
    go_wp2_with fail
    refine Calls.mono hb.out ?_
    rintro e w1 ⟨rfl, h1, h2⟩
    have h1' := hid h1
    have h2' := hid h2
    clear h1 h2 hb
    go_wp2
    go_ret
    exact ⟨rfl, h1'.out, h2'.out⟩
  · have c2 : w.cell? ⟨b, 2, none⟩ = some (.int .i64 (s.q.left : Int)) := by rw [hA.cell]; simp [stC]
    have c3 : w.cell? ⟨b, 3, none⟩ = some (.int .u8 (s.q.lo : Int)) := by rw [hA.cell]; simp [stC]
    have c4 : w.cell? ⟨b, 4, none⟩ = some (.int .u8 (s.q.hi : Int)) := by rw [hA.cell]; simp [stC]
    have i0 : ¬ ((s.q.left : Int) = 0) := by omega
    have iL : (s.q.left : Int) ≤ 3 := by omega
    have i1 : (1 : Int) ≤ (s.q.left : Int) := by omega
    clear hA
    by_cases h1 : x < s.q.lo
    · have e : stp s.q x = none := by unfold stp; rw [if_neg h0, if_pos (.inl h1)]
      have i2 : (x : Int) < (s.q.lo : Int) := by omega
      unfold fitQ
      rw [e]
      clear e h0 hL
      go_enter Try.func45, Try.ntmps45
      go_wp2
      go_ret
      exact ⟨rfl, Only.refl _ _, hA'.out⟩
    by_cases h2 : s.q.hi < x
    · have e : stp s.q x = none := by unfold stp; rw [if_neg h0, if_pos (.inr h2)]
      have i2 : ¬ (x : Int) < (s.q.lo : Int) := by omega
      have i3 : (s.q.hi : Int) < (x : Int) := by omega
      unfold fitQ
      rw [e]
      clear e h0 hL h1
      go_enter Try.func45, Try.ntmps45
      go_wp2
      go_ret
      exact ⟨rfl, Only.refl _ _, hA'.out⟩
    · have e : stp s.q x = some ⟨s.q.left - 1, 128, 191⟩ := by unfold stp; rw [if_neg h0, if_neg (fun h => by omega)]
      have i2 : ¬ (x : Int) < (s.q.lo : Int) := by omega
      have i3 : ¬ (s.q.hi : Int) < (x : Int) := by omega
      have i4 := hid (show (s.q.left : Int) - 1 = ((s.q.left - 1 : Nat) : Int) by omega)
      unfold fitQ
      rw [e]
      clear e h0 hL h1 h2
      go_enter Try.func45, Try.ntmps45
      go_wp2
      go_ret
      refine ⟨rfl, (((Only.refl _ _).set _ _).set _ _).set _ _, ?_⟩
      have h := ((hA'.out.set 2 (.int .i64 ((s.q.left : Int) - 1))).set 3 (.int .u8 128)).set 4 (.int .u8 191)
      rw [i4.out] at h ⊢
      simpa [stC] using h

set_option maxRecDepth 10000 in
set_option maxHeartbeats 1000000 in
theorem take_calls (b : Nat) (t : TypeId) (s : St5) (x : Nat) (w : World) (hA : At w b (stC s) t) (hL : s.q.left ≤ 3) (hg : s.good < 9223372036854775807) :
    Calls Try.prog 38 #[.pointer (some ⟨b, 0, none⟩), .int .u8 (x : Int)] w fun e w' => e = .returned (.bool (!(tk s x).wrong)) ∧ Only b w w' ∧ At w' b (stC (tk s x)) t := by
  have hA' := hid hA
  have f0 := hA.frozen 0
  have f1 := hA.frozen 1
  cases hw : s.wrong with
  | true =>
    have c1 : w.cell? ⟨b, 1, none⟩ = some (.bool true) := by rw [hA.cell]; simp [stC, hw]
    rw [tk_wrong hw, hw]
    clear hA hL hg
    go_enter Try.func38, Try.ntmps38
    go_wp2
    go_ret
    refine ⟨rfl, (Only.refl _ _).set _ _, ?_⟩
    simpa [stC, hw] using hA'.out.set 1 (.bool true)
  | false =>
    have c1 : w.cell? ⟨b, 1, none⟩ = some (.bool false) := by rw [hA.cell]; simp [stC, hw]
    have hf := hid (fits_calls b t s x w hA hL)
    have hw' := hid hw
    clear hA hL hw
    go_enter Try.func38, Try.ntmps38
    go_wp2_with fail
    refine Calls.mono hf.out ?_
    rintro e w1 ⟨rfl, h1, h2⟩
    have h1' := hid h1
    have h2' := hid h2
    have d0 : w1.cell? ⟨b, 0, none⟩ = some (.int .i64 (s.good : Int)) := by rw [h2.cell]; simp [stC, fitQ]
    have d1 : w1.cell? ⟨b, 1, none⟩ = some (.bool false) := by rw [h2.cell]; simp [stC, fitQ, hw'.out]
    have g0 := h2.frozen 0
    have g1 := h2.frozen 1
    have hgi : (s.good : Int) < 9223372036854775807 := by omega
    clear h1 h2 hf
    cases hs : stp s.q x with
    | none =>
      have e2 := hid (tk_none hw'.out hs)
      have hs' := hid hs
      clear hs
      simp only [Option.isSome_none]
      go_wp2
      go_ret
      rw [e2.out]
      refine ⟨rfl, h1'.out.set _ _, ?_⟩
      have h := h2'.out.set 1 (.bool true)
      simpa [stC, fitQ, hs'.out] using h
    | some q =>
      have e2 := hid (tk_some hw'.out hs)
      have hs' := hid hs
      clear hs
      simp only [Option.isSome_some]
      go_wp2
      go_ret
      rw [e2.out]
      refine ⟨rfl, h1'.out.set _ _, ?_⟩
      have h := h2'.out.set 0 (.int .i64 ((s.good : Int) + 1))
      simpa [stC, fitQ, hs'.out, hw'.out] using h
end Go.Proofs.Ytlcihopklnnhdaa
