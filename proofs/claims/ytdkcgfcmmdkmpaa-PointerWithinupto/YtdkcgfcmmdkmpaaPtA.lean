/-
  A name as a place: what the reference says.
-/
import Derived.Test.YtdkcgfcmmdkmpaaDecMath
import Derived.Test.YtdkcgfcmmdkmpaaKitA
namespace Go.Proofs.Ytdkcgfcmmdkmpaa
open Go.RowKit Go.Shelf

/-- The number of the first digits. -/
def plN (s : ByteArray) : Nat → Nat
  | 0 => 0
  | i + 1 => plN s i * 10 + (lk s i - 48)
/-- Is a name a place? -/
def plB (s : ByteArray) : Bool := decide (1 ≤ s.size ∧ s.size ≤ 18 ∧ (lk s 0 = 48 → s.size = 1)) && decide (∀ i, i < s.size → 48 ≤ lk s i ∧ lk s i ≤ 57)
def plV (s : ByteArray) : Int := if plB s = true then (plN s s.size : Int) else 0
theorem plN_lt (s : ByteArray) : ∀ i, (∀ j, j < i → lk s j ≤ 57) → plN s i < 10 ^ i
  | 0, _ => by simp [plN]
  | i + 1, h => by
    have h1 := plN_lt s i (fun j hj => h j (by omega))
    have h2 := h i (by omega)
    rw [plN, Nat.pow_succ]
    omega
theorem plN_18 (s : ByteArray) (i : Nat) (hi : i ≤ 18) (h : ∀ j, j < i → lk s j ≤ 57) : plN s i < 1000000000000000000 := by
  have h1 := plN_lt s i h
  have h2 : 10 ^ i ≤ 10 ^ 18 := Nat.pow_le_pow_right (by decide) hi
  exact Nat.lt_of_lt_of_le h1 h2
theorem plN_17 (s : ByteArray) (i : Nat) (hi : i ≤ 17) (h : ∀ j, j < i → lk s j ≤ 57) : plN s i < 100000000000000000 := by
  have h1 := plN_lt s i h
  have h2 : 10 ^ i ≤ 10 ^ 17 := Nat.pow_le_pow_right (by decide) hi
  exact Nat.lt_of_lt_of_le h1 h2
theorem plB_no {s : ByteArray} (h : ¬ (1 ≤ s.size ∧ s.size ≤ 18 ∧ (lk s 0 = 48 → s.size = 1))) : plB s = false := by unfold plB; rw [decide_eq_false h]; rfl
theorem plB_bad {s : ByteArray} {i : Nat} (hi : i < s.size) (h : ¬ (48 ≤ lk s i ∧ lk s i ≤ 57)) : plB s = false := by
  unfold plB
  rw [show decide (∀ i, i < s.size → 48 ≤ lk s i ∧ lk s i ≤ 57) = false from decide_eq_false (fun h' => h (h' i hi)), Bool.and_false]
theorem plB_yes {s : ByteArray} (h1 : 1 ≤ s.size) (h2 : s.size ≤ 18) (h3 : lk s 0 = 48 → s.size = 1) (h : ∀ i, i < s.size → 48 ≤ lk s i ∧ lk s i ≤ 57) : plB s = true := by
  unfold plB
  rw [decide_eq_true (show 1 ≤ s.size ∧ s.size ≤ 18 ∧ (lk s 0 = 48 → s.size = 1) from ⟨h1, h2, h3⟩), decide_eq_true h]
  rfl
theorem plV_no {s : ByteArray} (h : plB s = false) : plV s = 0 := by unfold plV; rw [h]; rfl
theorem plV_yes {s : ByteArray} (h : plB s = true) : plV s = (plN s s.size : Int) := by unfold plV; rw [h]; rfl

theorem w64 {x : Int} (h1 : -9223372036854775808 ≤ x) (h2 : x ≤ 9223372036854775807) : wrap64 x = x := by unfold wrap64; omega

set_option maxRecDepth 10000 in
set_option maxHeartbeats 2000000 in
theorem plcR_calls (s : ByteArray) (hs : s.size ≤ 9223372036854775807) (w : World) : Calls Try.prog 7 #[.string s] w fun e w' => e = .returned (.tuple #[.int .i64 (plV s), .bool (plB s)]) ∧ Below w.heap.size w w' := by
  by_cases h1 : s.size < 1
  · have hb := plB_no (s := s) (fun h => by omega)
    rw [plV_no hb, hb]
    clear hb
    have h1i : (s.size : Int) < 1 := by omega
    go_enter Try.func7, Try.ntmps7
    go_wp2
    go_ret2
    exact ⟨rfl, Below.refl _ _⟩
  by_cases h2 : 18 < s.size
  · have hb := plB_no (s := s) (fun h => by omega)
    rw [plV_no hb, hb]
    clear hb
    go_enter Try.func7, Try.ntmps7
    go_wp2
    go_ret2
    exact ⟨rfl, Below.refl _ _⟩
  have h0 : 0 < s.size := by omega
  have e0 := lk_at s 0 h0
  by_cases h3 : (s[0]'h0).toNat = 48 ∧ 1 < s.size
  · have hb := plB_no (s := s) (fun h => by have := h.2.2 (by rw [e0]; exact h3.1); omega)
    rw [plV_no hb, hb]
    clear hb e0
    obtain ⟨h4, h5⟩ := h3
    go_enter Try.func7, Try.ntmps7
    go_wp2
    go_ret2
    exact ⟨rfl, Below.refl _ _⟩
  have hs18 : s.size ≤ 18 := by omega
  have h0' : lk s 0 = 48 → s.size = 1 := fun h => by rw [e0] at h; omega
  have key : ((s[0]'h0).toNat = 48 ∧ s.size ≤ 1) ∨ (s[0]'h0).toNat ≠ 48 := by omega
  clear h3 e0
  rcases key with ⟨h4, h5⟩ | h4
  · go_enter Try.func7, Try.ntmps7
    go_wp2
    go_loopw [4, 5] (fun nn ii wr => ∃ q : Nat, q ≤ s.size ∧ nn = .int .i64 ((plN s q : Nat) : Int) ∧ ii = .int .i64 (q : Int) ∧ Hid (∀ j, j < q → 48 ≤ lk s j ∧ lk s j ≤ 57) ∧ Hid (Below w.heap.size w wr)) (fun _ ii _ => s.size - (intOf ii).toNat)
    case atStart => exact ⟨0, Nat.zero_le _, rfl, rfl, hid (fun j hj => by omega), hid (Below.refl _ _)⟩
    case round =>
      obtain ⟨q, hqN, rfl, rfl, hD, hB⟩ := hrel
      by_cases hq : q < s.size
      · have hqi : (q : Int) < (s.size : Int) := by omega
        have eq := lk_at s q hq
        by_cases hd : 48 ≤ (s[q]'hq).toNat ∧ (s[q]'hq).toNat ≤ 57
        · obtain ⟨hd1, hd2⟩ := hd
          have hN := plN_17 s q (by omega) (fun j hj => (hD.out j hj).2)
          have hnx : plN s (q + 1) = plN s q * 10 + ((s[q]'hq).toNat - 48) := by rw [plN, eq]
          obtain ⟨n, hn⟩ : ∃ n, plN s q = n := ⟨_, rfl⟩
          rw [hn] at hN hnx ⊢
          have hnx' := hid hnx
          have eq' := hid eq
          clear hnx eq hn
          go_wp2
          go_roundw
          case rel => exact ⟨q + 1, by omega, by rw [hnx'.out]; congr 1; omega, by simp, hid (fun j hj => by
            by_cases e : j = q
            · subst e; rw [eq'.out]; exact ⟨hd1, hd2⟩
            · exact hD.out j (by omega)), hB⟩
          case measure => simp [intOf]; omega
        · have hb := plB_bad hq (show ¬ (48 ≤ lk s q ∧ lk s q ≤ 57) by rw [eq]; exact hd)
          have hb' := hid hb
          have key : (s[q]'hq).toNat < 48 ∨ (48 ≤ (s[q]'hq).toNat ∧ 57 < (s[q]'hq).toNat) := by omega
          clear hb hd eq
          rcases key with h | ⟨h, h'⟩
          · go_wp2
            go_ret2
            exact ⟨by rw [plV_no hb'.out, hb'.out]; rfl, hB.out⟩
          · go_wp2
            go_ret2
            exact ⟨by rw [plV_no hb'.out, hb'.out]; rfl, hB.out⟩
      · obtain rfl : q = s.size := by omega
        have hb := plB_yes (by omega) hs18 h0' hD.out
        have hb' := hid hb
        clear hb
        go_wp2
        go_ret2
        exact ⟨by rw [plV_yes hb'.out, hb'.out]; rfl, hB.out⟩
  · go_enter Try.func7, Try.ntmps7
    go_wp2
    go_loopw [4, 5] (fun nn ii wr => ∃ q : Nat, q ≤ s.size ∧ nn = .int .i64 ((plN s q : Nat) : Int) ∧ ii = .int .i64 (q : Int) ∧ Hid (∀ j, j < q → 48 ≤ lk s j ∧ lk s j ≤ 57) ∧ Hid (Below w.heap.size w wr)) (fun _ ii _ => s.size - (intOf ii).toNat)
    case atStart => exact ⟨0, Nat.zero_le _, rfl, rfl, hid (fun j hj => by omega), hid (Below.refl _ _)⟩
    case round =>
      obtain ⟨q, hqN, rfl, rfl, hD, hB⟩ := hrel
      by_cases hq : q < s.size
      · have hqi : (q : Int) < (s.size : Int) := by omega
        have eq := lk_at s q hq
        by_cases hd : 48 ≤ (s[q]'hq).toNat ∧ (s[q]'hq).toNat ≤ 57
        · obtain ⟨hd1, hd2⟩ := hd
          have hN := plN_17 s q (by omega) (fun j hj => (hD.out j hj).2)
          have hnx : plN s (q + 1) = plN s q * 10 + ((s[q]'hq).toNat - 48) := by rw [plN, eq]
          obtain ⟨n, hn⟩ : ∃ n, plN s q = n := ⟨_, rfl⟩
          rw [hn] at hN hnx ⊢
          have hnx' := hid hnx
          have eq' := hid eq
          clear hnx eq hn
          go_wp2
          go_roundw
          case rel => exact ⟨q + 1, by omega, by rw [hnx'.out]; congr 1; omega, by simp, hid (fun j hj => by
            by_cases e : j = q
            · subst e; rw [eq'.out]; exact ⟨hd1, hd2⟩
            · exact hD.out j (by omega)), hB⟩
          case measure => simp [intOf]; omega
        · have hb := plB_bad hq (show ¬ (48 ≤ lk s q ∧ lk s q ≤ 57) by rw [eq]; exact hd)
          have hb' := hid hb
          have key : (s[q]'hq).toNat < 48 ∨ (48 ≤ (s[q]'hq).toNat ∧ 57 < (s[q]'hq).toNat) := by omega
          clear hb hd eq
          rcases key with h | ⟨h, h'⟩
          · go_wp2
            go_ret2
            exact ⟨by rw [plV_no hb'.out, hb'.out]; rfl, hB.out⟩
          · go_wp2
            go_ret2
            exact ⟨by rw [plV_no hb'.out, hb'.out]; rfl, hB.out⟩
      · obtain rfl : q = s.size := by omega
        have hb := plB_yes (by omega) hs18 h0' hD.out
        have hb' := hid hb
        clear hb
        go_wp2
        go_ret2
        exact ⟨by rw [plV_yes hb'.out, hb'.out]; rfl, hB.out⟩
end Go.Proofs.Ytdkcgfcmmdkmpaa
