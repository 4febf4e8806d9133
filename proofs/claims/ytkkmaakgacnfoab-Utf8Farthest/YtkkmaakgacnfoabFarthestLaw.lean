/-
  Utf8Farthest: the place that Bad tells is the greatest.
-/
import Derived.Test.YtkkmaakgacnfoabUtf8Goes
import Derived.Test.YtkkmaakgacnfoabUtf8Read
import Derived.Laws.Concat
namespace Go.Proofs.Ytkkmaakgacnfoab
open Go.RowKit

def GoesV (s : ByteArray) (e : Ending) : Prop := ∃ r : Bool, e = .returned (.bool r) ∧ (r = true ↔ Goes s)
/-- No try ahead of the k-th one with the i-th byte made it UTF-8. -/
def NoneYet (s : ByteArray) (i k : Nat) : Prop := ∀ (j : Nat) (t : ByteArray) (m : Nat), triesL[j]? = some t → m ≤ 2 → (j < i ∨ (j = i ∧ m < k)) → badOf (tryS s t m) ≠ -1

set_option maxRecDepth 10000 in
set_option maxHeartbeats 2000000 in
theorem goes_calls (s : ByteArray) (hs : s.size ≤ 4611686018427387904) (w : World) :
    Calls Try.prog 13 #[.string s] w fun e w' => GoesV s e ∧ Below w.heap.size w w' := by
  go_enter Try.func13, Try.ntmps13
  go_wp2_with fail
  refine (badF_calls s (by omega) _).mono ?_
  rintro e w1 ⟨rfl, hb1⟩
  have hb1' := hid hb1
  clear hb1
  by_cases h0 : badOf s = -1
  · have hy := hid (show Goes s from .inl h0)
    go_wp2
    go_ret
    exact ⟨⟨true, rfl, fun _ => hy.out, fun _ => rfl⟩, hb1'.out⟩
  have h0' := hid h0
  obtain ⟨n0, hn0⟩ : ∃ n : Nat, badOf s = (n : Int) := by
    rcases bad_at s with h | ⟨n, h, _⟩
    · exact absurd h h0
    · exact ⟨n, h⟩
  have hne0 : ¬ ((n0 : Int) = -1) := by omega
  rw [hn0]
  clear hn0
  go_wp2
  obtain ⟨cs, hcs⟩ : ∃ cs : Array Value, cs = #[.string ⟨#[128]⟩, .string ⟨#[144]⟩, .string ⟨#[160]⟩, .string ⟨#[143]⟩, .string ⟨#[191]⟩] := ⟨_, rfl⟩
  have hat := hid (show At (w1.alloc (.cells cs 9)) w1.heap.size cs 9 from At.new _ _ _)
  have hb2 := hid (show Below w.heap.size w (w1.alloc (.cells cs 9)) from hb1'.out.alloc hb1'.out.size _)
  have hcells := hid (show ∀ (i : Nat) (t : ByteArray), triesL[i]? = some t → cs[i]? = some (.string t) from fun i t h => by
    rw [hcs]
    match i, h with
    | 0, h => cases h; rfl
    | 1, h => cases h; rfl
    | 2, h => cases h; rfl
    | 3, h => cases h; rfl
    | 4, h => cases h; rfl)
  rw [← hcs]
  have hg := hid hb1'.out.size
  generalize w1.alloc (.cells cs 9) = W at *
  generalize w1.heap.size = g at *
  clear hcs h0
  go_loopw [4] (fun ii wr => ∃ i : Nat, i ≤ 5 ∧ ii = .int .i64 (i : Int) ∧ Hid (NoneYet s i 0) ∧ Hid (At wr g cs 9) ∧ Hid (Below w.heap.size w wr)) (fun ii _ => 5 - (intOf ii).toNat)
  case atStart => exact ⟨0, by omega, rfl, hid (fun j t m _ _ h => by omega), hat, hb2⟩
  case round =>
    obtain ⟨i, hi, rfl, hno, hA, hB⟩ := hrel
    clear hat hb2
    by_cases hlt : i < 5
    · have hli : (i : Int) < 5 := by omega
      obtain ⟨t, ht⟩ : ∃ t, triesL[i]? = some t := ⟨_, List.getElem?_eq_getElem (by show i < 5; omega)⟩
      have ht' := hid ht
      have htz := hid (show t.size = 1 from by
        match i, ht with
        | 0, h => cases h; rfl
        | 1, h => cases h; rfl
        | 2, h => cases h; rfl
        | 3, h => cases h; rfl
        | 4, h => cases h; rfl)
      clear ht
      go_wp2
      go_loopw [5] (fun kk wr => ∃ k : Nat, k ≤ 3 ∧ kk = .int .i64 (k : Int) ∧ Hid (NoneYet s i k) ∧ Hid (At wr g cs 9) ∧ Hid (Below w.heap.size w wr)) (fun kk _ => 3 - (intOf kk).toNat)
      case atStart => exact ⟨0, by omega, rfl, hno, hA, hB⟩
      case round =>
        obtain ⟨k, hk, rfl, hno, hA, hB⟩ := hrel
        by_cases hk2 : k < 3
        · have hki : (k : Int) ≤ 2 := by omega
          have hc := hA.out.cell i
          rw [hcells.out i t ht'.out] at hc
          have hsz1 : s.size + t.size ≤ 9223372036854775807 := by have := htz.out; omega
          go_wp2
          go_loopw [6, 7] (fun tt jj wr => ∃ j : Nat, j ≤ k ∧ jj = .int .i64 (j : Int) ∧ tt = .string (tryS s t j) ∧ Hid (At wr g cs 9) ∧ Hid (Below w.heap.size w wr)) (fun _ jj _ => k - (intOf jj).toNat)
          case atStart => exact ⟨0, Nat.zero_le _, rfl, rfl, hA, hB⟩
          case round =>
            obtain ⟨j, hj, rfl, rfl, hA, hB⟩ := hrel
            by_cases hjk : j < k
            · have hji : (j : Int) < (k : Int) := by omega
              have hsz2 : (tryS s t j).size + (ByteArray.mk #[128]).size ≤ 9223372036854775807 := by rw [tryS_size]; show _ + 1 ≤ _; have := htz.out; omega
              clear hc hsz1
              go_wp2
              go_roundw
              case rel => exact ⟨j + 1, hjk, by simp, rfl, hA, hB⟩
              case measure => simp [intOf]; omega
            · obtain rfl : j = k := by omega
              clear hc hsz1
              go_wp2_with fail
              refine (badF_calls (tryS s t j) (by rw [tryS_size]; have := htz.out; omega) _).mono ?_
              rintro e w2 ⟨rfl, hb⟩
              have hA2 := hid (hA.out.keptAll hb)
              have hB2 := hid (hB.out.trans (hb.mono hB.out.size))
              clear hb
              by_cases hbad : badOf (tryS s t j) = -1
              · have hy := hid (show Goes s from .inr ⟨i, t, j, ht'.out, by omega, hbad⟩)
                go_wp2
                go_ret
                exact ⟨⟨true, rfl, fun _ => hy.out, fun _ => rfl⟩, hB2.out⟩
              · have hno2 := hid (show NoneYet s i (j + 1) from fun j' t' m h1 h2 h3 => by
                  by_cases e : j' = i ∧ m = j
                  · obtain ⟨rfl, rfl⟩ := e
                    rw [ht'.out] at h1
                    cases h1
                    exact hbad
                  · exact hno.out j' t' m h1 h2 (by omega))
                have hbad' := hid hbad
                go_wp2
                go_roundw
                case rel =>
                  refine ⟨_, _, _, _, _, _, _, _, _, _, _, _, _, _, _, _, _, _, _, _, _, _, _, _, ?_, rfl⟩
                  exact ⟨j + 1, by omega, by simp, hno2, hA2, hB2⟩
                case measure => simp [intOf]; omega
        · have hki : ¬ (k : Int) ≤ 2 := by omega
          obtain rfl : k = 3 := by omega
          have hno2 := hid (show NoneYet s (i + 1) 0 from fun j' t' m h1 h2 h3 => hno.out j' t' m h1 h2 (by omega))
          go_wp2
          go_roundw
          case rel => exact ⟨i + 1, by omega, by simp, hno2, hA, hB⟩
          case measure => simp [intOf]; omega
    · obtain rfl : i = 5 := by omega
      have hnot := hid (show ¬ Goes s from fun h => by
        rcases h with h | ⟨j, t, m, h1, h2, h3⟩
        · exact h0'.out h
        · exact hno.out j t m h1 h2 (.inl (by have := (List.getElem?_eq_some_iff.1 h1).1; exact this)) h3)
      go_wp2
      go_ret
      exact ⟨⟨false, rfl, fun h => (by cases h), fun h => absurd h hnot.out⟩, hB.out⟩

set_option maxRecDepth 10000 in
set_option maxHeartbeats 1000000 in
theorem utf8Farthest_walk (a0 : ByteArray) (h0 : a0.size ≤ reachBytes) (w : World) :
    Calls Try.prog 5 #[.string a0] w fun e w' => e = .returned (.bool true) ∧ Below w.heap.size w w' := by
  have hs : a0.size ≤ 140737488351232 := h0
  have e1 : badOf ⟨#[97, 255]⟩ = 1 := by decide
  clear h0
  go_enter Try.func5, Try.ntmps5
  go_wp2_with fail
  refine (badF_calls a0 (by omega) _).mono ?_
  rintro e w1 ⟨rfl, hb1⟩
  have hb1' := hid hb1
  clear hb1
  go_wp2_with fail
  refine (badF_calls ⟨#[97, 255]⟩ (by decide) _).mono ?_
  rintro e w2 ⟨rfl, hb2⟩
  rw [e1]
  have hb2' := hid (hb1'.out.trans (hb2.mono hb1'.out.size))
  clear hb2 e1
  rcases bad_at a0 with h | ⟨n, hn, hle, hgood, hwrong⟩
  · rw [h]
    go_wp2
    go_ret
    exact ⟨rfl, hb2'.out⟩
  · rw [hn]
    have hne : ¬ ((n : Int) = -1) := by omega
    have hn0 : ¬ ((n : Int) < 0) := by omega
    have hgt : ¬ ((a0.size : Int) < (n : Int)) := by omega
    have hlei : (n : Int) ≤ (a0.size : Int) := by omega
    have hbt := hid (byts_extract a0 0 n)
    have hgo := hid hgood
    have hwr := hid hwrong
    have hsz1 := hid (show (a0.extract 0 n).size ≤ 4611686018427387904 by rw [← byts_length, hbt.out, List.length_take]; omega)
    clear hn hgood hwrong
    go_wp2_with fail
    refine (goes_calls (a0.extract 0 n) hsz1.out _).mono ?_
    rintro e w3 ⟨⟨r, rfl, hr⟩, hb3⟩
    have hb3' := hid (hb2'.out.trans (hb3.mono hb2'.out.size))
    clear hb3
    obtain rfl : r = true := hr.2 (goes_yes (by rw [hbt.out]; exact hgo.out))
    clear hr
    by_cases heq : n = a0.size
    · have heqi : (n : Int) = (a0.size : Int) := by omega
      clear hgt hlei hle heq
      go_wp2
      go_ret
      exact ⟨rfl, hb3'.out⟩
    · have heqi : ¬ ((n : Int) = (a0.size : Int)) := by omega
      have hle1 : (n : Int) + 1 ≤ (a0.size : Int) := by omega
      have hbt2 := hid (byts_extract a0 0 (n + 1))
      have hsz2 := hid (show (a0.extract 0 (n + 1)).size ≤ 4611686018427387904 by rw [← byts_length, hbt2.out, List.length_take]; omega)
      have hlt := hid (show n < a0.size by omega)
      clear hgt heq
      go_wp2_with fail
      refine (goes_calls (a0.extract 0 (n + 1)) hsz2.out _).mono ?_
      rintro e w4 ⟨⟨r, rfl, hr⟩, hb4⟩
      have hb4' := hid (hb3'.out.trans (hb4.mono hb3'.out.size))
      clear hb4
      obtain rfl : r = false := by
        cases r
        · rfl
        · exact absurd (hr.1 rfl) (goes_no (by rw [hbt2.out]; exact hwr.out hlt.out))
      clear hr
      go_wp2
      go_ret
      exact ⟨rfl, hb4'.out⟩
end Go.Proofs.Ytkkmaakgacnfoab
