/-
  What utf8.Bad, and a Scan's New, Feed and End answer.
-/
import Derived.Test.YtlcihopklnnhdaaUtf8State
namespace Go.Proofs.Ytlcihopklnnhdaa
open Go.RowKit

set_option maxRecDepth 10000 in
set_option maxHeartbeats 1000000 in
theorem read_calls (b : Nat) (t : TypeId) (s : St5) (z : ByteArray) (w : World) (hA : At w b (stC s) t) (hL : s.q.left ≤ 3) (hg : s.good + z.size < 9223372036854775807) :
    Calls Try.prog 35 #[.pointer (some ⟨b, 0, none⟩), .string z] w fun e w' => e = .returned (.bool (!(runS s (byts z)).wrong)) ∧ Only b w w' ∧ At w' b (stC (runS s (byts z))) t := by
  have hA' := hid hA
  have hzz : z.size < 9223372036854775807 := by omega
  clear hA
  go_enter Try.func35, Try.ntmps35
  go_wp2
  go_loopw [8] (fun ii wr => ∃ i : Nat, i ≤ z.size ∧ ii = .int .i64 (i : Int) ∧ Only b w wr ∧ At wr b (stC (runS s ((byts z).take i))) t) (fun ii _ => z.size - (intOf ii).toNat)
  case atStart => exact ⟨0, Nat.zero_le _, rfl, Only.refl _ _, hA'.out⟩
  case round =>
    obtain ⟨i, hi, rfl, hO, hB⟩ := hrel
    have hO' := hid hO
    have hB' := hid hB
    clear hO
    by_cases hlt : i < z.size
    · have hti := hid (take_calls b t (runS s ((byts z).take i)) (byt z i) wr hB (runS_left hL _) (by have := runS_good s ((byts z).take i); rw [List.length_take] at this; omega))
      rw [← runS_snoc, ← byts_take z i hlt] at hti
      have hlti : (i : Int) < (z.size : Int) := by omega
      clear hB
      go_wp2_with fail
      rw [byt_at]
      refine Calls.mono hti.out ?_
      rintro e w1 ⟨rfl, h1, h2⟩
      have h1' := hid (hO'.out.trans h1)
      have h2' := hid h2
      clear h1 h2 hti
      cases hw : (runS s ((byts z).take (i + 1))).wrong with
      | true =>
        have hw' := hid hw
        clear hw
        simp only [Bool.not_true]
        go_wp2
        go_ret
        have e1 : runS s (byts z) = runS s ((byts z).take (i + 1)) := by
          conv => lhs; rw [← List.take_append_drop (i + 1) (byts z), runS_append]
          exact runS_wrong hw'.out _
        rw [e1, hw'.out]
        exact ⟨rfl, h1'.out, h2'.out⟩
      | false =>
        clear hw
        simp only [Bool.not_false]
        go_wp2
        go_roundw
        case rel => exact ⟨i + 1, hlt, by simp, h1'.out, h2'.out⟩
        case measure => simp [intOf]; omega
    · obtain rfl : i = z.size := by omega
      rw [byts_whole] at hB hB'
      have c1 : wr.cell? ⟨b, 1, none⟩ = some (.bool (runS s (byts z)).wrong) := by rw [hB.cell]; simp [stC]
      clear hB hlt
      go_wp2
      go_ret
      exact ⟨rfl, hO'.out, hB'.out⟩

set_option maxRecDepth 10000 in
theorem bad_calls (b : Nat) (t : TypeId) (s : St5) (w : World) (hA : At w b (stC s) t) :
    Calls Try.prog 36 #[.pointer (some ⟨b, 0, none⟩)] w fun e w' => e = .returned (.int .i64 (badI s)) ∧ w' = w := by
  have c0 : w.cell? ⟨b, 0, none⟩ = some (.int .i64 (s.good : Int)) := by rw [hA.cell]; simp [stC]
  have c2 : w.cell? ⟨b, 2, none⟩ = some (.int .i64 (s.q.left : Int)) := by rw [hA.cell]; simp [stC]
  unfold badI
  cases hw : s.wrong with
  | true =>
    have c1 : w.cell? ⟨b, 1, none⟩ = some (.bool true) := by rw [hA.cell]; simp [stC, hw]
    rw [if_pos (.inl rfl)]
    clear hA hw
    go_enter Try.func36, Try.ntmps36
    go_wp2
    go_ret
    exact ⟨rfl, rfl⟩
  | false =>
    have c1 : w.cell? ⟨b, 1, none⟩ = some (.bool false) := by rw [hA.cell]; simp [stC, hw]
    by_cases h : 0 < s.q.left
    · rw [if_pos (.inr h)]
      have hi : (0 : Int) < (s.q.left : Int) := by omega
      clear hA hw
      go_enter Try.func36, Try.ntmps36
      go_wp2
      go_ret
      exact ⟨rfl, rfl⟩
    · rw [if_neg (fun k => by rcases k with k | k; cases k; exact h k)]
      have hi : ¬ (0 : Int) < (s.q.left : Int) := by omega
      clear hA hw
      go_enter Try.func36, Try.ntmps36
      go_wp2
      go_ret
      exact ⟨rfl, rfl⟩

set_option maxRecDepth 10000 in
theorem badF_calls (z : ByteArray) (hz : z.size < 9223372036854775807) (w : World) :
    Calls Try.prog 18 #[.string z] w fun e w' => e = .returned (.int .i64 (badOf z)) ∧ Below w.heap.size w w' := by
  have hA0 : At (w.alloc (.cells (stC s5) 61)) w.heap.size (stC s5) 61 := At.new _ _ _
  have hb0 : Below w.heap.size w (w.alloc (.cells (stC s5) 61)) := (Below.refl _ _).alloc (Nat.le_refl _) _
  have hr := hid (read_calls w.heap.size 61 s5 z _ hA0 (by decide) (by show 0 + z.size < _; omega))
  have hb0' := hid hb0
  clear hA0 hb0 hz
  go_enter Try.func18, Try.ntmps18
  go_wp2_with fail
  refine Calls.mono hr.out ?_
  rintro e w1 ⟨rfl, h1, h2⟩
  have hb := hid (bad_calls w.heap.size 61 _ w1 h2)
  have h1' := hid (hb0'.out.trans (h1.below (Nat.le_refl _)))
  clear hr h1 h2
  go_wp2_with fail
  refine Calls.mono hb.out ?_
  rintro e w2 ⟨rfl, rfl⟩
  clear hb
  go_wp2
  go_ret
  exact ⟨rfl, h1'.out⟩

end Go.Proofs.Ytlcihopklnnhdaa
