/-
  TextsBack: every text that is UTF-8 is what its form between quotes means.
-/
import Derived.Test.YtlcihopklnnhdaaTxLaws
import Derived.Test.YtlcihopklnnhdaaTxEnd
import Derived.Test.YtlcihopklnnhdaaUtf8Read
import Derived.Laws.Concat
namespace Go.Proofs.Ytlcihopklnnhdaa
open Go.RowKit Go.Shelf

set_option maxRecDepth 10000 in
set_option maxHeartbeats 1000000 in
theorem textsBack_walk (a0 : ByteArray) (h0 : a0.size ≤ 1048576) (a1 : ByteArray) (h1 : a1.size ≤ 1048576) (w : World) (h15 : Ok15 w) :
    Calls Try.prog 7 #[.string a0, .string a1] w fun e w' => e = .returned (.bool true) ∧ Below w.heap.size w w' := by
  have h15' := hid h15
  by_cases hB0 : 0 ≤ badOf a0
  · have hU : Hid (wrS a0 = (⟨#[]⟩, 50)) := hid (by unfold wrS; rw [if_pos hB0])
    have hB0' := hid hB0
    obtain ⟨B, hB⟩ : ∃ B, Hid (badOf a0 = B) := ⟨_, rfl⟩
    have hB1 : 0 ≤ B := by rw [← hB.out]; exact hB0
    clear hB0
    go_enter Try.func7, Try.ntmps7
    go_wp2_with fail
    refine (es_calls a0 (by omega) _ _ hU _ h15'.out).mono ?_
    rintro e w1 ⟨rfl, hb1⟩
    have hb1' := hid hb1
    clear hb1
    go_wp2_with fail
    refine (badF_calls a0 (by omega) _).mono ?_
    rintro e w2 ⟨rfl, hb2⟩
    have hb2' := hid (hb1'.out.trans (hb2.mono hb1'.out.size))
    clear hb2
    rw [hB.out]
    go_wp2_with fail
    refine (awake15_calls _ (h15'.out.below hb2'.out)).mono ?_
    rintro e w3 ⟨rfl, hb3⟩
    have hb3' := hid (hb2'.out.trans (hb3.mono hb2'.out.size))
    clear hb3
    go_wp2
    go_ret
    exact ⟨rfl, hb3'.out⟩
  · obtain ⟨r, hU, hrs, hun, h32, hend⟩ := back_facts a0 h0 hB0
    have hbad : Hid (badOf a0 = -1) := hid (by
      rcases bad_neg (byts a0) with h | h
      · exact h
      · exact absurd h hB0)
    have hU' := hid hU
    have hun' := hid hun
    have h32' := hid h32
    have hend' := hid hend
    have hrs' : (r.size : Int) ≤ 6291456 := by omega
    have h1i : (a1.size : Int) ≤ 1048576 := by omega
    clear hB0 hU hun h32 hend
    go_enter Try.func7, Try.ntmps7
    go_wp2_with fail
    refine (es_calls a0 (by omega) _ _ hU' _ h15'.out).mono ?_
    rintro e w1 ⟨rfl, hb1⟩
    have hb1' := hid hb1
    clear hb1
    go_wp2_with fail
    refine (badF_calls a0 (by omega) _).mono ?_
    rintro e w2 ⟨rfl, hb2⟩
    have hb2' := hid (hb1'.out.trans (hb2.mono hb1'.out.size))
    clear hb2
    rw [hbad.out]
    go_wp2_with fail
    refine (un_calls r (by omega) _ _ hun' _ (h15'.out.below hb2'.out)).mono ?_
    rintro e w3 ⟨rfl, hb3⟩
    have hb3' := hid (hb2'.out.trans (hb3.mono hb2'.out.size))
    clear hb3 hb1' hb2'
    go_wp2_with fail
    go_loopw [9] (fun ii wr => ∃ i : Nat, i ≤ r.size ∧ ii = .int .i64 (i : Int) ∧ wr = w3) (fun ii _ => r.size - (intOf ii).toNat)
    case atStart => exact ⟨0, Nat.zero_le _, rfl, rfl⟩
    case round =>
      obtain ⟨i, hi, rfl, rfl⟩ := hrel
      by_cases hlt : i < r.size
      · have hli : (i : Int) < (r.size : Int) := by omega
        have hx := bAt_at r i hlt
        obtain ⟨x, hX⟩ : ∃ x, Hid (bAt r i = x) := ⟨_, rfl⟩
        have hx32 : 32 ≤ x := by rw [← hX.out]; exact h32'.out i hlt
        rw [hX.out] at hx
        have hxl : x < 256 := by rw [← hX.out]; exact bAt_lt r i
        have m32 : decide ((x : Int) < 32) = false := by simp; omega
        go_wp2_with fail
        go_roundw
        case rel => exact ⟨i + 1, by omega, by simp, trivial⟩
        case measure => simp [intOf]; omega
      · obtain rfl : i = r.size := by omega
        clear hlt hi
        have hcat : ((r ++ ⟨#[34]⟩) ++ a1).size ≤ 8388608 := by
          rw [ByteArray.size_append, ByteArray.size_append]
          have : (⟨#[34]⟩ : ByteArray).size = 1 := rfl
          omega
        have hee := hend'.out a1
        obtain ⟨z, hz⟩ : ∃ z, Hid ((r ++ ⟨#[34]⟩) ++ a1 = z) := ⟨_, rfl⟩
        rw [hz.out] at hcat hee
        have hee' := hid hee
        clear hee
        go_wp2_with fail
        rw [hz.out]
        refine (end_calls z (by omega) 0 (by decide) _ (h15'.out.below hb3'.out)).mono ?_
        rintro e w4 ⟨⟨n2, E2, rfl, hn⟩, hb4⟩
        obtain ⟨rfl, rfl⟩ := hn.uniq hee'.out
        have hb4' := hid (hb3'.out.trans (hb4.mono hb3'.out.size))
        clear hb4 hn
        go_wp2_with fail
        refine (sm_calls r a0 (by omega) _ _ hun' true (hid (by simp)) _ (h15'.out.below hb4'.out)).mono ?_
        rintro e w5 ⟨rfl, hb5⟩
        have hb5' := hid (hb4'.out.trans (hb5.mono hb4'.out.size))
        clear hb5
        go_wp2_with fail
        refine (awake15_calls _ (h15'.out.below hb5'.out)).mono ?_
        rintro e w6 ⟨rfl, hb6⟩
        have hb6' := hid (hb5'.out.trans (hb6.mono hb5'.out.size))
        clear hb6
        go_wp2
        go_ret
        exact ⟨rfl, hb6'.out⟩
end Go.Proofs.Ytlcihopklnnhdaa
