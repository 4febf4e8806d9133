/-
  The walk of quarrylaw03.WordsChains.
-/
import Derived.Test.YtkoillfkillohabDoorEscapedWalk
import Derived.Test.YtkoillfkillohabDoorSliceKit
namespace Go.Proofs.YtkoillfkillohabDoor
open Go.RowKit Go.Shelf

theorem esc_seven : escW 7 false = 10 ∧ escC 7 false 64 = false := by decide +kernel
theorem escC_lit (x : Nat) (c : Bool) (n : Nat) {b : Bool} (h : escC x c n = b) : escC x c (n + 1) = (x.testBit n && !b) := by rw [escC_succ, h]

set_option maxRecDepth 10000 in
set_option maxHeartbeats 2000000 in
theorem chains_nat (ao : Option Addr) (len cap : Nat) (zs : List Int) (hlen : len ≤ maxLen) (c0 : Bool) (w : World) (hT : Tab w) (h0 : 0 < w.heap.size) (hs : SliceOf w ao len .u64 zs) :
    Calls Tryd.prog 4 #[.slice ao len cap, .bool c0] w fun e w' => e = .returned (.bool true) ∧ Below w.heap.size w w' := by
  have hl63 : len ≤ 9223372036854775807 := by unfold maxLen at hlen; omega
  go_enter Tryd.func4, Tryd.ntmps4
  go_wp2
  go_loopw [1, 5, 6] (fun cc od ii wr => ∃ (n : Nat) (c : Bool), n ≤ len ∧ cc = .bool c ∧ od = .bool c ∧ ii = .int .i64 (n : Int) ∧ Below w.heap.size w wr) (fun _ _ ii _ => len - (intOf ii).toNat)
  case atStart => exact ⟨0, c0, Nat.zero_le _, rfl, rfl, rfl, Below.refl _ _⟩
  case round =>
    obtain ⟨n, c, hn, rfl, rfl, rfl, hb⟩ := hrel
    have hTr := hT.below hb h0
    have hr0 : 0 < wr.heap.size := Nat.lt_of_lt_of_le h0 hb.size
    by_cases hlt : n < len
    · obtain ⟨b, off, rfl, hbl, hzl, hcell⟩ := hs.2 n hlt
      have hwf : (Lit.int .u64 (zs.getD n 0)).wf = true := hs.1 _ (by rw [show zs.getD n 0 = zs[n] by simp [List.getD, hzl]]; exact List.getElem_mem hzl)
      obtain ⟨x0, x1⟩ := wf_u64 hwf
      obtain ⟨X, hX⟩ := Int.eq_ofNat_of_zero_le x0
      rw [hX] at hcell x1
      have hXl : X < 18446744073709551616 := by omega
      have hc1 := (hb.cell (p := ⟨b, off + n, none⟩) hbl).trans hcell
      have hs' : Hid _ := hs
      clear hs hwf x0 x1 hX
      obtain ⟨S, C, hS⟩ : ∃ S C, Hid (escW X c = S ∧ escC X c 64 = C) := ⟨_, _, rfl, rfl⟩
      have hSl : S < 18446744073709551616 := hS.out.1 ▸ escW_lt X c
      go_wp2_with fail
      refine (escaped_calls X S c C hXl hS _ hTr hr0).mono ?_
      rintro e w2 ⟨rfl, hb2⟩
      have hB2 := hb.trans (hb2.mono hb.size)
      have hc2 := (hB2.cell (p := ⟨b, off + n, none⟩) hbl).trans hcell
      go_wp2
      go_loop [5, 9] (fun od kk => ∃ (k : Nat) (d : Bool), k ≤ 64 ∧ Hid (escC X c k = d) ∧ od = .bool d ∧ kk = .int .i64 (k : Int)) (fun _ kk => 64 - (intOf kk).toNat)
      case atStart => exact ⟨0, c, by decide, rfl, rfl, rfl⟩
      case round =>
        obtain ⟨k, d, hk, hd, rfl, rfl⟩ := hrel
        by_cases hk64 : k < 64
        · have e1 := has_eq S k hSl
          have e2 := has_eq X k hXl
          rw [show S.testBit k = d by rw [← hS.out.1, escW_bit X c hk64]; exact hd.out] at e1
          have hnx := escC_lit X c k hd.out
          have hnx' : Hid _ := hnx
          clear hnx
          cases hbit : X.testBit k <;> cases d <;> rw [hbit] at e2 <;> go_wp2
          all_goals go_round
          all_goals first
            | (simp [intOf]; omega; done)
            | exact ⟨k + 1, _, by omega, hnx'.out.trans (by rw [hbit]; rfl), rfl, by simp⟩
        · obtain rfl : k = 64 := by omega
          have hdC : d = C := hd.out.symm.trans hS.out.2
          subst hdC
          have hs2 := hs'
          clear hs' hS hd hc1 hc2 hcell
          cases d <;> go_wp2
          all_goals go_roundw
          all_goals first
            | (simp [intOf]; omega; done)
            | exact ⟨n + 1, _, by omega, rfl, rfl, by simp, hB2⟩
    · obtain rfl : n = len := by omega
      clear hs
      go_wp2_with fail
      refine (escaped_calls 7 10 false false (by decide) esc_seven _ hTr hr0).mono ?_
      rintro e w2 ⟨rfl, hb2⟩
      have hB2 := hb.trans (hb2.mono hb.size)
      go_wp2
      go_ret
      exact ⟨rfl, hB2⟩

theorem wordsChains_walk (ao : Option Addr) (len cap : Nat) (zs : List Int) (hlen : len ≤ maxLen) (c : Bool) (w : World) (hT : Tab w) (h0 : 0 < w.heap.size) (hs : SliceOf w ao len .u64 zs) :
    Calls Tryd.prog 4 #[.slice ao len cap, .bool c] w fun e w' => e = .returned (.bool true) ∧ Below w.heap.size w w' := chains_nat ao len cap zs hlen c w hT h0 hs
end Go.Proofs.YtkoillfkillohabDoor
