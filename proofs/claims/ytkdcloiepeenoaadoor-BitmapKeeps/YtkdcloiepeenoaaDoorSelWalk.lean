/-
  What bitmap.Select answers.
-/
import Derived.Test.YtkdcloiepeenoaaDoorAskKit
namespace Go.Proofs.YtkdcloiepeenoaaDoor
open Go.RowKit Go.Shelf

set_option maxRecDepth 10000 in
set_option maxHeartbeats 4000000 in
theorem sel_calls (n i : Int) (ao : Option Addr) (k cap : Nat) (X : Nat → Nat) (N : Nat) (hn : (Lit.int .i64 n).wf = true) (hi : (Lit.int .i64 i).wf = true) (hk : k ≤ 17592186044416) (hE : Hid (Eff n k X N)) (w : World) (hT : Tab w) (h0 : 0 < w.heap.size) (hW : Wds w ao k X) :
    Calls Tryd.prog 28 #[bv n ao k cap, .int .i64 i] w fun e w' => ∃ s, e = .returned (.int .i64 s) ∧ IsSel X N i s ∧ Below w.heap.size w w' := by
  obtain ⟨i1, i2⟩ := wf_i64 hi
  obtain ⟨FA, hFA⟩ := formedB n k X
  have hfc : Hid _ := fun (w1 : World) (hb : Below w.heap.size w w1) => formed_calls n ao k cap X FA hn hk hFA w1 (hW.kept hb)
  clear hi hn
  go_enter Tryd.func28, Tryd.ntmps28
  go_wp2_with fail
  refine Calls.mono (hfc.out _ (by repeat (first | with_reducible exact Below.refl _ _ | with_reducible refine Below.setCell ?_ (by first | (simp; done) | (simp; omega)) _ | with_reducible refine below_drewN ?_ _ | with_reducible refine Below.alloc ?_ (by first | (simp; done) | (simp; omega)) _ | with_reducible refine Below.drew ?_))) ?_
  rintro e w1 ⟨rfl, hb1⟩
  have a1 : At w1 w.heap.size #[.int .i64 n, .slice ao k cap] 24 := (At.new w _ _).keptAll hb1
  have hB1 : Below w.heap.size w w1 := Below.trans (by repeat (first | with_reducible exact Below.refl _ _ | with_reducible refine Below.setCell ?_ (by first | (simp; done) | (simp; omega)) _ | with_reducible refine below_drewN ?_ _ | with_reducible refine Below.alloc ?_ (by first | (simp; done) | (simp; omega)) _ | with_reducible refine Below.drew ?_)) (hb1.mono (by simp))
  obtain ⟨c0, c1, -, -⟩ := a1.facts
  have hW1 : Hid (Wds w1 ao k X) := hW.kept hB1
  have hT1 : Hid (Tab w1) := hT.below hB1 h0
  have hz1 : 0 < w1.heap.size := Nat.lt_of_lt_of_le h0 hB1.size
  clear hb1 a1 hfc hW hT
  cases FA
  · obtain rfl : N = 0 := by
      rcases hE.out with ⟨h, _⟩ | ⟨_, h⟩
      · have h' := hFA.out.1 h; cases h'
      · exact h
    have hs : Hid (IsSel X 0 i (-1)) := .inr ⟨rfl, by simp [cntB]; omega⟩
    clear hE hFA
    go_wp2
    go_ret
    exact ⟨-1, rfl, hs.out, hB1⟩
  · have hform : formed n k X := hFA.out.2 rfl
    obtain ⟨N', rfl⟩ := Int.eq_ofNat_of_zero_le hform.1
    obtain rfl : N = N' := by
      rcases hE.out with ⟨_, h⟩ | ⟨h, _⟩
      · simpa using h
      · exact (h hform).elim
    have hNk : N ≤ 64 * k ∧ 64 * k ≤ N + 63 := by have := hform.2.1; simp at this; unfold need at this; omega
    have hform' : Hid (formed N k X) := hform
    clear hE hFA hform
    by_cases hi0 : i < 0
    · have hs : Hid (IsSel X N i (-1)) := .inr ⟨rfl, .inl hi0⟩
      go_wp2
      go_ret
      exact ⟨-1, rfl, hs.out, hB1⟩
    · obtain ⟨I, rfl⟩ := Int.eq_ofNat_of_zero_le (show 0 ≤ i by omega)
      have hI0 : decide ((I : Int) < 0) = false := by simp
      have hI2 : Hid ((I : Int) < 9223372036854775808) := i2
      clear hi0 i1 i2
      go_wp2
      go_loopw [1, 5, 6, 7, 18] (fun kk _ _ _ jj wr => ∃ j r : Nat, j ≤ k ∧ Hid (r + cntB X (64 * j) = I) ∧ r ≤ I ∧ kk = .int .i64 (r : Int) ∧ jj = .int .i64 (j : Int) ∧ wr = w1) (fun _ _ _ _ jj _ => k - (intOf jj).toNat)
      case atStart => exact ⟨0, I, Nat.zero_le _, rfl, Nat.le_refl _, rfl, rfl, rfl⟩
      case round =>
        obtain ⟨j, r, hjk, hr, hrI, rfl, rfl, rfl⟩ := hrel
        by_cases hlt : j < k
        · obtain ⟨hx, g, off, rfl, hcell⟩ := hW1.out j hlt
          obtain ⟨x, hx'⟩ : ∃ x, Hid (X j = x) := ⟨_, rfl⟩
          rw [hx'.out] at hcell hx
          obtain ⟨R, hR⟩ : ∃ R, Hid (rankW x 64 = R) := ⟨_, rfl⟩
          have hR' : Hid (cnt x 64 = R) := by show _ = _; rw [← hR.out]; rfl
          have hr1 : Hid _ := fun w => rank_calls x R 64 hx hR w
          have hRl : R ≤ 64 := by rw [← hR'.out]; exact cnt_le _ _
          have hW1' : Hid (Wds wr (some ⟨g, off, none⟩) k X) := hW1
          clear hW1 hR
          go_wp2_with fail
          refine (hr1.out _).mono ?_
          rintro e w' ⟨rfl, hw'⟩
          obtain rfl := hw'.symm
          by_cases hrR : r < R
          · obtain ⟨S, hS⟩ : ∃ S, Hid (selW x (r : Int) = S) := ⟨_, rfl⟩
            obtain ⟨p, hp⟩ : ∃ p, (places x)[r]? = some p := by
              have : r < (places x).length := by rw [places, below_len, hR'.out]; exact hrR
              exact ⟨_, List.getElem?_eq_getElem this⟩
            have hSp : S = (p : Int) := by rw [← hS.out, selW, if_pos (by omega), Int.toNat_natCast, hp]
            have hp64 := (place_rank hp).1
            have hsel : Hid (IsSel X N I ((64 * j + p : Nat) : Int)) := by
              refine sel_here hform'.out hlt (by have := hr.out; omega) ?_
              rw [hx'.out, show I - cntB X (64 * j) = r by have := hr.out; omega]
              exact hp
            subst hSp
            have hsc : Hid _ := select_calls x (r : Int) (p : Int) hx hS wr hT1.out hz1
            clear hp hS hr1
            go_wp2_with fail
            refine Calls.mono hsc.out ?_
            rintro e w2 ⟨rfl, hb2⟩
            go_wp2
            go_ret
            refine ⟨((64 * j + p : Nat) : Int), ?_, hsel.out, hB1.trans (hb2.mono hB1.size)⟩
            simp
          · go_wp2
            go_roundw
            case rel =>
              refine ⟨j + 1, r - R, by omega, ?_, by omega, by congr 1; have := hI2.out; unfold wrap64; omega, by simp, by first | trivial | rfl⟩
              show _ = _
              have h1 := hr.out
              have h2 := cntB_word X j 64 (Nat.le_refl _)
              rw [hx'.out, hR'.out] at h2
              rw [show 64 * (j + 1) = 64 * j + 64 by omega, h2]
              omega
            case measure => simp [intOf]; omega
        · obtain rfl : j = k := by omega
          have hs : Hid (IsSel X N I (-1)) := sel_none hform'.out (by have := hr.out; omega)
          clear hW1
          go_wp2
          go_ret
          exact ⟨-1, rfl, hs.out, hB1⟩
/-- The answer is told ahead. -/
theorem sel_at (n i S : Int) (ao : Option Addr) (k cap : Nat) (X : Nat → Nat) (N : Nat) (hn : (Lit.int .i64 n).wf = true) (hi : (Lit.int .i64 i).wf = true) (hk : k ≤ 17592186044416) (hE : Hid (Eff n k X N)) (hS : Hid (IsSel X N i S)) (w : World) (hT : Tab w) (h0 : 0 < w.heap.size) (hW : Wds w ao k X) :
    Calls Tryd.prog 28 #[bv n ao k cap, .int .i64 i] w fun e w' => e = .returned (.int .i64 S) ∧ Below w.heap.size w w' := by
  refine (sel_calls n i ao k cap X N hn hi hk hE w hT h0 hW).mono ?_
  rintro e w' ⟨s, rfl, hs, hb⟩
  rw [hs.uniq hS.out]
  exact ⟨rfl, hb⟩
end Go.Proofs.YtkdcloiepeenoaaDoor
