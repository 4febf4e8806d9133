/-
  GetWalk, CountWalk, NextWalk.
-/
import Derived.Test.YtmgbgphlkhkldaaDoorBitsC
import Derived.Test.YtmgbgphlkhkldaaDoorBitsA
/-
  What bitmap.Get answers.
-/
namespace Go.Proofs.YtmgbgphlkhkldaaDoor
open Go.RowKit Go.Shelf

set_option maxRecDepth 10000 in
set_option maxHeartbeats 4000000 in
theorem get_calls (n i : Int) (ao : Option Addr) (k cap : Nat) (X : Nat → Nat) (N : Nat) (B : Bool) (hn : (Lit.int .i64 n).wf = true) (hi : (Lit.int .i64 i).wf = true) (hk : k ≤ 17592186044416) (hE : Hid (Eff n k X N)) (hB : Hid (getB X N i = B)) (w : World) (hW : Wds w ao k X) :
    Calls Tryd.prog 26 #[bv n ao k cap, .int .i64 i] w fun e w' => e = .returned (.bool B) ∧ Below w.heap.size w w' := by
  obtain ⟨i1, i2⟩ := wf_i64 hi
  obtain ⟨FA, hFA⟩ := formedB n k X
  have hfc : Hid _ := fun (w1 : World) (hb : Below w.heap.size w w1) => formed_calls n ao k cap X FA hn hk hFA w1 (hW.kept hb)
  clear hi hn
  go_enter Tryd.func26, Tryd.ntmps26
  go_wp2_with fail
  refine Calls.mono (hfc.out _ (by repeat (first | with_reducible exact Below.refl _ _ | with_reducible refine Below.setCell ?_ (by first | (simp; done) | (simp; omega)) _ | with_reducible refine below_drewN ?_ _ | with_reducible refine Below.alloc ?_ (by first | (simp; done) | (simp; omega)) _ | with_reducible refine Below.drew ?_))) ?_
  rintro e w1 ⟨rfl, hb1⟩
  have a1 : At w1 w.heap.size #[.int .i64 n, .slice ao k cap] 28 := (At.new w _ _).keptAll hb1
  have hB1 : Below w.heap.size w w1 := Below.trans (by repeat (first | with_reducible exact Below.refl _ _ | with_reducible refine Below.setCell ?_ (by first | (simp; done) | (simp; omega)) _ | with_reducible refine below_drewN ?_ _ | with_reducible refine Below.alloc ?_ (by first | (simp; done) | (simp; omega)) _ | with_reducible refine Below.drew ?_)) (hb1.mono (by simp))
  obtain ⟨c0, c1, -, -⟩ := a1.facts
  have hW1 : Hid (Wds w1 ao k X) := hW.kept hB1
  clear hb1 a1 hfc hW
  cases FA
  · obtain rfl : N = 0 := by
      rcases hE.out with ⟨h, _⟩ | ⟨_, h⟩
      · have h' := hFA.out.1 h; cases h'
      · exact h
    obtain rfl : B = false := by
      rw [← hB.out]
      by_cases h : i < 0
      · exact getB_lo h
      · exact getB_hi (by omega)
    clear hE hFA hB
    go_wp2
    go_ret
    exact ⟨rfl, hB1⟩
  · have hform : formed n k X := hFA.out.2 rfl
    obtain ⟨N', rfl⟩ := Int.eq_ofNat_of_zero_le hform.1
    obtain rfl : N = N' := by
      rcases hE.out with ⟨_, h⟩ | ⟨h, _⟩
      · simpa using h
      · exact (h hform).elim
    have hNk : N ≤ 64 * k ∧ 64 * k ≤ N + 63 := by have := hform.2.1; simp at this; unfold need at this; omega
    clear hE hFA hform
    by_cases hi0 : i < 0
    · obtain rfl : B = false := by rw [← hB.out]; exact getB_lo hi0
      clear hB
      go_wp2
      go_ret
      exact ⟨rfl, hB1⟩
    · obtain ⟨P, rfl⟩ := Int.eq_ofNat_of_zero_le (show 0 ≤ i by omega)
      clear hi0 i1 i2
      have e0 : decide ((0 : Int) ≤ (P : Int)) = true := by simp
      by_cases hPN : P < N
      · have hb := hB.out
        rw [getB_nat hPN] at hb
        unfold bitAt at hb
        obtain ⟨hx, g, off, rfl, hcell⟩ := hW1.out (P / 64) (by omega)
        obtain ⟨y, hy⟩ : ∃ y, Hid (X (P / 64) = y) := ⟨_, rfl⟩
        rw [hy.out] at hcell hb hx
        obtain ⟨J, hJ⟩ : ∃ J, Hid (P / 64 = J) := ⟨_, rfl⟩
        obtain ⟨R, hR⟩ : ∃ R, Hid (P % 64 = R) := ⟨_, rfl⟩
        have hJk : J < k := by have := hJ.out; omega
        have hR64 : R < 64 := by have := hR.out; omega
        have e1 : (P : Int) / 64 = (J : Int) := by have := hJ.out; omega
        have e2 : (P : Int) % 64 = (R : Int) := by have := hR.out; omega
        rw [hJ.out] at hcell
        rw [hR.out] at hb
        have e3 := has_eq y R hx
        rw [hb] at e3
        clear hW1 hy hJ hR hb hB
        go_wp2
        go_ret
        exact ⟨rfl, hB1⟩
      · obtain rfl : B = false := by rw [← hB.out]; exact getB_hi (by omega)
        have e1 : decide ((P : Int) < (N : Int)) = false := by simp; omega
        clear hB
        go_wp2
        go_ret
        exact ⟨rfl, hB1⟩
end Go.Proofs.YtmgbgphlkhkldaaDoor

/-
  What bitmap.Count answers.
-/
namespace Go.Proofs.YtmgbgphlkhkldaaDoor
open Go.RowKit Go.Shelf

end Go.Proofs.YtmgbgphlkhkldaaDoor

/-
  What bitmap.Next answers.
-/
namespace Go.Proofs.YtmgbgphlkhkldaaDoor
open Go.RowKit Go.Shelf

end Go.Proofs.YtmgbgphlkhkldaaDoor
