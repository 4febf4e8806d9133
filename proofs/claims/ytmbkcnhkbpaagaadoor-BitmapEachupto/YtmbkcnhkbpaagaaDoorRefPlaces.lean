/-
  What quarryref04.Places and quarryref04.Get answer.
-/
import Derived.Test.YtmbkcnhkbpaagaaDoorRefKit
namespace Go.Proofs.YtmbkcnhkbpaagaaDoor
open Go.RowKit

/-- The places, as cells. -/
def pl (X : Nat → Nat) (N : Nat) : List Value := (placesB X N).map fun p => Value.int .i64 ((p : Nat) : Int)
theorem pl_t {X : Nat → Nat} {i : Nat} (h : bitAt X i = true) : pl X i ++ [.int .i64 ((i : Nat) : Int)] = pl X (i + 1) := by simp [pl, placesB_t h]
theorem pl_f {X : Nat → Nat} {i : Nat} (h : bitAt X i = false) : pl X i = pl X (i + 1) := by simp [pl, placesB_f h]
/-- The slice lists the places. -/
def PlAt (W : World) (vo : Option Addr) (X : Nat → Nat) (N : Nat) : Prop := ∀ (j p : Nat), (placesB X N)[j]? = some p → p < N ∧ ∃ g, vo = some ⟨g, 0, none⟩ ∧ W.cell? ⟨g, j, none⟩ = some (.int .i64 ((p : Nat) : Int))
theorem PlAt.kept {W W' : World} {vo : Option Addr} {X : Nat → Nat} {N : Nat} (h : PlAt W vo X N) (hb : Below W.heap.size W W') : PlAt W' vo X N := fun j p hp => by
  obtain ⟨h1, g, h2, h3⟩ := h j p hp
  exact ⟨h1, g, h2, (hb.cell (p := ⟨g, j, none⟩) (cell_block h3)).trans h3⟩
theorem plAt_of_row {W : World} {v : Value} {B N : Nat} {X : Nat → Nat} (h : W.ownsRow B 3 1 v (cntB X N) (pl X N)) : ∃ vo cap, v = .slice vo (cntB X N) cap ∧ PlAt W vo X N := by
  rcases h.2 with ⟨rfl, h0⟩ | ⟨g, cap, cur, rfl, hb, hgb, h3⟩
  · refine ⟨none, 0, by rw [h0], fun j p hp => ?_⟩
    have := (List.getElem?_eq_some_iff.1 hp).1
    rw [placesB_len] at this
    omega
  · refine ⟨_, cap, rfl, fun j p hp => ⟨(placesB_rank hp).1, g, rfl, ?_⟩⟩
    have := h.cells (g := g) rfl j (.int .i64 ((p : Nat) : Int)) (by simp [pl, hp])
    rwa [show (⟨g, 0, none⟩ : Addr).add j = ⟨g, j, none⟩ by by_cases h : j = 0 <;> simp [Addr.add, h]] at this
theorem infoI : (Tryd.prog.info? 3).map (fun i => (i.zero, i.size, i.bytes)) = some (some (.int .i64 0), 1, 8) := by kernel_rfl

set_option maxRecDepth 10000 in
set_option maxHeartbeats 2000000 in
theorem refPlaces_calls (n : Int) (ao : Option Addr) (k cap : Nat) (X : Nat → Nat) (N : Nat) (hn : (Lit.int .i64 n).wf = true) (hk : k ≤ 1048576) (hE : Hid (Eff n k X N)) (w : World) (hW : Wds w ao k X) :
    Calls Tryd.prog 30 #[bv n ao k cap] w fun e w' => (∃ v, e = .returned v ∧ w'.ownsRow w.heap.size 3 1 v (cntB X N) (pl X N)) ∧ N ≤ 67108864 ∧ Below w.heap.size w w' := by
  obtain ⟨i0, hi, hz0, hz1, hz2⟩ := info_parts infoI
  obtain ⟨FA, hFA⟩ := formedB n k X
  have hfc : Hid _ := fun (w1 : World) (hb : Below w.heap.size w w1) => refFormed_calls n ao k cap X FA hn (by omega) hFA w1 (hW.kept hb)
  clear hn
  go_enter Tryd.func30, Tryd.ntmps30
  go_wp2_with fail
  refine Calls.mono (hfc.out _ (by repeat (first | with_reducible exact Below.refl _ _ | with_reducible refine Below.setCell ?_ (by first | (simp; done) | (simp; omega)) _ | with_reducible refine below_drewN ?_ _ | with_reducible refine Below.alloc ?_ (by first | (simp; done) | (simp; omega)) _ | with_reducible refine Below.drew ?_))) ?_
  rintro e w1 ⟨rfl, hb1⟩
  have a1 : At w1 w.heap.size #[.int .i64 n, .slice ao k cap] 24 := (At.new w _ _).keptAll hb1
  have hB1 : Below w.heap.size w w1 := Below.trans (by repeat (first | with_reducible exact Below.refl _ _ | with_reducible refine Below.setCell ?_ (by first | (simp; done) | (simp; omega)) _ | with_reducible refine below_drewN ?_ _ | with_reducible refine Below.alloc ?_ (by first | (simp; done) | (simp; omega)) _ | with_reducible refine Below.drew ?_)) (hb1.mono (by simp))
  have a1' := hid a1
  have hW' := hid hW
  clear hb1 hfc a1 hW
  cases FA
  · obtain rfl : N = 0 := by
      rcases hE.out with ⟨h, _⟩ | ⟨_, h⟩
      · have h' := hFA.out.1 h; cases h'
      · exact h
    clear hE hFA
    go_wp2
    go_ret
    exact ⟨⟨_, rfl, World.ownsRow_nil _ _ _ _⟩, Nat.zero_le _, hB1⟩
  · have hform : formed n k X := hFA.out.2 rfl
    obtain ⟨N', rfl⟩ := Int.eq_ofNat_of_zero_le hform.1
    obtain rfl : N = N' := by
      rcases hE.out with ⟨_, h⟩ | ⟨h, _⟩
      · simpa using h
      · exact (h hform).elim
    have hNk : N ≤ 64 * k := by have := hform.2.1; simp at this; unfold need at this; omega
    clear hE hFA hform
    go_wp2
    go_loopw [3, 4] (fun v ii wr => ∃ i L : Nat, i ≤ N ∧ L ≤ i ∧ Hid (cntB X i = L) ∧ ii = .int .i64 (i : Int) ∧ At wr w.heap.size #[.int .i64 (N : Int), .slice ao k cap] 24 ∧ wr.ownsRow (w.heap.size + 1) 3 1 v L (pl X i) ∧ Below w.heap.size w wr) (fun _ ii _ => N - (intOf ii).toNat)
    case atStart => exact ⟨0, 0, Nat.zero_le _, Nat.le_refl _, rfl, rfl, a1'.out, World.ownsRow_nil _ _ _ _, hB1⟩
    case round =>
      obtain ⟨i, L, hiN, hLi, hL, rfl, a2, hown, hb⟩ := hrel
      have hsz := a2.lt
      obtain ⟨c0, c1, -, -⟩ := a2.facts
      have a2' := hid a2
      have hown' := hid hown
      clear a2 hown a1'
      by_cases hlt : i < N
      · obtain ⟨q, hq⟩ : ∃ q, Hid (bitAt X i = q) := ⟨_, rfl⟩
        have hcall : Hid _ := refBit_calls i ao k cap X q (by omega) (by omega) hq wr (hW'.out.kept hb)
        go_wp2_with fail
        refine Calls.mono hcall.out ?_
        rintro e w' ⟨rfl, hw'⟩
        obtain rfl := hw'.symm
        clear hcall
        cases q
        · go_wp2
          go_roundw
          case rel => exact ⟨i + 1, L, by omega, by omega, by show _ = _; rw [cntB_succ, hq.out, hL.out]; rfl, by simp, a2'.out, pl_f hq.out ▸ hown'.out, hb⟩
          case measure => simp [intOf]; omega
        · go_wp2_with (first
            | (at_builtin; refine wpList_append_own _ rfl _ _ 38 rfl (w.heap.size + 1) 3 i0 (.int .i64 0) 1 8 Tryd.underlying38 hi hz0 hz1 hz2 rfl (by decide) _ _ _ rfl (World.ownsRow.alloc hown'.out _) ⟨wr.heap.size, 0, none⟩ 1 1 [.int .i64 (i : Int)] rfl rfl (fun j u hj => by match j, hj with | 0, hj => simp at hj; subst hj; simp [Addr.add]) (fun u hu => by simp at hu; subst hu; rfl) (by unfold maxLen; omega) (by omega) (by simp; omega) ?_)
            | go_in)
          intro v' w1' hown1 hgrow _
          have hlt' : ∀ r, u3.ownBlock = some r → w.heap.size + 1 ≤ r := fun r e => (hown'.out.lt r e).1
          have b1 := a2'.out.grown hgrow hlt' (by omega)
          have hb' : Below w.heap.size w w1' := (hb.alloc hb.size _).grown hgrow (by simp; omega) (fun b e => by have := hlt' b e; omega)
          rw [pl_t hq.out] at hown1
          have b1' := hid b1
          have hown1' := hid hown1
          clear hgrow hown1 b1 hlt' c0 c1 a2' hown'
          go_wp2
          go_roundw
          case rel => exact ⟨i + 1, L + 1, by omega, by omega, by show _ = _; rw [cntB_succ, hq.out, hL.out]; rfl, by simp, b1'.out, hown1'.out, hb'⟩
          case measure => simp [intOf]; omega
      · obtain rfl : i = N := by omega
        obtain rfl := hL.out
        go_wp2
        go_ret
        exact ⟨⟨_, rfl, row_base hown'.out (by omega)⟩, by omega, hb⟩

set_option maxRecDepth 10000 in
set_option maxHeartbeats 2000000 in
theorem refGet_calls (n i : Int) (ao : Option Addr) (k cap : Nat) (X : Nat → Nat) (N : Nat) (B : Bool) (hn : (Lit.int .i64 n).wf = true) (hi : (Lit.int .i64 i).wf = true) (hk : k ≤ 17592186044416) (hE : Hid (Eff n k X N)) (hB : Hid (getB X N i = B)) (w : World) (hW : Wds w ao k X) :
    Calls Tryd.prog 21 #[bv n ao k cap, .int .i64 i] w fun e w' => e = .returned (.bool B) ∧ Below w.heap.size w w' := by
  obtain ⟨i1, i2⟩ := wf_i64 hi
  obtain ⟨FA, hFA⟩ := formedB n k X
  have hfc : Hid _ := fun (w1 : World) (hb : Below w.heap.size w w1) => refFormed_calls n ao k cap X FA hn hk hFA w1 (hW.kept hb)
  clear hi hn
  go_enter Tryd.func21, Tryd.ntmps21
  go_wp2_with fail
  refine Calls.mono (hfc.out _ (by repeat (first | with_reducible exact Below.refl _ _ | with_reducible refine Below.setCell ?_ (by first | (simp; done) | (simp; omega)) _ | with_reducible refine below_drewN ?_ _ | with_reducible refine Below.alloc ?_ (by first | (simp; done) | (simp; omega)) _ | with_reducible refine Below.drew ?_))) ?_
  rintro e w1 ⟨rfl, hb1⟩
  have a1 : At w1 w.heap.size #[.int .i64 n, .slice ao k cap] 24 := (At.new w _ _).keptAll hb1
  have hB1 : Below w.heap.size w w1 := Below.trans (by repeat (first | with_reducible exact Below.refl _ _ | with_reducible refine Below.setCell ?_ (by first | (simp; done) | (simp; omega)) _ | with_reducible refine below_drewN ?_ _ | with_reducible refine Below.alloc ?_ (by first | (simp; done) | (simp; omega)) _ | with_reducible refine Below.drew ?_)) (hb1.mono (by simp))
  obtain ⟨c0, c1, -, -⟩ := a1.facts
  have hW1 : Hid (Wds w1 ao k X) := hW.kept hB1
  clear hb1 a1 hfc hW
  cases FA
  · obtain rfl : N = 0 := by
      rcases hE.out with ⟨h, _⟩ | ⟨_, h⟩
      · have h' := hFA.out.1 h; cases h'
      · exact h
    obtain rfl : B = false := by
      rw [← hB.out]
      by_cases h : i < 0
      · exact getB_lo h
      · exact getB_hi (by omega)
    clear hE hFA hB
    go_wp2
    go_ret
    exact ⟨rfl, hB1⟩
  · have hform : formed n k X := hFA.out.2 rfl
    obtain ⟨N', rfl⟩ := Int.eq_ofNat_of_zero_le hform.1
    obtain rfl : N = N' := by
      rcases hE.out with ⟨_, h⟩ | ⟨h, _⟩
      · simpa using h
      · exact (h hform).elim
    have hNk : N ≤ 64 * k ∧ 64 * k ≤ N + 63 := by have := hform.2.1; simp at this; unfold need at this; omega
    clear hE hFA hform
    by_cases hi0 : i < 0
    · obtain rfl : B = false := by rw [← hB.out]; exact getB_lo hi0
      clear hB
      go_wp2
      go_ret
      exact ⟨rfl, hB1⟩
    · obtain ⟨P, rfl⟩ := Int.eq_ofNat_of_zero_le (show 0 ≤ i by omega)
      clear hi0 i1 i2
      have e0 : decide ((0 : Int) ≤ (P : Int)) = true := by simp
      by_cases hPN : P < N
      · have hb := hB.out
        rw [getB_nat hPN] at hb
        have hcall : Hid _ := refBit_calls P ao k cap X B (by omega) hk hb w1 hW1.out
        clear hW1 hB hb
        go_wp2_with fail
        refine Calls.mono hcall.out ?_
        rintro e w' ⟨rfl, hw'⟩
        obtain rfl := hw'.symm
        go_wp2
        go_ret
        exact ⟨rfl, hB1⟩
      · obtain rfl : B = false := by rw [← hB.out]; exact getB_hi (by omega)
        have e1 : decide ((P : Int) < (N : Int)) = false := by simp; omega
        clear hB
        go_wp2
        go_ret
        exact ⟨rfl, hB1⟩
end Go.Proofs.YtmbkcnhkbpaagaaDoor
