/-
  The walk of quarrylaw04.BitmapMakes.
-/
import Derived.Test.YtmbkcnhkbpaagaaRefMake
import Derived.Test.YtmbkcnhkbpaagaaSameWalk
import Derived.Test.YtmbkcnhkbpaagaaLentInts
namespace Go.Proofs.Ytmbkcnhkbpaagaa
open Go.RowKit

theorem LentI.nums {w : World} {g c k : Nat} {Z : Nat → Int} (h : LentI w g c k Z) (hZ : ∀ j, j < k → (Lit.int .i64 (Z j)).wf = true) : Nums w (some ⟨g, 0, none⟩) k Z := fun j hj => by
  refine ⟨hZ j hj, g, 0, rfl, ?_⟩
  rw [Nat.zero_add, h.cell (by omega), zmI, if_pos hj]
/-- Is one of the first i numbers no place of the row? -/
def badTo (n : Int) (Z : Nat → Int) : Nat → Bool
  | 0 => decide (16777216 < n)
  | i + 1 => badTo n Z i || decide (Z i < 0) || decide (n ≤ Z i)
theorem badTo_good {n : Int} (hn : 0 ≤ n) (Z : Nat → Int) (k : Nat) : badTo n Z k = true ↔ ¬ good n k Z := by
  have key : badTo n Z k = false ↔ n ≤ 16777216 ∧ ∀ t, t < k → 0 ≤ Z t ∧ Z t < n := by
    induction k with
    | zero => simp [badTo]
    | succ k ih =>
      simp only [badTo, Bool.or_eq_false_iff, ih, decide_eq_false_iff_not]
      constructor
      · rintro ⟨⟨⟨h1, h2⟩, h3⟩, h4⟩
        refine ⟨h1, fun t ht => ?_⟩
        by_cases h : t = k
        · rw [h]; omega
        · exact h2 t (by omega)
      · rintro ⟨h1, h2⟩
        have := h2 k (by omega)
        exact ⟨⟨⟨h1, fun t ht => h2 t (by omega)⟩, by omega⟩, by omega⟩
  constructor
  · intro h hg
    have := key.2 ⟨hg.2.1, hg.2.2⟩
    rw [h] at this; cases this
  · intro h
    cases hb : badTo n Z k
    · exact (h ⟨hn, (key.1 hb).1, (key.1 hb).2⟩).elim
    · rfl

set_option maxRecDepth 10000 in
set_option maxHeartbeats 4000000 in
theorem makes_nat (n : Int) (hn : (Lit.int .i64 n).wf = true) (ao : Option Addr) (k cap : Nat) (Z : Nat → Int) (hk : k ≤ 17592186043904) (m : Int) (bo : Option Addr) (l cap' : Nat) (X : Nat → Nat) (hm : (Lit.int .i64 m).wf = true) (hl : l ≤ 17592186043904)
    (w : World) (hZ : Nums w ao k Z) (hX : Wds w bo l X) :
    Calls Try.prog 4 #[.int .i64 n, .slice ao k cap, bv m bo l cap'] w fun e w' => e = .returned (.bool true) ∧ Below w.heap.size w w' := by
  obtain ⟨B, hB⟩ : ∃ B : Bool, Hid (formed m l X ↔ B = true) := by
    by_cases h : formed m l X
    · exact ⟨true, ⟨fun _ => rfl, fun _ => h⟩⟩
    · exact ⟨false, ⟨fun h' => (h h').elim, fun h' => by cases h'⟩⟩
  go_enter Try.func4, Try.ntmps4
  go_wp2
  have hS : At (w.alloc (.cells #[.int .i64 m, .slice bo l cap'] 24)).drew w.heap.size #[.int .i64 m, .slice bo l cap'] 24 ∧ Below w.heap.size w (w.alloc (.cells #[.int .i64 m, .slice bo l cap'] 24)).drew := ⟨(At.new w _ _).drew, by repeat (first | with_reducible exact Below.refl _ _ | with_reducible refine Below.setCell ?_ (by first | (simp; done) | (simp; omega)) _ | with_reducible refine below_drewN ?_ _ | with_reducible refine Below.alloc ?_ (by first | (simp; done) | (simp; omega)) _ | with_reducible refine Below.drew ?_)⟩
  refine wp_region_quiet (C := (fun w' => At w' w.heap.size #[.int .i64 m, .slice bo l cap'] 24 ∧ Below w.heap.size w w')) (by kernel_rfl) (by kernel_rfl) (hS) ?_
  dsimp only
  repeat (first
    | (refine wpQuiet_skip (by rfl) ?_; simp only [Act.put, List.setIfInBounds_toArray, List.set_cons_zero, List.set_cons_succ])
    | (refine wpQuiet_load 24 _ (w.heap.size) (0) [.int .i64 m, .slice bo l cap'] _ (fun wq hq => hq.1.range rfl) Try.underlying24 sizeBits rfl rfl rfl (by rfl) ?_; simp only [Act.put, List.setIfInBounds_toArray, List.set_cons_zero, List.set_cons_succ])
    | (refine' wpQuiet_take (by rfl) ?_ ?_
       rotate_left
       · (intro wq hq; (try dsimp only at hq); go_simp
          first
            | done
            | with_reducible rfl
            | (go_at_call 7; with_reducible refine (formed_calls m bo l cap' X B hm (by omega) hB _ (hX.kept hq.2)).mono ?_; rintro e wz ⟨rfl, hb⟩; exact ⟨rfl, hq.1.keptAll hb, hq.2.trans (hb.mono hq.2.size)⟩)
            | (go_at_call 8; with_reducible refine (refFormed_calls m bo l cap' X B hm (by omega) hB _ (hX.kept hq.2)).mono ?_; rintro e wz ⟨rfl, hb⟩; exact ⟨rfl, hq.1.keptAll hb, hq.2.trans (hb.mono hq.2.size)⟩)
         )
       simp only [Act.put, List.setIfInBounds_toArray, List.set_cons_zero, List.set_cons_succ]))
  refine wpQuiet_nil ?_
  intro w1 h1
  have hb1 : Below w.heap.size w w1 := h1.2
  have e1 : (B != B) = false := by simp
  clear hS h1
  have hlc : Hid _ := lentI_calls ao k cap Z hk (Nat.zero_le _) w1 (hZ.kept hb1)
  go_wp2_with fail
  refine Calls.mono hlc.out ?_
  rintro e w2 ⟨g, c, rfl, hg2, hL2, hb2⟩
  have hB2 : Below w.heap.size w w2 := hb1.trans (hb2.mono hb1.size)
  have hcap : k ≤ c := by obtain ⟨cur, _, _, h, _⟩ := hL2; omega
  have hcm : c ≤ 9223372036854775807 := by obtain ⟨cur, _, _, _, h, _⟩ := hL2; unfold maxLen at h; omega
  have hmc : Hid _ := make_calls n (some ⟨g, 0, none⟩) k c Z hn (by omega) w2 (hL2.nums (fun j hj => (hZ j hj).1))
  have hL2' : Hid (LentI w2 g c k Z) := hL2
  clear hlc hL2 hb2
  go_wp2_with fail
  refine Calls.mono hmc.out ?_
  rintro e w3 ⟨hb3, hcase⟩
  have hB3 : Below w.heap.size w w3 := hB2.trans (hb3.mono hB2.size)
  obtain ⟨N, hN⟩ : ∃ N, Hid (n.toNat = N) := ⟨_, rfl⟩
  -- what came: a row or a refusal
  obtain ⟨q, ro, rk, Y, c3, E, rfl, hrow, hsame⟩ : ∃ (q : Int) (ro : Option Addr) (rk : Nat) (Y : Nat → Nat) (c3 : Nat) (E : Int), e = .returned (.tuple #[bv q ro rk c3, .int .i64 E]) ∧ Wds w3 ro rk Y ∧
      Hid ((¬ good n k Z ∧ E = 2 ∧ q = 0 ∧ rk = 0) ∨ (good n k Z ∧ E = 0 ∧ q = n ∧ rk = need N ∧ ∀ j, j < rk → Y j = rowOf (setTo Z k) N j)) := by
    rcases hcase with ⟨h, rfl⟩ | ⟨h, g3, K, hK, hg3, hrow, rfl⟩
    · exact ⟨0, none, 0, fun _ => 0, 0, 2, rfl, wds_none _ _ _, .inl ⟨h, rfl, rfl, rfl⟩⟩
    · exact ⟨n, _, K, rowOf (setTo Z k) n.toNat, K, 0, rfl, hrow.wds (fun j _ => rowOf_lt _ _ _) (Nat.le_refl _), .inr ⟨h, rfl, rfl, by rw [hK.out, hN.out], fun j _ => by rw [hN.out]⟩⟩
  have hwq : (Lit.int .i64 q).wf = true ∧ rk ≤ 262144 ∧ formed q rk Y ∧ (E = 0 ∨ E = 2) := by
    rcases hsame.out with ⟨_, hE, rfl, rfl⟩ | ⟨hg, hE, rfl, hrk, hY⟩
    · exact ⟨by decide, by decide, formed_none Y, .inr hE⟩
    · have h1 := hg.1
      have h2 := hg.2.1
      have h3 := hN.out
      refine ⟨hn, by rw [hrk]; unfold need; omega, ?_, .inl hE⟩
      have hq : q = (N : Int) := by omega
      rw [hq, hrk]
      have hf := rowOf_formed (setTo Z k) N
      refine ⟨hf.1, hf.2.1, fun i h4 h5 => ?_⟩
      have := hf.2.2 i h4 h5
      unfold bitAt at this ⊢
      rw [hY (i / 64) (by rw [hrk]; omega)]
      exact this
  obtain ⟨hq1, hrk, hform, hE⟩ := hwq
  have hform' : Hid (formed q rk Y) := hform
  have hkc : Hid _ := fun (wx : World) (hbx : Below w3.heap.size w3 wx) => keptI_calls ao k cap g c Z hk wx ((hL2'.out.kept hb3).kept hbx) ((hZ.kept hB3).kept hbx)
  clear hcase hmc hform
  go_wp2_with fail
  refine Calls.mono (hkc.out _ (by repeat (first | with_reducible exact Below.refl _ _ | with_reducible refine Below.setCell ?_ (by first | (simp; done) | (simp; omega)) _ | with_reducible refine below_drewN ?_ _ | with_reducible refine Below.alloc ?_ (by first | (simp; done) | (simp; omega)) _ | with_reducible refine Below.drew ?_))) ?_
  rintro e w4 ⟨rfl, hb4⟩
  have a4 : At w4 w3.heap.size #[.int .i64 q, .slice ro rk c3] 24 := (At.new w3 _ _).keptAll (by exact hb4)
  have hb34 : Below w3.heap.size w3 w4 := Below.trans (by repeat (first | with_reducible exact Below.refl _ _ | with_reducible refine Below.setCell ?_ (by first | (simp; done) | (simp; omega)) _ | with_reducible refine below_drewN ?_ _ | with_reducible refine Below.alloc ?_ (by first | (simp; done) | (simp; omega)) _ | with_reducible refine Below.drew ?_)) (hb4.mono (by simp))
  have hB4 : Below w.heap.size w w4 := hB3.trans (hb34.mono hB3.size)
  have hrow4 : Wds w4 ro rk Y := hrow.kept hb34
  have hfc : Hid _ := fun (wx : World) (hbx : Below w4.heap.size w4 wx) => formed_calls q ro rk c3 Y true hq1 (by omega) ⟨fun _ => rfl, fun _ => hform'.out⟩ wx (hrow4.kept hbx)
  obtain ⟨c40, c41, -, -⟩ := a4.facts
  have a4' : Hid (At w4 w3.heap.size #[.int .i64 q, .slice ro rk c3] 24) := a4
  clear hkc hb4 a4 hb34
  by_cases h65 : 65536 < n
  · have e65 : decide (65536 < n) = true := by simpa using h65
    have hZ4 : Hid (Nums w4 ao k Z) := hZ.kept hB4
    have hEb : Hid (E = if badTo n Z k then 2 else 0) := by
      have hbg := badTo_good (show 0 ≤ n by omega) Z k
      show _ = _
      rcases hsame.out with ⟨h, hE, _⟩ | ⟨h, hE, _⟩
      · rw [hbg.2 h, hE]; rfl
      · rw [hE]
        cases hb : badTo n Z k
        · rfl
        · exact (hbg.1 hb h).elim
    clear hsame hE hL2' hZ hX
    go_wp2
    go_loop [10, 11] (fun bb ii => ∃ (i : Nat) (b : Bool), i ≤ k ∧ Hid (badTo n Z i = b) ∧ bb = .bool b ∧ ii = .int .i64 (i : Int)) (fun _ ii => k - (intOf ii).toNat)
    case atStart => exact ⟨0, _, Nat.zero_le _, rfl, rfl, rfl⟩
    case round =>
      obtain ⟨i, b, hik, hbi, rfl, rfl⟩ := hrel
      by_cases hlt : i < k
      · obtain ⟨hwf, g5, off, rfl, hcell⟩ := hZ4.out i hlt
        obtain ⟨z, hz⟩ : ∃ z, Hid (Z i = z) := ⟨_, rfl⟩
        rw [hz.out] at hcell hwf
        obtain ⟨z1, z2⟩ := wf_i64 hwf
        have hnx : Hid (badTo n Z (i + 1) = (b || decide (z < 0) || decide (n ≤ z))) := by show _ = _; rw [badTo, hbi.out, hz.out]
        clear hfc hZ4 hwf z1 z2
        cases b
        · by_cases hz0 : z < 0
          · have f1 : decide (z < 0) = true := by simpa using hz0
            go_wp2
            go_round
            case rel => exact ⟨i + 1, true, by omega, hnx.out.trans (by rw [f1]; rfl), rfl, by simp⟩
            case measure => simp [intOf]; omega
          · have f1 : decide (z < 0) = false := by simpa using hz0
            by_cases hzn : n ≤ z
            · have f2 : decide (n ≤ z) = true := by simpa using hzn
              go_wp2
              go_round
              case rel => exact ⟨i + 1, true, by omega, hnx.out.trans (by rw [f1, f2]; rfl), rfl, by simp⟩
              case measure => simp [intOf]; omega
            · have f2 : decide (n ≤ z) = false := by simpa using hzn
              go_wp2
              go_round
              case rel => exact ⟨i + 1, false, by omega, hnx.out.trans (by rw [f1, f2]; rfl), rfl, by simp⟩
              case measure => simp [intOf]; omega
        · go_wp2
          go_round
          case rel => exact ⟨i + 1, true, by omega, hnx.out.trans (by simp), rfl, by simp⟩
          case measure => simp [intOf]; omega
      · obtain rfl : i = k := by omega
        have hE2 := hEb.out
        rw [hbi.out] at hE2
        clear hbi hZ4
        cases b
        · simp only [Bool.false_eq_true, if_false] at hE2
          subst hE2
          go_wp2_with fail
          refine Calls.mono (hfc.out _ (Below.refl _ _)) ?_
          rintro e w5 ⟨rfl, hb5⟩
          go_wp2
          go_ret
          exact ⟨rfl, hB4.trans (hb5.mono hB4.size)⟩
        · simp only [if_true] at hE2
          subst hE2
          go_wp2_with fail
          refine Calls.mono (hfc.out _ (Below.refl _ _)) ?_
          rintro e w5 ⟨rfl, hb5⟩
          go_wp2
          go_ret
          exact ⟨rfl, hB4.trans (hb5.mono hB4.size)⟩
  · have e65 : decide (65536 < n) = false := by simpa using h65
    have hrc : Hid _ := refMake_calls n ao k cap Z hn (by omega) w4 (hZ.kept hB4)
    clear hL2' hX
    go_wp2_with fail
    refine Calls.mono hrc.out ?_
    rintro e w5 ⟨hb5, hcase⟩
    have hB5 : Below w.heap.size w w5 := hB4.trans (hb5.mono hB4.size)
    obtain ⟨so, sk, V, c5, rfl, hrow5, hwd⟩ : ∃ (so : Option Addr) (sk : Nat) (V : Nat → Nat) (c5 : Nat), e = .returned (.tuple #[bv q so sk c5, .int .i64 E]) ∧ Wds w5 so sk V ∧ Hid (sk = rk ∧ ∀ j, j < rk → Y j = V j) := by
      rcases hcase with ⟨h, rfl⟩ | ⟨h, v, hown, rfl⟩
      · rcases hsame.out with ⟨_, hE, hq, hk0⟩ | ⟨h', _⟩
        · exact ⟨none, 0, fun _ => 0, 0, by rw [hE, hq], wds_none _ _ _, hk0.symm, fun j hj => by omega⟩
        · exact (h h').elim
      · rcases hsame.out with ⟨h', _⟩ | ⟨_, hE, hq, hrk', hY⟩
        · exact (h' h).elim
        · obtain ⟨so, c5, rfl, hw5⟩ := wds_of_row hown (fun j _ => rowOf_lt _ _ _)
          rw [hN.out] at hw5 hown ⊢
          exact ⟨so, need N, rowOf (setTo Z k) N, c5, by rw [hE, hq], hw5, hrk'.symm, hY⟩
    have a5 : At w5 w3.heap.size #[.int .i64 q, .slice ro rk c3] 24 := a4'.out.keptAll hb5
    have a5' := a5.alloc (.cells #[.int .i64 q, .slice so sk c5] 24)
    obtain ⟨d0, d1, -, -⟩ := a5'.facts
    have a6' := At.new w5 #[.int .i64 q, .slice so sk c5] 24
    obtain ⟨d2, d3, -, -⟩ := a6'.facts
    have hsk : sk ≤ 262144 := by have := hwd.out.1; omega
    have hsc : Hid _ := same_calls q q ro so rk sk c3 c5 Y V true hq1 hq1 (by omega) (by omega) ⟨fun _ => rfl, fun _ => ⟨rfl, hwd.out.1.symm, hwd.out.2⟩⟩ (w5.alloc (.cells #[.int .i64 q, .slice so sk c5] 24)) ((hrow4.kept hb5).kept (by repeat (first | with_reducible exact Below.refl _ _ | with_reducible refine Below.setCell ?_ (by first | (simp; done) | (simp; omega)) _ | with_reducible refine below_drewN ?_ _ | with_reducible refine Below.alloc ?_ (by first | (simp; done) | (simp; omega)) _ | with_reducible refine Below.drew ?_))) (hrow5.kept (by repeat (first | with_reducible exact Below.refl _ _ | with_reducible refine Below.setCell ?_ (by first | (simp; done) | (simp; omega)) _ | with_reducible refine below_drewN ?_ _ | with_reducible refine Below.alloc ?_ (by first | (simp; done) | (simp; omega)) _ | with_reducible refine Below.drew ?_)))
    have a5h : Hid (At (w5.alloc (.cells #[.int .i64 q, .slice so sk c5] 24)) w3.heap.size #[.int .i64 q, .slice ro rk c3] 24) := a5'
    clear hcase hrc hsame a5 a5' a6' hwd hZ
    go_wp2_with fail
    refine Calls.mono hsc.out ?_
    rintro e w6 ⟨rfl, hb6⟩
    have hb46 : Below w4.heap.size w4 w6 := Below.trans (hb5.alloc hb5.size _) (hb6.mono (by have := hb5.size; simp; omega))
    have hB6 : Below w.heap.size w w6 := hB4.trans (hb46.mono hB4.size)
    have a6 := a5h.out.keptAll hb6
    obtain ⟨d4, d5, -, -⟩ := a6.facts
    clear d0 d1 d2 d3 hb6 a5h a6
    go_wp2_with fail
    refine Calls.mono (hfc.out _ hb46) ?_
    rintro e w7 ⟨rfl, hb7⟩
    go_wp2
    go_ret
    exact ⟨rfl, hB6.trans (hb7.mono hB6.size)⟩

theorem bitmapMakes_walk (n : Int) (hn : (Lit.int .i64 n).wf = true) (ao : Option Addr) (k cap : Nat) (Z : Nat → Int) (hk : k ≤ 17592186043904) (m : Int) (bo : Option Addr) (l cap' : Nat) (X : Nat → Nat) (hm : (Lit.int .i64 m).wf = true) (hl : l ≤ 17592186043904)
    (w : World) (hZ : Nums w ao k Z) (hX : Wds w bo l X) :
    Calls Try.prog 4 #[.int .i64 n, .slice ao k cap, bv m bo l cap'] w fun e w' => e = .returned (.bool true) ∧ Below w.heap.size w w' := makes_nat n hn ao k cap Z hk m bo l cap' X hm hl w hZ hX
end Go.Proofs.Ytmbkcnhkbpaagaa
