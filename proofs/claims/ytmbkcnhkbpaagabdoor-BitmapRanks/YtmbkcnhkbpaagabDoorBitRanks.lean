/-
  The walk of quarrylaw04.BitmapRanks.
-/
import Derived.Test.YtmbkcnhkbpaagabDoorAwakeWalk
import Derived.Deep.DeepCutAuto
namespace Go.Proofs.YtmbkcnhkbpaagabDoor
open Go.RowKit Go.Shelf

/-- The row that came in; all that lay there before. -/
def RkC (w : World) (n : Int) (ao : Option Addr) (k cap : Nat) (w' : World) : Prop := At w' w.heap.size #[.int .i64 n, .slice ao k cap] 24 ∧ Below w.heap.size w w'
section
variable {w : World} {n : Int} {ao : Option Addr} {k cap : Nat} {w1 w2 : World}
theorem RkC.kept (h : RkC w n ao k cap w1) (hb : Below w1.heap.size w1 w2) : RkC w n ao k cap w2 := ⟨h.1.keptAll hb, h.2.trans (hb.mono h.2.size)⟩
theorem RkC.one (h : RkC w n ao k cap w1) : At w1 w.heap.size #[.int .i64 n, .slice ao k cap] 24 := h.1
theorem RkC.pair (h : RkC w n ao k cap w1) : w1.cell? ⟨w.heap.size, 0, none⟩ = some (.int .i64 n) ∧ RkC w n ao k cap w1 := ⟨h.1.cell 0, h⟩
theorem RkC.below (h : RkC w n ao k cap w1) : Below w.heap.size w w1 := h.2
end

section
variable {X : Nat → Nat} {N I : Nat}
theorem cnt_low (hI : I ≤ N) : cntIn X N 0 (I : Int) = cntB X I := by
  unfold cntIn
  rw [show min ((I : Nat) : Int).toNat N = I by simp; omega, show min ((0 : Int).toNat) N = 0 by simp]
  show cntB X I - 0 = _
  omega
theorem cnt_between {a b : Nat} (ha : a ≤ N) (hb : b ≤ N) : cntIn X N (a : Int) (b : Int) = cntB X b - cntB X a := by
  unfold cntIn
  rw [show min ((b : Nat) : Int).toNat N = b by simp; omega, show min ((a : Nat) : Int).toNat N = a by simp; omega]
/-- What there is to say of the next one. -/
theorem next_facts {s : Int} (hI : I ≤ N) (h : IsSel X N ((cntB X I : Nat) : Int) s) : (∃ p : Nat, s = p ∧ I ≤ p ∧ p < N ∧ bitAt X p = true ∧ cntB X p = cntB X I ∧ cntB X I < cntB X N) ∨ (s = -1 ∧ cntB X I = cntB X N) := by
  rcases h with ⟨p, rfl, h1, h2, h3⟩ | ⟨rfl, h1⟩
  · refine .inl ⟨p, rfl, ?_, h1, h2, by omega, ?_⟩
    · rcases Nat.lt_or_ge p I with h | h
      · have := cntB_lt h h2; omega
      · exact h
    · have := cntB_lt h1 h2; omega
  · have := cntB_mono X hI
    exact .inr ⟨rfl, by omega⟩
/-- What there is to say of the last one. -/
theorem last_facts {s : Int} (hI : I ≤ N) (h : IsSel X N ((cntB X I : Nat) - 1 : Int) s) : (∃ p : Nat, s = p ∧ p < I ∧ bitAt X p = true ∧ cntB X p + 1 = cntB X I) ∨ (s = -1 ∧ cntB X I = 0) := by
  rcases h with ⟨p, rfl, h1, h2, h3⟩ | ⟨rfl, h1⟩
  · refine .inl ⟨p, rfl, ?_, h2, by omega⟩
    rcases Nat.lt_or_ge p I with h | h
    · exact h
    · have := cntB_mono X h; omega
  · have := cntB_mono X hI
    exact .inr ⟨rfl, by omega⟩
end

set_option maxRecDepth 10000 in
theorem pick_calls (i : Int) (M : Nat) (hM : 0 < M) (hM2 : M ≤ 4611686018427387904) (w : World) :
    Calls Tryd.prog 12 #[.int .i64 i, .int .i64 (M : Int)] w fun e w' => (∃ I : Nat, I < M ∧ e = .returned (.int .i64 (I : Int))) ∧ w' = w := by
  obtain ⟨r, hr⟩ : ∃ r, Hid (i.tmod (M : Int) = r) := ⟨_, rfl⟩
  have hne : ((M : Int) == 0) = false := by simp; omega
  have hr2 : -(M : Int) < r ∧ r < (M : Int) := by
    rw [← hr.out]
    refine ⟨?_, Int.tmod_lt_of_pos i (by omega)⟩
    have h1 := Int.tmod_lt_of_pos (-i) (show (0 : Int) < (M : Int) by omega)
    rw [Int.neg_tmod] at h1
    omega
  have hrm : i.tmod (M : Int) = r := hr.out
  go_enter Tryd.func12, Tryd.ntmps12
  by_cases h0 : r < 0
  · go_wp2
    go_ret
    exact ⟨⟨(r + M).toNat, by omega, by rw [show (((r + M).toNat : Nat) : Int) = r + M by omega]; rfl⟩, rfl⟩
  · go_wp2
    go_ret
    exact ⟨⟨r.toNat, by omega, by rw [show ((r.toNat : Nat) : Int) = r by omega]; rfl⟩, rfl⟩
set_option maxRecDepth 10000 in
set_option maxHeartbeats 8000000 in
theorem bitmapRanks_walk (n : Int) (ao : Option Addr) (k cap : Nat) (X : Nat → Nat) (hn : (Lit.int .i64 n).wf = true) (hk : k ≤ 17592186043904) (i : Int) (hi : (Lit.int .i64 i).wf = true) (t : Int) (ht : (Lit.int .i64 t).wf = true) (w : World) (hT : Tab w) (h0 : 0 < w.heap.size) (hW : Wds w ao k X) :
    Calls Tryd.prog 3 #[bv n ao k cap, .int .i64 i, .int .i64 t] w fun e w' => e = .returned (.bool true) ∧ Below w.heap.size w w' := by
  obtain ⟨FA, hFA⟩ := formedB n k X
  have hk2 : k ≤ 17592186044416 := by omega
  obtain ⟨i1, i2⟩ := wf_i64 hi
  obtain ⟨t1, t2⟩ := wf_i64 ht
  have hW' := hid hW
  have hT' := hid hT
  have hn' := hid hn
  have hi' := hid hi
  have ht' := hid ht
  have hi2 := hid (And.intro i1 i2)
  have A0 := hid (show RkC w n ao k cap (w.alloc (.cells #[.int .i64 n, .slice ao k cap] 24)) from ⟨At.new w _ _, (Below.refl _ _).alloc (Nat.le_refl _) _⟩)
  clear hW hT hn hi ht i1 i2
  go_enter Tryd.func3, Tryd.ntmps3
  go_wp2_with fail
  refine Calls.mono (awake_calls _ (hT'.out.below A0.out.2 h0) (Nat.lt_of_lt_of_le h0 A0.out.2.size)) ?_
  rintro e w1 ⟨rfl, hb⟩
  have A1 := hid (A0.out.kept hb)
  clear A0 hb
  obtain ⟨c0, c1, -, -⟩ := A1.out.1.facts
  go_wp2_with fail
  refine Calls.mono (formed_calls n ao k cap X FA hn'.out hk2 hFA _ (hW'.out.kept A1.out.2)) ?_
  rintro e w2 ⟨rfl, hb⟩
  have A2 := hid (A1.out.kept hb)
  clear A1 hb c0 c1
  cases FA
  · have hE : Hid (Eff n k X 0) := .inr ⟨fun h => (by have h' := hFA.out.1 h; cases h'), rfl⟩
    clear hFA
    obtain ⟨c0, c1, -, -⟩ := A2.out.1.facts
    go_wp2_with fail
    refine Calls.mono (count_calls n 0 i ao k cap X 0 0 hn'.out (by decide) hi'.out hk2 hE (by show _ = _; unfold cntIn; simp [cntB]) _ (hW'.out.kept A2.out.2)) ?_
    rintro e w3 ⟨rfl, hb⟩
    have A3 := hid (A2.out.kept hb)
    clear A2 hb c0 c1
    obtain ⟨c0, c1, -, -⟩ := A3.out.1.facts
    go_wp2_with fail
    refine Calls.mono (sel_at n 0 (-1) ao k cap X 0 hn'.out (by decide) hk2 hE (.inr ⟨rfl, .inr (by simp [cntB])⟩) _ (hT'.out.below A3.out.2 h0) (Nat.lt_of_lt_of_le h0 A3.out.2.size) (hW'.out.kept A3.out.2)) ?_
    rintro e w4 ⟨rfl, hb⟩
    have A4 := hid (A3.out.kept hb)
    clear A3 hb c0 c1
    obtain ⟨c0, c1, -, -⟩ := A4.out.1.facts
    go_wp2_with fail
    refine Calls.mono (next_at n 0 (-1) ao k cap X 0 hn'.out (by decide) hk2 hE (next_high (by simp)) _ (hT'.out.below A4.out.2 h0) (Nat.lt_of_lt_of_le h0 A4.out.2.size) (hW'.out.kept A4.out.2)) ?_
    rintro e w5 ⟨rfl, hb⟩
    have A5 := hid (A4.out.kept hb)
    clear A4 hb c0 c1
    obtain ⟨c0, c1, -, -⟩ := A5.out.1.facts
    go_wp2_with fail
    refine Calls.mono (last_at n i (-1) ao k cap X 0 hn'.out hi'.out hk2 hE (last_low (by omega)) _ (hW'.out.kept A5.out.2)) ?_
    rintro e w6 ⟨rfl, hb⟩
    have A6 := hid (A5.out.kept hb)
    clear A5 hb c0 c1
    have hB6 := A6.out.2
    clear A6
    go_wp2
    go_ret
    exact ⟨rfl, hB6⟩
  · have hform : formed n k X := hFA.out.2 rfl
    obtain ⟨N, rfl⟩ := Int.eq_ofNat_of_zero_le hform.1
    have hE : Hid (Eff N k X N) := .inl ⟨hform, rfl⟩
    have hNk : N ≤ 64 * k := by have := hform.2.1; simp at this; unfold need at this; omega
    have hNl : N ≤ 1125899906842624 := by omega
    obtain ⟨al, hal⟩ : ∃ al, Hid (cntB X N = al) := ⟨_, rfl⟩
    have hall : al ≤ N := hal.out ▸ cntB_le X N
    clear hFA hform hNk
    obtain ⟨c0, c1, -, -⟩ := A2.out.1.facts
    go_wp2_with fail
    refine Calls.mono (count_calls N 0 N ao k cap X N al hn'.out (by decide) hn'.out hk2 hE ((cnt_low (Nat.le_refl _)).trans hal.out) _ (hW'.out.kept A2.out.2)) ?_
    rintro e w3 ⟨rfl, hb⟩
    have A3 := hid (A2.out.kept hb)
    clear A2 hb c0 c1
    obtain ⟨c0, c1, -, -⟩ := A3.out.1.facts
    obtain ⟨OUT, hOUT⟩ : ∃ b, Hid (decide (i < 0 ∨ (N : Int) < i) = b) := ⟨_, rfl⟩
    go_upto_region 6 with fail
    go_cut [49] (fun b wx => b = .bool OUT ∧ wx = w3)
    case first => as_aux_lemma =>
      by_cases hi0 : i < 0
      · obtain rfl : OUT = true := by rw [← hOUT.out]; exact decide_eq_true (.inl hi0)
        go_wp2
        go_meet
        case rel => exact ⟨rfl, rfl⟩
      · have e0 : decide (i < 0) = false := by simpa using hi0
        by_cases hiN : (N : Int) < i
        · obtain rfl : OUT = true := by rw [← hOUT.out]; exact decide_eq_true (.inr hiN)
          have e1 : decide ((N : Int) < i) = true := by simpa using hiN
          go_wp2
          go_meet
          case rel => exact ⟨rfl, rfl⟩
        · obtain rfl : OUT = false := by rw [← hOUT.out]; exact decide_eq_false (by omega)
          have e1 : decide ((N : Int) < i) = false := by simpa using hiN
          go_wp2
          go_meet
          case rel => exact ⟨rfl, rfl⟩
    case rest => as_aux_lemma =>
      obtain ⟨rfl, rfl⟩ := hcut
      go_upto_if 49 with fail
      go_cut [1] (fun ii wx => ∃ I : Nat, I ≤ N ∧ ii = .int .i64 (I : Int) ∧ RkC w N ao k cap wx)
      case first => as_aux_lemma =>
        obtain rfl | rfl : OUT = true ∨ OUT = false := by cases OUT <;> simp
        · have hpk := fun w => pick_calls i (N + 1) (by omega) (by omega) w
          rw [show ((N + 1 : Nat) : Int) = (N : Int) + 1 by omega] at hpk
          have hpk' := hid hpk
          clear hpk
          go_wp2_with fail
          refine Calls.mono (hpk'.out _) ?_
          rintro e w4 ⟨⟨I, hI, rfl⟩, hw4⟩
          obtain rfl := hw4.symm
          go_wp2
          go_meet
          case rel => exact ⟨I, by omega, rfl, A3.out⟩
        · have hin : ¬ (i < 0 ∨ (N : Int) < i) := of_decide_eq_false hOUT.out
          obtain ⟨I, rfl⟩ := Int.eq_ofNat_of_zero_le (show 0 ≤ i by omega)
          go_wp2
          go_meet
          case rel => exact ⟨I, by omega, rfl, A3.out⟩
      case rest => as_aux_lemma =>
        obtain ⟨I, hI, rfl, A4⟩ := hcut
        obtain ⟨lo, hlo⟩ : ∃ lo, Hid (cntB X I = lo) := ⟨_, rfl⟩
        have hlal : lo ≤ al := by have := cntB_mono X hI; rw [hlo.out, hal.out] at this; exact this
        obtain ⟨hv, hhv⟩ : ∃ hv, Hid (lo + hv = al) := ⟨al - lo, by show _ = _; omega⟩
        have hhvl : hv ≤ al := by have := hhv.out; omega
        obtain ⟨NX, hSN⟩ : ∃ s, Hid (IsSel X N (lo : Int) s) := sel_ex X N _
        obtain ⟨LS, hSL⟩ : ∃ s, Hid (IsSel X N ((lo : Int) - 1) s) := sel_ex X N _
        have hNX : Hid (IsNext X N (I : Int) NX) := IsSel.next (F := I) (by omega) (by rw [hlo.out]; exact hSN.out)
        have hLS : Hid (IsLast X N (I : Int) LS) := IsSel.last (T := I) (by simp; omega) (by rw [hlo.out]; exact hSL.out)
        have hfn := hid (next_facts hI (by rw [hlo.out]; exact hSN.out))
        have hfl := hid (last_facts hI (by rw [hlo.out]; exact hSL.out))
        rw [hlo.out, hal.out] at hfn
        rw [hlo.out] at hfl
        have hIw := hid (show (Lit.int .i64 (I : Int)).wf = true from WalkArith.wf_i64 (by omega))
        have hlw := hid (show (Lit.int .i64 (lo : Int)).wf = true from WalkArith.wf_i64 (by omega))
        have hlw1 := hid (show (Lit.int .i64 ((lo : Int) - 1)).wf = true from WalkArith.wf_i64 (by omega))
        have hcl : Hid (cntIn X N 0 (I : Int) = lo) := (cnt_low hI).trans hlo.out
        have hch : Hid (cntIn X N (I : Int) (N : Int) = hv) := (cnt_between hI (Nat.le_refl _)).trans (by rw [hal.out, hlo.out]; have := hhv.out; omega)
        have h0w := hid (show (Lit.int .i64 0).wf = true by decide)
        have A4' := hid A4
        clear A3 A4 hOUT hi' hi2 c0 c1
        go_wp2
        refine wp_region_quiet (C := (fun w' => w'.cell? ⟨w.heap.size, 0, none⟩ = some (.int .i64 (N : Int)) ∧ RkC w N ao k cap w')) (by kernel_rfl) (by kernel_rfl) (RkC.pair (A4'.out.kept ((Below.refl _ _).drew))) ?_
        dsimp only
        repeat (first
          | (refine wpQuiet_skip (by rfl) ?_; simp only [Act.put, List.setIfInBounds_toArray, List.set_cons_zero, List.set_cons_succ])
          | (refine wpQuiet_load 24 _ (w.heap.size) (0) [.int .i64 (N : Int), .slice ao k cap] _ (fun wq hq => At.range (RkC.one hq.2) rfl) Tryd.underlying24 sizeBits rfl rfl rfl (by rfl) ?_; simp only [Act.put, List.setIfInBounds_toArray, List.set_cons_zero, List.set_cons_succ])
          | (refine' wpQuiet_take (by rfl) ?_ ?_
             rotate_left
             · (intro wq hq; (try dsimp only at hq); go_simp
                first
                  | done
                  | with_reducible rfl
                  | (go_at_call 8; have hzz := count_calls N 0 I ao k cap X N lo hn'.out h0w.out hIw.out hk2 hE hcl  wq (hW'.out.kept (RkC.below hq.2)); with_reducible refine hzz.mono ?_; clear hzz; rintro e wz ⟨rfl, hb⟩; exact ⟨rfl, RkC.pair (RkC.kept hq.2 hb)⟩)
                  | (go_at_call 8; have hzz := count_calls N I N ao k cap X N hv hn'.out hIw.out hn'.out hk2 hE hch  wq (hW'.out.kept (RkC.below hq.2)); with_reducible refine hzz.mono ?_; clear hzz; rintro e wz ⟨rfl, hb⟩; exact ⟨rfl, RkC.pair (RkC.kept hq.2 hb)⟩)
               )
             simp only [Act.put, List.setIfInBounds_toArray, List.set_cons_zero, List.set_cons_succ]))
        refine wpQuiet_nil ?_
        intro w5 A5
        have A5' := hid A5.2
        clear A4' A5 hcl hch
        go_wp2
        refine wp_region_quiet (C := (fun w' => w'.cell? ⟨w.heap.size, 0, none⟩ = some (.int .i64 (N : Int)) ∧ RkC w N ao k cap w')) (by kernel_rfl) (by kernel_rfl) (RkC.pair (A5'.out.kept ((Below.refl _ _).drew))) ?_
        dsimp only
        repeat (first
          | (refine wpQuiet_skip (by rfl) ?_; simp only [Act.put, List.setIfInBounds_toArray, List.set_cons_zero, List.set_cons_succ])
          | (refine wpQuiet_load 24 _ (w.heap.size) (0) [.int .i64 (N : Int), .slice ao k cap] _ (fun wq hq => At.range (RkC.one hq.2) rfl) Tryd.underlying24 sizeBits rfl rfl rfl (by rfl) ?_; simp only [Act.put, List.setIfInBounds_toArray, List.set_cons_zero, List.set_cons_succ])
          | (refine' wpQuiet_take (by rfl) ?_ ?_
             rotate_left
             · (intro wq hq; (try dsimp only at hq); go_simp
                first
                  | done
                  | with_reducible rfl
                  | (go_at_call 10; have hzz := next_at N I NX ao k cap X N hn'.out hIw.out hk2 hE hNX wq (hT'.out.below (RkC.below hq.2) h0) (Nat.lt_of_lt_of_le h0 (RkC.below hq.2).size) (hW'.out.kept (RkC.below hq.2)); with_reducible refine hzz.mono ?_; clear hzz; rintro e wz ⟨rfl, hb⟩; exact ⟨rfl, RkC.pair (RkC.kept hq.2 hb)⟩)
                  | (go_at_call 11; have hzz := last_at N I LS ao k cap X N hn'.out hIw.out hk2 hE hLS  wq (hW'.out.kept (RkC.below hq.2)); with_reducible refine hzz.mono ?_; clear hzz; rintro e wz ⟨rfl, hb⟩; exact ⟨rfl, RkC.pair (RkC.kept hq.2 hb)⟩)
               )
             simp only [Act.put, List.setIfInBounds_toArray, List.set_cons_zero, List.set_cons_succ]))
        refine wpQuiet_nil ?_
        intro w6 A6a
        have A6 := hid A6a.2
        clear A5' A6a
        go_upto_region 10 with fail
        go_cut [110] (fun b wx => b = .bool false ∧ RkC w N ao k cap wx)
        case first => as_aux_lemma =>
          have e0 : ((lo : Int) + (hv : Int) != (al : Int)) = false := by simp; have := hhv.out; omega
          have e1 : (lo : Int) + (hv : Int) = (al : Int) := by have := hhv.out; omega
          have e1' := hid e1
          clear e1
          rcases hfn.out with ⟨p, rfl, hp1, hp2, hp3, hp4, hp5⟩ | ⟨rfl, hp5⟩
          · rcases hfl.out with ⟨q, rfl, hq1, hq2, hq3⟩ | ⟨rfl, hq3⟩
            · have ev : ((hv : Int) == 0) = false := by simp; have := hhv.out; omega
              have el : ((lo : Int) == 0) = false := by simp; omega
              clear hfn hfl hp1 hp2 hp3 hp4 hp5 hq1 hq2 hq3
              obtain ⟨c0, c1, -, -⟩ := A6.out.1.facts
              go_wp2_with fail
              refine Calls.mono (sel_at N lo p ao k cap X N hn'.out hlw.out hk2 hE hSN _ (hT'.out.below A6.out.2 h0) (Nat.lt_of_lt_of_le h0 A6.out.2.size) (hW'.out.kept A6.out.2)) ?_
              rintro e w11 ⟨rfl, hb⟩
              have A11 := hid (A6.out.kept hb)
              clear A6 hb c0 c1
              obtain ⟨c0, c1, -, -⟩ := A11.out.1.facts
              go_wp2_with fail
              refine Calls.mono (sel_at N ((lo : Int) - 1) q ao k cap X N hn'.out hlw1.out hk2 hE hSL _ (hT'.out.below A11.out.2 h0) (Nat.lt_of_lt_of_le h0 A11.out.2.size) (hW'.out.kept A11.out.2)) ?_
              rintro e w12 ⟨rfl, hb⟩
              have A12 := hid (A11.out.kept hb)
              clear A11 hb c0 c1
              go_wp2
              go_meet
              case rel => exact ⟨by first | rfl | (rw [decide_eq_false (by omega)]), A12.out⟩
            · have ev : ((hv : Int) == 0) = false := by simp; have := hhv.out; omega
              have el : ((lo : Int) == 0) = true := by simp; omega
              clear hfn hfl hp1 hp2 hp3 hp4 hp5 hq3
              obtain ⟨c0, c1, -, -⟩ := A6.out.1.facts
              go_wp2_with fail
              refine Calls.mono (sel_at N lo p ao k cap X N hn'.out hlw.out hk2 hE hSN _ (hT'.out.below A6.out.2 h0) (Nat.lt_of_lt_of_le h0 A6.out.2.size) (hW'.out.kept A6.out.2)) ?_
              rintro e w13 ⟨rfl, hb⟩
              have A13 := hid (A6.out.kept hb)
              clear A6 hb c0 c1
              obtain ⟨c0, c1, -, -⟩ := A13.out.1.facts
              go_wp2_with fail
              refine Calls.mono (sel_at N ((lo : Int) - 1) (-1) ao k cap X N hn'.out hlw1.out hk2 hE hSL _ (hT'.out.below A13.out.2 h0) (Nat.lt_of_lt_of_le h0 A13.out.2.size) (hW'.out.kept A13.out.2)) ?_
              rintro e w14 ⟨rfl, hb⟩
              have A14 := hid (A13.out.kept hb)
              clear A13 hb c0 c1
              go_wp2
              go_meet
              case rel => exact ⟨by first | rfl | (rw [decide_eq_false (by omega)]), A14.out⟩
          · rcases hfl.out with ⟨q, rfl, hq1, hq2, hq3⟩ | ⟨rfl, hq3⟩
            · have ev : ((hv : Int) == 0) = true := by simp; have := hhv.out; omega
              have el : ((lo : Int) == 0) = false := by simp; omega
              clear hfn hfl hp5 hq1 hq2 hq3
              obtain ⟨c0, c1, -, -⟩ := A6.out.1.facts
              go_wp2_with fail
              refine Calls.mono (sel_at N lo (-1) ao k cap X N hn'.out hlw.out hk2 hE hSN _ (hT'.out.below A6.out.2 h0) (Nat.lt_of_lt_of_le h0 A6.out.2.size) (hW'.out.kept A6.out.2)) ?_
              rintro e w15 ⟨rfl, hb⟩
              have A15 := hid (A6.out.kept hb)
              clear A6 hb c0 c1
              obtain ⟨c0, c1, -, -⟩ := A15.out.1.facts
              go_wp2_with fail
              refine Calls.mono (sel_at N ((lo : Int) - 1) q ao k cap X N hn'.out hlw1.out hk2 hE hSL _ (hT'.out.below A15.out.2 h0) (Nat.lt_of_lt_of_le h0 A15.out.2.size) (hW'.out.kept A15.out.2)) ?_
              rintro e w16 ⟨rfl, hb⟩
              have A16 := hid (A15.out.kept hb)
              clear A15 hb c0 c1
              go_wp2
              go_meet
              case rel => exact ⟨by first | rfl | (rw [decide_eq_false (by omega)]), A16.out⟩
            · have ev : ((hv : Int) == 0) = true := by simp; have := hhv.out; omega
              have el : ((lo : Int) == 0) = true := by simp; omega
              clear hfn hfl hp5 hq3
              obtain ⟨c0, c1, -, -⟩ := A6.out.1.facts
              go_wp2_with fail
              refine Calls.mono (sel_at N lo (-1) ao k cap X N hn'.out hlw.out hk2 hE hSN _ (hT'.out.below A6.out.2 h0) (Nat.lt_of_lt_of_le h0 A6.out.2.size) (hW'.out.kept A6.out.2)) ?_
              rintro e w17 ⟨rfl, hb⟩
              have A17 := hid (A6.out.kept hb)
              clear A6 hb c0 c1
              obtain ⟨c0, c1, -, -⟩ := A17.out.1.facts
              go_wp2_with fail
              refine Calls.mono (sel_at N ((lo : Int) - 1) (-1) ao k cap X N hn'.out hlw1.out hk2 hE hSL _ (hT'.out.below A17.out.2 h0) (Nat.lt_of_lt_of_le h0 A17.out.2.size) (hW'.out.kept A17.out.2)) ?_
              rintro e w18 ⟨rfl, hb⟩
              have A18 := hid (A17.out.kept hb)
              clear A17 hb c0 c1
              go_wp2
              go_meet
              case rel => exact ⟨by first | rfl | (rw [decide_eq_false (by omega)]), A18.out⟩
        case rest => as_aux_lemma =>
          obtain ⟨rfl, A20⟩ := hcut
          have A20' := hid A20
          clear A20 A6 hSL
          go_upto_region 12 with fail
          go_cut [130] (fun b wx => b = .bool false ∧ RkC w N ao k cap wx)
          case first => as_aux_lemma =>
            rcases hfn.out with ⟨p, rfl, hp1, hp2, hp3, hp4, hp5⟩ | ⟨rfl, hp5⟩
            · have epI : decide ((p : Int) < (I : Int)) = false := by simp; omega
              have ep0 : decide ((0 : Int) ≤ (p : Int)) = true := by simp
              have hpw := hid (show (Lit.int .i64 (p : Int)).wf = true from WalkArith.wf_i64 (by omega))
              have hg1 : Hid (getB X N (p : Int) = true) := (getB_nat hp2).trans hp3
              have hz1 : Hid (cntIn X N (I : Int) (p : Int) = 0) := (cnt_between hI (by omega)).trans (by rw [hp4, hlo.out]; omega)
              clear hfn hp2 hp3 hp4 hp5
              obtain ⟨c0, c1, -, -⟩ := A20'.out.1.facts
              go_wp2_with fail
              refine Calls.mono (get_calls N p ao k cap X N true hn'.out hpw.out hk2 hE hg1 _ (hW'.out.kept A20'.out.2)) ?_
              rintro e w19 ⟨rfl, hb⟩
              have A19 := hid (A20'.out.kept hb)
              clear A20' hb c0 c1
              obtain ⟨c0, c1, -, -⟩ := A19.out.1.facts
              go_wp2_with fail
              refine Calls.mono (count_calls N I p ao k cap X N 0 hn'.out hIw.out hpw.out hk2 hE hz1 _ (hW'.out.kept A19.out.2)) ?_
              rintro e w20 ⟨rfl, hb⟩
              have A20 := hid (A19.out.kept hb)
              clear A19 hb c0 c1
              go_wp2
              go_meet
              case rel => exact ⟨by first | rfl | (rw [decide_eq_false (by omega)]), A20.out⟩
            · clear hfn hp5
              go_wp2
              go_meet
              case rel => exact ⟨rfl, A20'.out⟩
          case rest => as_aux_lemma =>
            obtain ⟨rfl, A30⟩ := hcut
            have A30' := hid A30
            clear A30 A20'
            go_upto_region 14 with fail
            go_cut [159] (fun b wx => b = .bool false ∧ RkC w N ao k cap wx)
            case first => as_aux_lemma =>
              rcases hfl.out with ⟨q, rfl, hq1, hq2, hq3⟩ | ⟨rfl, hq3⟩
              · have epI : decide ((I : Int) ≤ (q : Int)) = false := by simp; omega
                have ep0 : decide ((0 : Int) ≤ (q : Int)) = true := by simp
                have hqw := hid (show (Lit.int .i64 (q : Int)).wf = true from WalkArith.wf_i64 (by omega))
                have hqw1 := hid (show (Lit.int .i64 ((q : Int) + 1)).wf = true from WalkArith.wf_i64 (by omega))
                have hg1 : Hid (getB X N (q : Int) = true) := (getB_nat (by omega)).trans hq2
                have hz1 : Hid (cntIn X N ((q : Int) + 1) (I : Int) = 0) := (show cntIn X N (((q + 1 : Nat)) : Int) (I : Int) = 0 from (cnt_between (by omega) hI).trans (by rw [cntB_succ, hq2, hlo.out]; simp; omega))
                obtain ⟨l1, hl1⟩ : ∃ l1, Hid (cntB X q = l1) := ⟨_, rfl⟩
                have hz2 : Hid (cntIn X N 0 (q : Int) = l1) := (cnt_low (by omega)).trans hl1.out
                have e9' : (lo : Int) - 1 = (l1 : Int) := by have := hl1.out; omega
                clear hfl hq2 hq3 hl1
                obtain ⟨c0, c1, -, -⟩ := A30'.out.1.facts
                go_wp2_with fail
                refine Calls.mono (get_calls N q ao k cap X N true hn'.out hqw.out hk2 hE hg1 _ (hW'.out.kept A30'.out.2)) ?_
                rintro e w21 ⟨rfl, hb⟩
                have A21 := hid (A30'.out.kept hb)
                clear A30' hb c0 c1
                obtain ⟨c0, c1, -, -⟩ := A21.out.1.facts
                go_wp2_with fail
                refine Calls.mono (count_calls N ((q : Int) + 1) I ao k cap X N 0 hn'.out hqw1.out hIw.out hk2 hE hz1 _ (hW'.out.kept A21.out.2)) ?_
                rintro e w22 ⟨rfl, hb⟩
                have A22 := hid (A21.out.kept hb)
                clear A21 hb c0 c1
                obtain ⟨c0, c1, -, -⟩ := A22.out.1.facts
                go_wp2_with fail
                refine Calls.mono (count_calls N 0 q ao k cap X N l1 hn'.out (by decide) hqw.out hk2 hE hz2 _ (hW'.out.kept A22.out.2)) ?_
                rintro e w23 ⟨rfl, hb⟩
                have A23 := hid (A22.out.kept hb)
                clear A22 hb c0 c1
                go_wp2
                go_meet
                case rel => exact ⟨by first | rfl | (rw [decide_eq_false (by omega)]), A23.out⟩
              · clear hfl hq3
                go_wp2
                go_meet
                case rel => exact ⟨rfl, A30'.out⟩
            case rest => as_aux_lemma =>
              obtain ⟨rfl, A40⟩ := hcut
              have A40' := hid A40
              clear A40 A30' hfl
              obtain ⟨GI, hGI⟩ : ∃ b, Hid (getB X N (I : Int) = b) := ⟨_, rfl⟩
              have hge : Hid (GI = (NX == (I : Int))) := by
                show _ = _
                rw [← hGI.out]
                rcases hNX.out with ⟨p, rfl, h1, h2, h3, h4⟩ | ⟨rfl, h4⟩
                · by_cases hpI : p = I
                  · rw [hpI, getB_nat (by omega), ← hpI, h2]; simp
                  · rw [getB_nat (by omega), h4 I (Int.le_refl _) (by omega)]; simp; try omega
                · by_cases hIN : I < N
                  · rw [getB_nat hIN, h4 I (Int.le_refl _) hIN]; simp; try omega
                  · rw [getB_hi (by omega)]; simp; try omega
              clear hNX hLS hfn hSN
              go_upto_region 16 with fail
              go_cut [166] (fun b wx => b = .bool false ∧ RkC w N ao k cap wx)
              case first => as_aux_lemma =>
                cases hNI : (NX == (I : Int))
                · obtain rfl : GI = false := hge.out.trans hNI
                  clear hge
                  obtain ⟨c0, c1, -, -⟩ := A40'.out.1.facts
                  go_wp2_with fail
                  refine Calls.mono (get_calls N I ao k cap X N false hn'.out hIw.out hk2 hE hGI _ (hW'.out.kept A40'.out.2)) ?_
                  rintro e w24 ⟨rfl, hb⟩
                  have A24 := hid (A40'.out.kept hb)
                  clear A40' hb c0 c1
                  go_wp2
                  go_meet
                  case rel => exact ⟨by first | rfl | (rw [decide_eq_false (by omega)]), A24.out⟩
                · obtain rfl : GI = true := hge.out.trans hNI
                  obtain rfl : NX = (I : Int) := by simpa using hNI
                  clear hge hNI
                  obtain ⟨c0, c1, -, -⟩ := A40'.out.1.facts
                  go_wp2_with fail
                  refine Calls.mono (get_calls N I ao k cap X N true hn'.out hIw.out hk2 hE hGI _ (hW'.out.kept A40'.out.2)) ?_
                  rintro e w25 ⟨rfl, hb⟩
                  have A25 := hid (A40'.out.kept hb)
                  clear A40' hb c0 c1
                  go_wp2
                  go_meet
                  case rel => exact ⟨by first | rfl | (rw [decide_eq_false (by omega)]), A25.out⟩
              case rest => as_aux_lemma =>
                obtain ⟨rfl, A50⟩ := hcut
                have A50' := hid A50
                clear A50 A40' hge hGI
                obtain ⟨Q, hQ⟩ : ∃ s, Hid (IsSel X N t s) := sel_ex X N t
                obtain ⟨c0, c1, -, -⟩ := A50'.out.1.facts
                go_wp2_with fail
                refine Calls.mono (sel_at N t Q ao k cap X N hn'.out ht'.out hk2 hE hQ _ (hT'.out.below A50'.out.2 h0) (Nat.lt_of_lt_of_le h0 A50'.out.2.size) (hW'.out.kept A50'.out.2)) ?_
                rintro e w26 ⟨rfl, hb⟩
                have A26 := hid (A50'.out.kept hb)
                clear A50' hb c0 c1
                have hBB := A26.out.2
                rcases hQ.out with ⟨s, rfl, hs1, hs2, hs3⟩ | ⟨rfl, hs⟩
                · obtain ⟨T, rfl⟩ := Int.eq_ofNat_of_zero_le (show 0 ≤ t by omega)
                  have hTal : T < al := by have := cntB_lt hs1 hs2; have := hal.out; omega
                  have e0 : decide ((T : Int) < 0) = false := by simp
                  have e1 : decide ((al : Int) ≤ (T : Int)) = false := by simp; omega
                  have e2 : decide ((0 : Int) ≤ (s : Int)) = true := by simp
                  have e3 : decide ((s : Int) < (N : Int)) = true := by simp; omega
                  have hsw := hid (show (Lit.int .i64 (s : Int)).wf = true from WalkArith.wf_i64 (by omega))
                  have hg1 : Hid (getB X N (s : Int) = true) := (getB_nat hs1).trans hs2
                  have hz1 : Hid (cntIn X N 0 (s : Int) = T) := (cnt_low (by omega)).trans (by omega)
                  clear hQ hs2 hs3 t1 t2 hBB
                  obtain ⟨c0, c1, -, -⟩ := A26.out.1.facts
                  go_wp2_with fail
                  refine Calls.mono (get_calls N s ao k cap X N true hn'.out hsw.out hk2 hE hg1 _ (hW'.out.kept A26.out.2)) ?_
                  rintro e w27 ⟨rfl, hb⟩
                  have A27 := hid (A26.out.kept hb)
                  clear A26 hb c0 c1
                  obtain ⟨c0, c1, -, -⟩ := A27.out.1.facts
                  go_wp2_with fail
                  refine Calls.mono (count_calls N 0 s ao k cap X N T hn'.out (by decide) hsw.out hk2 hE hz1 _ (hW'.out.kept A27.out.2)) ?_
                  rintro e w28 ⟨rfl, hb⟩
                  have A28 := hid (A27.out.kept hb)
                  clear A27 hb c0 c1
                  have hB9 := A28.out.2
                  clear A28
                  go_wp2
                  go_ret
                  exact ⟨rfl, hB9⟩
                · by_cases ht0 : t < 0
                  · clear hQ hs
                    clear A26
                    go_wp2
                    go_ret
                    exact ⟨rfl, hBB⟩
                  · have e0 : decide (t < 0) = false := by simpa using ht0
                    have e1 : decide ((al : Int) ≤ t) = true := by simp; have := hal.out; omega
                    clear hQ hs A26
                    go_wp2
                    go_ret
                    exact ⟨rfl, hBB⟩
end Go.Proofs.YtmbkcnhkbpaagabDoor
