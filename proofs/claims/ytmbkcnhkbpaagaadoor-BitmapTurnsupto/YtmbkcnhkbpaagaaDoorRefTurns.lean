/-
  What quarryref04.Not and quarryref04.Prefix answer.
-/
import Derived.Test.YtmbkcnhkbpaagaaDoorRefKit
namespace Go.Proofs.YtmbkcnhkbpaagaaDoor
open Go.RowKit

set_option maxRecDepth 10000 in
set_option maxHeartbeats 2000000 in
theorem refNot_calls (n : Int) (ao : Option Addr) (k cap : Nat) (X : Nat → Nat) (E q : Int) (r : Nat) (hn : (Lit.int .i64 n).wf = true) (hk : k ≤ 1048576) (hE : Hid (turnE n k X E q r)) (w : World) (hW : Wds w ao k X) :
    Calls Tryd.prog 17 #[bv n ao k cap] w fun e w' => RGives E q r (rowOf (fun i => !bitAt X i) n.toNat) w e w' := by
  obtain ⟨FA, hFA⟩ := formedB n k X
  have hfc : Hid _ := fun (w1 : World) (hb : Below w.heap.size w w1) => refFormed_calls n ao k cap X FA hn (by omega) hFA w1 (hW.kept hb)
  clear hn
  go_enter Tryd.func17, Tryd.ntmps17
  go_wp2_with fail
  refine Calls.mono (hfc.out _ (by repeat (first | with_reducible exact Below.refl _ _ | with_reducible refine Below.setCell ?_ (by first | (simp; done) | (simp; omega)) _ | with_reducible refine below_drewN ?_ _ | with_reducible refine Below.alloc ?_ (by first | (simp; done) | (simp; omega)) _ | with_reducible refine Below.drew ?_))) ?_
  rintro e w1 ⟨rfl, hb1⟩
  have a1 : At w1 w.heap.size #[.int .i64 n, .slice ao k cap] 24 := ((At.new w _ _).alloc _).keptAll hb1
  have a2 : At w1 (w.heap.size + 1) #[.int .i64 0, .slice none 0 0] 24 := by
    have := (At.new (w.alloc (.cells #[.int .i64 n, .slice ao k cap] 24)) #[.int .i64 0, .slice none 0 0] 24).keptAll (by exact hb1)
    simpa using this
  have hB1 : Below w.heap.size w w1 := Below.trans (by repeat (first | with_reducible exact Below.refl _ _ | with_reducible refine Below.setCell ?_ (by first | (simp; done) | (simp; omega)) _ | with_reducible refine below_drewN ?_ _ | with_reducible refine Below.alloc ?_ (by first | (simp; done) | (simp; omega)) _ | with_reducible refine Below.drew ?_)) (hb1.mono (by simp; omega))
  have hs1 := a2.lt
  obtain ⟨c0, c1, -, -⟩ := a1.facts
  obtain ⟨d0, d1, f0, f1⟩ := a2.facts
  have a1' := hid a1
  have a2' := hid a2
  clear hb1 a1 a2 hfc
  cases FA
  · obtain ⟨-, rfl, rfl, rfl⟩ : ¬ formed n k X ∧ E = 1 ∧ q = 0 ∧ r = 0 := by
      rcases hE.out with h | ⟨h, _⟩
      · exact h
      · have h' := hFA.out.1 h; cases h'
    clear hE hFA hW
    go_wp2
    exact ret_bits2 rfl rfl a2'.out.two rfl ⟨(hB1.setCell (p := ⟨w.heap.size + 1, 0, none⟩) (by show w.heap.size ≤ w.heap.size + 1; omega) _).setCell (p := ⟨w.heap.size + 1, 1, none⟩) (by show w.heap.size ≤ w.heap.size + 1; omega) _, none, 0, wdf_none _ _ _ _, rfl⟩
  · have hform : formed n k X := hFA.out.2 rfl
    obtain ⟨-, rfl, rfl, rfl⟩ : formed n k X ∧ E = 0 ∧ q = n ∧ r = k := by
      rcases hE.out with ⟨h, _⟩ | h
      · exact (h hform).elim
      · exact h
    obtain ⟨N, rfl⟩ := Int.eq_ofNat_of_zero_le hform.1
    have hNk : N ≤ 64 * r ∧ 64 * r ≤ N + 63 := by have := hform.2.1; simp at this; unfold need at this; omega
    have hneed : Hid (need N = r) := by have := hform.2.1; simp at this; exact this.symm
    have hsc : Hid _ := refSet_calls N ao r cap X hk hNk.1 w1 (hW.kept hB1)
    clear hE hFA hform hW
    go_wp2_with fail
    refine Calls.mono hsc.out ?_
    rintro e w2 ⟨v, rfl, hown, hb2⟩
    obtain ⟨vo, vc, rfl, hbo⟩ := boolsAt_of_row hown
    have b2 := hid (a2'.out.keptAll hb2)
    have hB2 : Below w.heap.size w w2 := hB1.trans (hb2.mono hB1.size)
    have hs2 := hB2.size
    clear hown hsc c0 c1 d0 d1 f0 f1 a1' a2' hb2
    go_wp2
    go_loopw [5] (fun ii wr => ∃ i : Nat, i ≤ N ∧ ii = .int .i64 (i : Int) ∧ BoolsAt w1.heap.size wr vo N (fun j => if j < i then !bitAt X j else bitAt X j) ∧ At wr (w.heap.size + 1) #[.int .i64 0, .slice none 0 0] 24 ∧ Below w.heap.size w wr) (fun ii _ => N - (intOf ii).toNat)
    case atStart => exact ⟨0, Nat.zero_le _, rfl, hbo.congr (fun i _ => by rw [if_neg (by omega)]), b2.out, hB2⟩
    case round =>
      obtain ⟨i, hi, rfl, hbi, bi, hbl⟩ := hrel
      have bi' := hid bi
      have hbi' := hid hbi
      clear bi hbi hbo b2
      by_cases hlt : i < N
      · obtain ⟨g, cur, rfl, hg, hat, hcur⟩ := hbi'.out.got hlt
        rw [if_neg (by omega)] at hcur
        obtain ⟨t, ht⟩ : ∃ t, Hid (bitAt X i = t) := ⟨_, rfl⟩
        have d1 := hat.cell i
        rw [hcur, ht.out] at d1
        have f1 := hat.frozen i
        clear hcur hat
        go_wp2
        go_roundw
        case rel =>
          refine ⟨i + 1, by omega, by simp, ?_, bi'.out.other (p := ⟨g, i, none⟩) (by show w.heap.size + 1 ≠ g; omega) _, hbl.setCell (p := ⟨g, i, none⟩) (by show w.heap.size ≤ g; omega) _⟩
          refine (hbi'.out.set i (!t)).congr (fun j _ => ?_)
          by_cases hji : j = i
          · subst hji; rw [if_pos rfl, if_pos (by omega)]; rw [ht.out]
          · by_cases hl : j < i
            · rw [if_neg hji, if_pos hl, if_pos (by omega)]
            · rw [if_neg hji, if_neg hl, if_neg (by omega)]
        case measure => simp [intOf]; omega
      · obtain rfl : i = N := by omega
        have hbf := hid (hbi'.out.congr (G' := fun j => !bitAt X j) (fun j hj => by rw [if_pos hj]))
        have hoc : Hid _ := of_calls vo i vc (fun j => !bitAt X j) (by omega) wr hbf.out.bls
        rw [hneed.out] at hoc
        have hsz := hbl.size
        have bs := bi'.out.lt
        clear hbf hbi'
        go_wp2_with fail
        refine Calls.mono hoc.out ?_
        rintro e w4 ⟨v, rfl, hown, hb4⟩
        obtain ⟨so, c4, rfl, hw4⟩ := wds_of_row hown (fun j _ => rowOf_lt _ _ _)
        have b4 := bi'.out.keptAll hb4
        obtain ⟨d0, d1, f0, f1⟩ := b4.facts
        have hB4 : Below w.heap.size w w4 := hbl.trans (hb4.mono hsz)
        have b4' := hid b4
        have hw4' := hid (row_other (row_other hown (p := ⟨w.heap.size + 1, 0, none⟩) (by show w.heap.size + 1 < wr.heap.size; omega) (.int .i64 (i : Int))) (p := ⟨w.heap.size + 1, 1, none⟩) (by show w.heap.size + 1 < wr.heap.size; omega) (.slice so r c4))
        clear hoc hown b4 bi' hb4 hw4
        go_wp2
        refine ret_bits2 rfl rfl b4'.out.two rfl ⟨(hB4.setCell (p := ⟨w.heap.size + 1, 0, none⟩) (by show w.heap.size ≤ w.heap.size + 1; omega) _).setCell (p := ⟨w.heap.size + 1, 1, none⟩) (by show w.heap.size ≤ w.heap.size + 1; omega) _, so, c4, ?_, rfl⟩
        obtain ⟨so', c4', he, hw5⟩ := wdf_of_row hw4'.out (fun j _ => rowOf_lt _ _ _)
        cases he
        rw [Int.toNat_natCast]
        exact hw5.mono hsz

set_option maxRecDepth 10000 in
set_option maxHeartbeats 2000000 in
theorem refPrefix_calls (n : Int) (ao : Option Addr) (k cap : Nat) (X : Nat → Nat) (E q : Int) (r : Nat) (hn : (Lit.int .i64 n).wf = true) (hk : k ≤ 1048576) (hE : Hid (turnE n k X E q r)) (w : World) (hW : Wds w ao k X) :
    Calls Tryd.prog 19 #[bv n ao k cap] w fun e w' => RGives E q r (rowOf (fun i => oddB X (i + 1)) n.toNat) w e w' := by
  obtain ⟨FA, hFA⟩ := formedB n k X
  have hfc : Hid _ := fun (w1 : World) (hb : Below w.heap.size w w1) => refFormed_calls n ao k cap X FA hn (by omega) hFA w1 (hW.kept hb)
  clear hn
  go_enter Tryd.func19, Tryd.ntmps19
  go_wp2_with fail
  refine Calls.mono (hfc.out _ (by repeat (first | with_reducible exact Below.refl _ _ | with_reducible refine Below.setCell ?_ (by first | (simp; done) | (simp; omega)) _ | with_reducible refine below_drewN ?_ _ | with_reducible refine Below.alloc ?_ (by first | (simp; done) | (simp; omega)) _ | with_reducible refine Below.drew ?_))) ?_
  rintro e w1 ⟨rfl, hb1⟩
  have a1 : At w1 w.heap.size #[.int .i64 n, .slice ao k cap] 24 := ((At.new w _ _).alloc _).keptAll hb1
  have a2 : At w1 (w.heap.size + 1) #[.int .i64 0, .slice none 0 0] 24 := by
    have := (At.new (w.alloc (.cells #[.int .i64 n, .slice ao k cap] 24)) #[.int .i64 0, .slice none 0 0] 24).keptAll (by exact hb1)
    simpa using this
  have hB1 : Below w.heap.size w w1 := Below.trans (by repeat (first | with_reducible exact Below.refl _ _ | with_reducible refine Below.setCell ?_ (by first | (simp; done) | (simp; omega)) _ | with_reducible refine below_drewN ?_ _ | with_reducible refine Below.alloc ?_ (by first | (simp; done) | (simp; omega)) _ | with_reducible refine Below.drew ?_)) (hb1.mono (by simp; omega))
  have hs1 := a2.lt
  obtain ⟨c0, c1, -, -⟩ := a1.facts
  obtain ⟨d0, d1, f0, f1⟩ := a2.facts
  have a1' := hid a1
  have a2' := hid a2
  clear hb1 a1 a2 hfc
  cases FA
  · obtain ⟨-, rfl, rfl, rfl⟩ : ¬ formed n k X ∧ E = 1 ∧ q = 0 ∧ r = 0 := by
      rcases hE.out with h | ⟨h, _⟩
      · exact h
      · have h' := hFA.out.1 h; cases h'
    clear hE hFA hW
    go_wp2
    exact ret_bits2 rfl rfl a2'.out.two rfl ⟨(hB1.setCell (p := ⟨w.heap.size + 1, 0, none⟩) (by show w.heap.size ≤ w.heap.size + 1; omega) _).setCell (p := ⟨w.heap.size + 1, 1, none⟩) (by show w.heap.size ≤ w.heap.size + 1; omega) _, none, 0, wdf_none _ _ _ _, rfl⟩
  · have hform : formed n k X := hFA.out.2 rfl
    obtain ⟨-, rfl, rfl, rfl⟩ : formed n k X ∧ E = 0 ∧ q = n ∧ r = k := by
      rcases hE.out with ⟨h, _⟩ | h
      · exact (h hform).elim
      · exact h
    obtain ⟨N, rfl⟩ := Int.eq_ofNat_of_zero_le hform.1
    have hNk : N ≤ 64 * r ∧ 64 * r ≤ N + 63 := by have := hform.2.1; simp at this; unfold need at this; omega
    have hneed : Hid (need N = r) := by have := hform.2.1; simp at this; exact this.symm
    have hsc : Hid _ := refSet_calls N ao r cap X hk hNk.1 w1 (hW.kept hB1)
    clear hE hFA hform hW
    go_wp2_with fail
    refine Calls.mono hsc.out ?_
    rintro e w2 ⟨v, rfl, hown, hb2⟩
    obtain ⟨vo, vc, rfl, hbo⟩ := boolsAt_of_row hown
    have b2 := hid (a2'.out.keptAll hb2)
    have hB2 : Below w.heap.size w w2 := hB1.trans (hb2.mono hB1.size)
    have hs2 := hB2.size
    clear hown hsc c0 c1 d0 d1 f0 f1 a1' a2' hb2
    go_wp2
    go_loopw [5, 6] (fun oo ii wr => ∃ i : Nat, i ≤ N ∧ oo = .bool (oddB X i) ∧ ii = .int .i64 (i : Int) ∧ BoolsAt w1.heap.size wr vo N (fun j => if j < i then oddB X (j + 1) else bitAt X j) ∧ At wr (w.heap.size + 1) #[.int .i64 0, .slice none 0 0] 24 ∧ Below w.heap.size w wr) (fun _ ii _ => N - (intOf ii).toNat)
    case atStart => exact ⟨0, Nat.zero_le _, rfl, rfl, hbo.congr (fun i _ => by rw [if_neg (by omega)]), b2.out, hB2⟩
    case round =>
      obtain ⟨i, hi, rfl, rfl, hbi, bi, hbl⟩ := hrel
      have bi' := hid bi
      have hbi' := hid hbi
      clear bi hbi hbo b2
      by_cases hlt : i < N
      · obtain ⟨g, cur, rfl, hg, hat, hcur⟩ := hbi'.out.got hlt
        rw [if_neg (by omega)] at hcur
        obtain ⟨t, ht⟩ : ∃ t, Hid (bitAt X i = t) := ⟨_, rfl⟩
        have d1 := hat.cell i
        rw [hcur, ht.out] at d1
        have f1 := hat.frozen i
        clear hcur hat
        obtain ⟨o, ho⟩ : ∃ o, Hid (oddB X i = o) := ⟨_, rfl⟩
        have hon : Hid (oddB X (i + 1) = (o ^^ t)) := by show _ = _; rw [oddB, ho.out, ht.out]
        rw [ho.out]
        cases t
        · go_wp2
          go_roundw
          case rel =>
            refine ⟨i + 1, by omega, by rw [hon.out]; cases o <;> rfl, by simp, ?_, bi'.out.other (p := ⟨g, i, none⟩) (by show w.heap.size + 1 ≠ g; omega) _, hbl.setCell (p := ⟨g, i, none⟩) (by show w.heap.size ≤ g; omega) _⟩
            refine (hbi'.out.set i o).congr (fun j _ => ?_)
            by_cases hji : j = i
            · subst hji; rw [if_pos rfl, if_pos (by omega)]; rw [hon.out]; cases o <;> rfl
            · by_cases hl : j < i
              · rw [if_neg hji, if_pos hl, if_pos (by omega)]
              · rw [if_neg hji, if_neg hl, if_neg (by omega)]
          case measure => simp [intOf]; omega
        · go_wp2
          go_roundw
          case rel =>
            refine ⟨i + 1, by omega, by rw [hon.out]; cases o <;> rfl, by simp, ?_, bi'.out.other (p := ⟨g, i, none⟩) (by show w.heap.size + 1 ≠ g; omega) _, hbl.setCell (p := ⟨g, i, none⟩) (by show w.heap.size ≤ g; omega) _⟩
            refine (hbi'.out.set i (!o)).congr (fun j _ => ?_)
            by_cases hji : j = i
            · subst hji; rw [if_pos rfl, if_pos (by omega)]; rw [hon.out]; cases o <;> rfl
            · by_cases hl : j < i
              · rw [if_neg hji, if_pos hl, if_pos (by omega)]
              · rw [if_neg hji, if_neg hl, if_neg (by omega)]
          case measure => simp [intOf]; omega
      · obtain rfl : i = N := by omega
        have hbf := hid (hbi'.out.congr (G' := fun j => oddB X (j + 1)) (fun j hj => by rw [if_pos hj]))
        have hoc : Hid _ := of_calls vo i vc (fun j => oddB X (j + 1)) (by omega) wr hbf.out.bls
        rw [hneed.out] at hoc
        have hsz := hbl.size
        have bs := bi'.out.lt
        clear hbf hbi'
        go_wp2_with fail
        refine Calls.mono hoc.out ?_
        rintro e w4 ⟨v, rfl, hown, hb4⟩
        obtain ⟨so, c4, rfl, hw4⟩ := wds_of_row hown (fun j _ => rowOf_lt _ _ _)
        have b4 := bi'.out.keptAll hb4
        obtain ⟨d0, d1, f0, f1⟩ := b4.facts
        have hB4 : Below w.heap.size w w4 := hbl.trans (hb4.mono hsz)
        have b4' := hid b4
        have hw4' := hid (row_other (row_other hown (p := ⟨w.heap.size + 1, 0, none⟩) (by show w.heap.size + 1 < wr.heap.size; omega) (.int .i64 (i : Int))) (p := ⟨w.heap.size + 1, 1, none⟩) (by show w.heap.size + 1 < wr.heap.size; omega) (.slice so r c4))
        clear hoc hown b4 bi' hb4 hw4
        go_wp2
        refine ret_bits2 rfl rfl b4'.out.two rfl ⟨(hB4.setCell (p := ⟨w.heap.size + 1, 0, none⟩) (by show w.heap.size ≤ w.heap.size + 1; omega) _).setCell (p := ⟨w.heap.size + 1, 1, none⟩) (by show w.heap.size ≤ w.heap.size + 1; omega) _, so, c4, ?_, rfl⟩
        obtain ⟨so', c4', he, hw5⟩ := wdf_of_row hw4'.out (fun j _ => rowOf_lt _ _ _)
        cases he
        rw [Int.toNat_natCast]
        exact hw5.mono hsz

end Go.Proofs.YtmbkcnhkbpaagaaDoor
