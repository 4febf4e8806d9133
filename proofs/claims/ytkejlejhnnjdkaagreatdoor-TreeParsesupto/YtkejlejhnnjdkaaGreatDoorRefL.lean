/-
 What quarryref10.Outside, Depths, Depth and Close answer.
-/
import Derived.Test.YtkejlejhnnjdkaaGreatDoorPack5
import Derived.Test.YtkejlejhnnjdkaaGreatDoorPack4
namespace Go.Proofs.YtkejlejhnnjdkaaGreatDoor
open Go.RowKit Go.Shelf
theorem is7_calls (s : ByteArray) (hs : s.size ≤ 140737488351232) (w : World) :
  Calls Tryz.prog 81 #[.string s] w fun e w' => ∃ g, w.heap.size ≤ g ∧ e = .returned (.slice (some ⟨g, 0, none⟩) s.size s.size) ∧ At w' g (boolCells s.size (markS s)) 4 ∧ Below w.heap.size w w' := by
 go_enter Tryz.func81, Tryz.ntmps81
 go_wp2_with fail
 refine Calls.mono (marks7_calls s hs w) ?_
 rintro e w1 ⟨g, hg, rfl, hA, hb⟩
 have hA' := hid hA
 clear hA
 go_wp2
 go_ret
 exact ⟨g, hg, rfl, hA'.out, hb⟩
theorem in7_calls (s : ByteArray) (hs : s.size ≤ 140737488351232) (w : World) :
  Calls Tryz.prog 82 #[.string s] w fun e w' => ∃ g, w.heap.size ≤ g ∧ e = .returned (.slice (some ⟨g, 0, none⟩) s.size s.size) ∧ At w' g (boolCells s.size (inS s)) 4 ∧ Below w.heap.size w w' := by
 go_enter Tryz.func82, Tryz.ntmps82
 go_wp2_with fail
 refine Calls.mono (inside7_calls s hs w) ?_
 rintro e w1 ⟨g, hg, rfl, hA, hb⟩
 have hA' := hid hA
 clear hA
 go_wp2
 go_ret
 exact ⟨g, hg, rfl, hA'.out, hb⟩
set_option maxRecDepth 10000 in
set_option maxHeartbeats 2000000 in
theorem outside_calls (s : ByteArray) (hs : s.size ≤ 140737488351232) (w : World) :
  Calls Tryz.prog 55 #[.string s] w fun e w' => ∃ g, w.heap.size ≤ g ∧ e = .returned (.slice (some ⟨g, 0, none⟩) s.size s.size) ∧ At w' g (boolCells s.size (outS s)) 4 ∧ Below w.heap.size w w' := by
 have hmk := fun u => make_bools47 s.size hs u
 have hsi : (s.size : Int) ≤ 140737488351232 := by omega
 have hs' := hid hs
 clear hs
 go_enter Tryz.func55, Tryz.ntmps55
 go_wp2_with fail
 refine Calls.mono (is7_calls s hs'.out w) ?_
 rintro e w1 ⟨g1, hg1, rfl, hA1, hb1⟩
 have hA1' := hid hA1
 have hb1' := hid hb1
 clear hA1 hb1
 go_wp2_with fail
 refine Calls.mono (in7_calls s hs'.out w1) ?_
 rintro e w2 ⟨g2, hg2, rfl, hA2, hb2⟩
 have hM2 := hid (hA1'.out.keptAll hb2)
 have hI2 := hid hA2
 have hB2 := hid (hb1'.out.trans (hb2.mono hb1'.out.size))
 have hl1 := hid (hA1'.out.keptAll hb2).lt
 have hl2 := hid hA2.lt
 clear hA2 hb2 hA1' hb1'
 go_wp2
 go_loopw [6] (fun ii wr => ∃ i : Nat, i ≤ s.size ∧ ii = .int .i64 (i : Int) ∧ At wr w2.heap.size (boolCells s.size (fun j => if j < i then outS s j else false)) 4 ∧ Hid (Below w2.heap.size w2 wr)) (fun ii _ => s.size - (intOf ii).toNat)
 case atStart =>
  refine ⟨0, Nat.zero_le _, rfl, ?_, by show Below _ _ _; repeat (first | with_reducible exact Below.refl _ _ | with_reducible refine Below.setCell ?_ (by first | (simp; done) | (simp; omega)) _ | with_reducible refine below_drewN ?_ _ | with_reducible refine Below.alloc ?_ (by first | (simp; done) | (simp; omega)) _ | with_reducible refine Below.drew ?_)⟩
  rw [show boolCells s.size (fun j => if j < 0 then outS s j else false) = boolCells s.size (fun _ => false) from boolCells_congr (fun j _ => by rw [if_neg (by omega)])]
  exact At.new w2 _ _
 case round =>
  obtain ⟨i, hi, rfl, hA, hb⟩ := hrel
  by_cases hlt : i < s.size
  ·have hli : (i : Int) < (s.size : Int) := by omega
   have m1 := (hM2.out.kept hb.out hl1.out).cell i
   have m2 := (hI2.out.kept hb.out hl2.out).cell i
   rw [boolCells_get _ hlt] at m1 m2
   have hcell := hA.cell i
   rw [boolCells_get _ hlt] at hcell
   have hfr := hA.frozen i
   have hA' := hid hA
   obtain ⟨M, hM⟩ : ∃ M, Hid (markS s i = M) := ⟨_, rfl⟩
   obtain ⟨I, hI⟩ : ∃ I, Hid (inS s i = I) := ⟨_, rfl⟩
   rw [hM.out] at m1
   rw [hI.out] at m2
   have fin : Hid (∀ m, (!M && !I) = m → At (wr.setCell ⟨w2.heap.size, i, none⟩ (.bool m)) w2.heap.size (boolCells s.size (fun j => if j < i + 1 then outS s j else false)) 4) := fun m hm => by
    have hmo : outS s i = m := by unfold outS; rw [decide_eq_true hlt, hM.out, hI.out, Bool.true_and]; exact hm
    have h := hA'.out.set i (.bool m)
    rw [boolCells_set] at h
    rw [show boolCells s.size (fun j => if j < i + 1 then outS s j else false) = boolCells s.size (fun j => if j = i then m else if j < i then outS s j else false) from boolCells_congr (fun j _ => by
     by_cases hj : j = i
     ·rw [if_pos (by omega), if_pos hj, hj, hmo]
     ·rw [if_neg hj]
      by_cases hl : j < i
      ·rw [if_pos (by omega), if_pos hl]
      ·rw [if_neg (by omega), if_neg hl])]
    exact h
   clear hmk hA
   cases M <;> cases I
   all_goals go_wp2
   all_goals go_roundw
   all_goals first
    | exact ⟨i + 1, by omega, by go_num, fin.out _ rfl, hb.out.setCell (p := ⟨w2.heap.size, i, none⟩) (Nat.le_refl _) _⟩
    | (simp [intOf]; omega)
  ·have hie : i = s.size := by omega
   subst hie
   go_wp2
   go_ret
   refine ⟨w2.heap.size, hB2.out.size, rfl, ?_, hB2.out.trans (hb.out.mono hB2.out.size)⟩
   rw [show boolCells s.size (outS s) = boolCells s.size (fun j => if j < s.size then outS s j else false) from boolCells_congr (fun j hj => by rw [if_pos hj])]
   exact hA
/-- The depths ahead of the first n places. -/
def depLv (s : ByteArray) (n : Nat) : List Nat := (List.range n).map (depS s)
theorem depL_succ (s : ByteArray) (n : Nat) : depLv s (n + 1) = depLv s n ++ [depS s n] := by simp [depLv, List.range_succ]
theorem depL_len (s : ByteArray) (n : Nat) : (depLv s n).length = n := by simp [depLv]
theorem depL_get {s : ByteArray} {n i : Nat} (h : i < n) : (depLv s n)[i]? = some (depS s i) := by simp [depLv, h]
theorem infoL10 : (Tryz.prog.info? 3).map (fun i => (i.zero, i.size, i.bytes)) = some (some (.int .i64 0), 1, 8) := by kernel_rfl
theorem refOpens_calls (x : Nat) (O : Bool) (hO : Hid (opB x = O)) (w : World) : Calls Tryz.prog 56 #[.int .u8 (x : Int)] w fun e w' => e = .returned (.bool O) ∧ w' = w := by
 have h := hO.out
 go_enter Tryz.func56, Tryz.ntmps56
 by_cases h1 : x = 123
 ·subst h1
  have : O = true := by rw [← h]; rfl
  subst this
  go_wp2
  go_ret
  exact ⟨rfl, rfl⟩
 ·by_cases h2 : x = 91
  ·subst h2
   have : O = true := by rw [← h]; rfl
   subst this
   go_wp2
   go_ret
   exact ⟨rfl, rfl⟩
  ·have e1 : ((x : Int) == 123) = false := by simp; omega
   have e2 : ((x : Int) == 91) = false := by simp; omega
   have : O = false := by rw [← h]; unfold opB; simp [h1, h2]
   subst this
   clear h
   go_wp2
   go_ret
   exact ⟨rfl, rfl⟩
theorem refCloses_calls (x : Nat) (O : Bool) (hO : Hid (clB x = O)) (w : World) : Calls Tryz.prog 57 #[.int .u8 (x : Int)] w fun e w' => e = .returned (.bool O) ∧ w' = w := by
 have h := hO.out
 go_enter Tryz.func57, Tryz.ntmps57
 by_cases h1 : x = 125
 ·subst h1
  have : O = true := by rw [← h]; rfl
  subst this
  go_wp2
  go_ret
  exact ⟨rfl, rfl⟩
 ·by_cases h2 : x = 93
  ·subst h2
   have : O = true := by rw [← h]; rfl
   subst this
   go_wp2
   go_ret
   exact ⟨rfl, rfl⟩
  ·have e1 : ((x : Int) == 125) = false := by simp; omega
   have e2 : ((x : Int) == 93) = false := by simp; omega
   have : O = false := by rw [← h]; unfold clB; simp [h1, h2]
   subst this
   clear h
   go_wp2
   go_ret
   exact ⟨rfl, rfl⟩
/-- A list of one number, laid anew. -/
theorem rowI1_new (w : World) (B : Nat) (hB : B ≤ w.heap.size) : (w.alloc (.cells #[.int .i64 0] 3)).ownsRow B 3 1 (.slice (some ⟨w.heap.size, 0, none⟩) 1 1) 1 (ints [0]) :=
 ⟨rfl, .inr ⟨w.heap.size, 1, #[.int .i64 0], rfl, hB, At.new w _ _, Nat.le_refl _, by unfold maxLen; decide, rfl, by simp [ints]⟩⟩
set_option maxRecDepth 10000 in
set_option maxHeartbeats 4000000 in
theorem depths_calls (s : ByteArray) (hs : s.size ≤ 1099511627776) (w : World) :
  Calls Tryz.prog 36 #[.string s] w fun e w' => ∃ v, e = .returned v ∧ w'.ownsRow w.heap.size 3 1 v (s.size + 1) (ints (depLv s (s.size + 1))) ∧ Below w.heap.size w w' := by
 obtain ⟨i0, hi0, hz0, hz1, hz2⟩ := info_parts infoL10
 have hsi : (s.size : Int) ≤ 1099511627776 := by omega
 have ho := hid (outside_calls s (by omega) w)
 have hdl := hid (depS_le s)
 go_enter Tryz.func36, Tryz.ntmps36
 go_wp2_with fail
 refine Calls.mono ho.out ?_
 rintro e w1 ⟨g, hg, rfl, hA, hb1⟩
 have hA' := hid hA
 have hb1' := hid hb1
 clear hA hb1 ho
 go_wp2
 go_loopw [4, 5, 6] (fun v dd ii wr => ∃ i : Nat, i ≤ s.size ∧ ii = .int .i64 (i : Int) ∧ dd = .int .i64 ((depS s i : Nat) : Int) ∧ Hid (wr.ownsRow w1.heap.size 3 1 v (i + 1) (ints (depLv s (i + 1)))) ∧ Hid (Below w1.heap.size w1 wr)) (fun _ _ ii _ => s.size - (intOf ii).toNat)
 case atStart => exact ⟨0, Nat.zero_le _, rfl, rfl, rowI1_new w1 _ (Nat.le_refl _), by show Below _ _ _; repeat (first | with_reducible exact Below.refl _ _ | with_reducible refine Below.setCell ?_ (by first | (simp; done) | (simp; omega)) _ | with_reducible refine below_drewN ?_ _ | with_reducible refine Below.alloc ?_ (by first | (simp; done) | (simp; omega)) _ | with_reducible refine Below.drew ?_)⟩
 case round =>
  obtain ⟨i, hiN, rfl, rfl, hown, hb⟩ := hrel
  have hbz := hb.out.size
  by_cases hlt : i < s.size
  ·have hli : (i : Int) < (s.size : Int) := by omega
   have m1 := (hA'.out.keptAll hb.out).cell i
   rw [boolCells_get _ hlt] at m1
   obtain ⟨o, hoe⟩ : ∃ o, Hid (outS s i = o) := ⟨_, rfl⟩
   rw [hoe.out] at m1
   obtain ⟨d, hd⟩ : ∃ d, Hid (depS s i = d) := ⟨_, rfl⟩
   have hdz : d ≤ 1099511627776 := by have := hdl.out i; rw [hd.out] at this; omega
   rw [hd.out]
   have hxx := byteAt_num s i hlt
   obtain ⟨x, hx⟩ : ∃ x, Hid (byteAt s i = x) := ⟨_, rfl⟩
   rw [hx.out] at hxx
   obtain ⟨O, hO⟩ : ∃ O, Hid (opB x = O) := ⟨_, rfl⟩
   obtain ⟨C, hC⟩ : ∃ C, Hid (clB x = C) := ⟨_, rfl⟩
   have hst0 : Hid (depS s (i + 1) = stepD (o && O) (o && C) d) := by show _ = _; rw [depS_succ, hd.out]; unfold brO brC; rw [hoe.out, hx.out, hO.out, hC.out]
   cases o
   ·have hst : Hid (depS s (i + 1) = d) := hst0.out
    clear hst0
    go_wp2_with (first
     | (at_builtin; refine wpList_append_own _ rfl _ _ 57 rfl w1.heap.size 3 i0 (.int .i64 0) 1 8 Tryz.underlying57 hi0 hz0 hz1 hz2 rfl (by decide) _ _ _ rfl (World.ownsRow.alloc hown.out _) ⟨wr.heap.size, 0, none⟩ 1 1 [.int .i64 (d : Int)] rfl rfl (fun j u hj => by match j, hj with | 0, hj => simp at hj; subst hj; simp [Addr.add]) (fun u hu => by simp at hu; subst hu; rfl) (by unfold maxLen; omega) (by omega) (by simp; omega) ?_)
     | go_in)
    intro v' wn hown1 hgrow _
    have hbn := hid ((hb.out.alloc hb.out.size (.cells #[.int .i64 (d : Int)] 3)).grown hgrow (by simp; omega) (fun b e => by have := (hown.out.lt b e).1; omega))
    have hown2 : Hid (wn.ownsRow w1.heap.size 3 1 v' (i + 1 + 1) (ints (depLv s (i + 1 + 1)))) := by
     show World.ownsRow _ _ _ _ _ _ _
     rw [depL_succ, ints_snoc, hst.out]
     exact hown1
    clear hgrow hown1 hown
    go_wp2
    go_roundw
    case rel => exact ⟨i + 1, by omega, by go_num, by rw [hst.out], hown2, hbn⟩
    case measure => simp [intOf]; omega
   ·go_wp2_with fail
    refine Calls.mono (refOpens_calls x O hO _) ?_
    rintro e w3 ⟨rfl, h3⟩
    obtain rfl := h3.symm
    cases O
    ·go_wp2_with fail
     refine Calls.mono (refCloses_calls x C hC _) ?_
     rintro e w4 ⟨rfl, h4⟩
     obtain rfl := h4.symm
     cases C
     ·have hst : Hid (depS s (i + 1) = d) := hst0.out
      clear hst0
      go_wp2_with (first
       | (at_builtin; refine wpList_append_own _ rfl _ _ 57 rfl w1.heap.size 3 i0 (.int .i64 0) 1 8 Tryz.underlying57 hi0 hz0 hz1 hz2 rfl (by decide) _ _ _ rfl (World.ownsRow.alloc hown.out _) ⟨wr.heap.size, 0, none⟩ 1 1 [.int .i64 (d : Int)] rfl rfl (fun j u hj => by match j, hj with | 0, hj => simp at hj; subst hj; simp [Addr.add]) (fun u hu => by simp at hu; subst hu; rfl) (by unfold maxLen; omega) (by omega) (by simp; omega) ?_)
       | go_in)
      intro v' wn hown1 hgrow _
      have hbn := hid ((hb.out.alloc hb.out.size (.cells #[.int .i64 (d : Int)] 3)).grown hgrow (by simp; omega) (fun b e => by have := (hown.out.lt b e).1; omega))
      have hown2 : Hid (wn.ownsRow w1.heap.size 3 1 v' (i + 1 + 1) (ints (depLv s (i + 1 + 1)))) := by
       show World.ownsRow _ _ _ _ _ _ _
       rw [depL_succ, ints_snoc, hst.out]
       exact hown1
      clear hgrow hown1 hown
      go_wp2
      go_roundw
      case rel => exact ⟨i + 1, by omega, by go_num, by rw [hst.out], hown2, hbn⟩
      case measure => simp [intOf]; omega
     ·by_cases hd0 : 0 < d
      ·have hst : Hid (((depS s (i + 1) : Nat) : Int) = (d : Int) - 1) := by show _ = _; rw [hst0.out]; simp [stepD]; omega
       have hdi : (0 : Int) < (d : Int) := by omega
       clear hst0
       go_wp2_with (first
        | (at_builtin; refine wpList_append_own _ rfl _ _ 57 rfl w1.heap.size 3 i0 (.int .i64 0) 1 8 Tryz.underlying57 hi0 hz0 hz1 hz2 rfl (by decide) _ _ _ rfl (World.ownsRow.alloc hown.out _) ⟨wr.heap.size, 0, none⟩ 1 1 [.int .i64 ((d : Int) - 1)] rfl rfl (fun j u hj => by match j, hj with | 0, hj => simp at hj; subst hj; simp [Addr.add]) (fun u hu => by simp at hu; subst hu; rfl) (by unfold maxLen; omega) (by omega) (by simp; omega) ?_)
        | go_in)
       intro v' wn hown1 hgrow _
       have hbn := hid ((hb.out.alloc hb.out.size (.cells #[.int .i64 ((d : Int) - 1)] 3)).grown hgrow (by simp; omega) (fun b e => by have := (hown.out.lt b e).1; omega))
       have hown2 : Hid (wn.ownsRow w1.heap.size 3 1 v' (i + 1 + 1) (ints (depLv s (i + 1 + 1)))) := by
        show World.ownsRow _ _ _ _ _ _ _
        rw [depL_succ, ints_snoc, hst.out]
        exact hown1
       clear hgrow hown1 hown
       go_wp2
       go_roundw
       case rel => exact ⟨i + 1, by omega, by go_num, by rw [hst.out], hown2, hbn⟩
       case measure => simp [intOf]; omega
      ·have hst : Hid (depS s (i + 1) = d) := by show _ = _; rw [hst0.out]; simp [stepD]; omega
       have hdi : d = 0 := by omega
       subst hdi
       clear hst0
       go_wp2_with (first
        | (at_builtin; refine wpList_append_own _ rfl _ _ 57 rfl w1.heap.size 3 i0 (.int .i64 0) 1 8 Tryz.underlying57 hi0 hz0 hz1 hz2 rfl (by decide) _ _ _ rfl (World.ownsRow.alloc hown.out _) ⟨wr.heap.size, 0, none⟩ 1 1 [.int .i64 0] rfl rfl (fun j u hj => by match j, hj with | 0, hj => simp at hj; subst hj; simp [Addr.add]) (fun u hu => by simp at hu; subst hu; rfl) (by unfold maxLen; omega) (by omega) (by simp; omega) ?_)
        | go_in)
       intro v' wn hown1 hgrow _
       have hbn := hid ((hb.out.alloc hb.out.size (.cells #[.int .i64 0] 3)).grown hgrow (by simp; omega) (fun b e => by have := (hown.out.lt b e).1; omega))
       have hown2 : Hid (wn.ownsRow w1.heap.size 3 1 v' (i + 1 + 1) (ints (depLv s (i + 1 + 1)))) := by
        show World.ownsRow _ _ _ _ _ _ _
        rw [depL_succ, ints_snoc, hst.out]
        exact hown1
       clear hgrow hown1 hown
       go_wp2
       go_roundw
       case rel => exact ⟨i + 1, by omega, by go_num, by rw [hst.out]; rfl, hown2, hbn⟩
       case measure => simp [intOf]; omega
    ·have hCf : C = false := by rw [← hC.out]; exact op_cl hO.out
     subst hCf
     have hst : Hid (((depS s (i + 1) : Nat) : Int) = (d : Int) + 1) := by show _ = _; rw [hst0.out]; simp [stepD]
     clear hst0
     go_wp2_with fail
     refine Calls.mono (refCloses_calls x false hC _) ?_
     rintro e w4 ⟨rfl, h4⟩
     obtain rfl := h4.symm
     go_wp2_with (first
      | (at_builtin; refine wpList_append_own _ rfl _ _ 57 rfl w1.heap.size 3 i0 (.int .i64 0) 1 8 Tryz.underlying57 hi0 hz0 hz1 hz2 rfl (by decide) _ _ _ rfl (World.ownsRow.alloc hown.out _) ⟨wr.heap.size, 0, none⟩ 1 1 [.int .i64 ((d : Int) + 1)] rfl rfl (fun j u hj => by match j, hj with | 0, hj => simp at hj; subst hj; simp [Addr.add]) (fun u hu => by simp at hu; subst hu; rfl) (by unfold maxLen; omega) (by omega) (by simp; omega) ?_)
      | go_in)
     intro v' wn hown1 hgrow _
     have hbn := hid ((hb.out.alloc hb.out.size (.cells #[.int .i64 ((d : Int) + 1)] 3)).grown hgrow (by simp; omega) (fun b e => by have := (hown.out.lt b e).1; omega))
     have hown2 : Hid (wn.ownsRow w1.heap.size 3 1 v' (i + 1 + 1) (ints (depLv s (i + 1 + 1)))) := by
      show World.ownsRow _ _ _ _ _ _ _
      rw [depL_succ, ints_snoc, hst.out]
      exact hown1
     clear hgrow hown1 hown
     go_wp2
     go_roundw
     case rel => exact ⟨i + 1, by omega, by go_num, by rw [hst.out], hown2, hbn⟩
     case measure => simp [intOf]; omega
  ·have hie : i = s.size := by omega
   subst hie
   go_wp2
   go_ret
   exact ⟨_, rfl, row_base hown.out hb1'.out.size, hb1'.out.trans (hb.out.mono hb1'.out.size)⟩
/-- The list of the depths, read. -/
theorem depL_row {w : World} {B : Nat} {v : Value} {s : ByteArray} {n : Nat} (h : w.ownsRow B 3 1 v (n + 1) (ints (depLv s (n + 1)))) : ∃ g cap, v = .slice (some ⟨g, 0, none⟩) (n + 1) cap ∧ g < w.heap.size ∧ ∀ i, i ≤ n → w.cell? ⟨g, i, none⟩ = some (.int .i64 ((depS s i : Nat) : Int)) := by
 obtain ⟨g, cap, rfl⟩ := row_succ h
 have hh : w.ownsRow B 3 1 (.slice (some ⟨g, 0, none⟩) (n + 1) cap) (depLv s (n + 1)).length (ints (depLv s (n + 1))) := by rw [depL_len]; exact h
 obtain ⟨ao, cap', hv, hc⟩ := lst_of_row hh
 obtain ⟨g0, e0, -, hg, -⟩ := hc 0 _ (depL_get (by omega))
 rw [e0, depL_len] at hv
 cases hv
 refine ⟨g, cap, rfl, hg, fun i hi => ?_⟩
 obtain ⟨g1, e1, -, -, c1⟩ := hc i _ (depL_get (by omega))
 rw [e0] at e1
 cases e1
 exact c1
end Go.Proofs.YtkejlejhnnjdkaaGreatDoor
