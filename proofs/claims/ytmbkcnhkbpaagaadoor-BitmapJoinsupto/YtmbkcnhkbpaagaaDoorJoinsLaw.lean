/-
  The walk of quarrylaw04.BitmapJoins.
-/
import Derived.Test.YtmbkcnhkbpaagaaDoorLawKit
import Derived.Test.YtmbkcnhkbpaagaaDoorJoinLent
import Derived.Test.YtmbkcnhkbpaagaaDoorRefBoth
import Derived.Test.YtmbkcnhkbpaagaaDoorJoinGives
namespace Go.Proofs.YtmbkcnhkbpaagaaDoor
open Go.RowKit Go.Shelf

set_option maxRecDepth 10000 in
set_option maxHeartbeats 8000000 in
theorem bitmapJoins_walk (n : Int) (ao : Option Addr) (k cap : Nat) (X : Nat → Nat) (hn : (Lit.int .i64 n).wf = true) (hk : k ≤ 1048576) (m : Int) (bo : Option Addr) (l cap' : Nat) (Y : Nat → Nat) (hm : (Lit.int .i64 m).wf = true) (hl : l ≤ 1048576)
    (w : World) (hT : Tab w) (h0 : 0 < w.heap.size) (hW : Wds w ao k X) (hV : Wds w bo l Y) :
    Calls Tryd.prog 3 #[bv n ao k cap, bv m bo l cap'] w fun e w' => e = .returned (.bool true) ∧ Below w.heap.size w w' := by
  obtain ⟨E, q, r, hE⟩ := joinE_ex n m k l X Y
  obtain ⟨hq, hr⟩ := joinE_wf hE hn
  have hE' := hid hE
  have eE : (E != E) = false := by simp
  have eE2 : (E == E) = true := by simp
  have hX := hid (fun j hj => (hW j hj).1)
  have hY := hid (fun j hj => (hV j hj).1)
  have hW' := hid hW
  have hV' := hid hV
  have hT' := hid hT
  have hq' := hid hq
  have hn' := hid hn
  have hm' := hid hm
  have hl1 : Hid _ := fun (w1 : World) (hb : Below w.heap.size w w1) => lentB_calls n ao k cap X (by omega) w1 (hW.kept hb)
  have hl2 : Hid _ := fun (w1 : World) (hb : Below w.heap.size w w1) => lentB_calls m bo l cap' Y (by omega) w1 (hV.kept hb)
  clear hE hW hT hq hn hm hV
  have A0 : Hid (PairS w n m ao bo k l cap cap' ((w.alloc (.cells #[.int .i64 n, .slice ao k cap] 24)).alloc (.cells #[.int .i64 m, .slice bo l cap'] 24))) := by
    refine pairS_mk ((At.new w _ _).alloc _) ?_ (by repeat (first | with_reducible exact Below.refl _ _ | with_reducible refine Below.setCell ?_ (by first | (simp; done) | (simp; omega)) _ | with_reducible refine below_drewN ?_ _ | with_reducible refine Below.alloc ?_ (by first | (simp; done) | (simp; omega)) _ | with_reducible refine Below.drew ?_))
    have := At.new (w.alloc (.cells #[.int .i64 n, .slice ao k cap] 24)) #[.int .i64 m, .slice bo l cap'] 24
    simpa using this
  go_enter Tryd.func3, Tryd.ntmps3
  go_upto_region 1 with fail
  go_cut [5, 6] from 11 to 14 (fun px py wx => LentTwo w n m ao bo k l cap cap' X Y px py wx)
  case first =>
    refine wp_region_held_drew (S := fun w' => PairS w n m ao bo k l cap cap' w') (by kernel_rfl) (A0.out.kept (by repeat (first | with_reducible exact Below.refl _ _ | with_reducible refine Below.setCell ?_ (by first | (simp; done) | (simp; omega)) _ | with_reducible refine below_drewN ?_ _ | with_reducible refine Below.alloc ?_ (by first | (simp; done) | (simp; omega)) _ | with_reducible refine Below.drew ?_))) (fun hH0 => ?_)
    clear A0
    simp only [PairS]
    (refine' wpAnyH_take (i := 0) rfl (by kernel_rfl) (by kernel_rfl) (by kernel_rfl) (fun _ _ _ h => h) (Or.inl ⟨by rfl, ?_⟩) (by assumption) ?_; rotate_left; (· (intro wq hq; (try dsimp only at hq); go_simp; first | done | with_reducible rfl)); simp only [Act.put, List.getElem_toArray, List.getElem_cons_zero, List.setIfInBounds_toArray, List.set_cons_zero, List.set_cons_succ])
    (refine' wpAnyH_take (i := 2) rfl (by kernel_rfl) (by kernel_rfl) (by kernel_rfl) (fun _ _ _ h => h) (Or.inl ⟨by rfl, ?_⟩) (by assumption) ?_; rotate_left; (· (intro wq hq; (try dsimp only at hq); go_simp; first | done | with_reducible rfl)); simp only [Act.put, List.getElem_toArray, List.getElem_cons_zero, List.getElem_cons_succ, List.setIfInBounds_toArray, List.set_cons_zero, List.set_cons_succ])
    refine wpAnyH_ready (rs := [1, 4, 5]) (by kernel_rfl) (by simp) ?_
    refine AllReadyH.cons rfl (fun K hK => ?_) ?_
    · go_simp
      (go_at_call 7; refine Calls.mono (hl1.out _ (hH0).2.2.2) ?_; rintro e wz1 ⟨g, c, rfl, hg, hL, hb⟩; (try dsimp only))
      refine hK.out _ _ (PairS.kept hH0 hb) (fun hH1 => ?_)
      have hz1 : w.heap.size + 2 ≤ wz1.heap.size := (hH1).2.2.1.lt
      have L1 := hid hL
      clear hK hg hL hb hH0
      refine wpAnyH_ready (rs := [3, 4, 5]) (by kernel_rfl) (by simp) ?_
      refine AllReadyH.cons rfl (fun K hK => ?_) ?_
      · go_simp
        (go_at_call 7; refine Calls.mono (hl2.out _ (hH1).2.2.2) ?_; rintro e wz2 ⟨g2, c2, rfl, hg, hL, hb⟩; (try dsimp only))
        refine hK.out _ _ (PairS.kept hH1 hb) (fun hH2 => ?_)
        have hz2 : w.heap.size + 2 ≤ wz2.heap.size := (hH2).2.2.1.lt
        replace L1 := hid (LentW.kept (L1.out) hb)
        have L2 := hid hL
        clear hK hg hL hb hH1
        refine wpAnyH_ready (rs := [4, 5]) (by kernel_rfl) (by simp) ?_
        refine AllReadyH.cons rfl (fun K hK => ?_) ?_
        · go_simp
          have al := below_new wz2 (.cells #[.int .i64 0, .slice none 0 0] 24)
          refine hK.out _ _ (PairS.kept hH2 al) (fun hH3 => ?_)
          replace L1 := hid (LentW.kept (L1.out) al)
          replace L2 := hid (LentW.kept (L2.out) al)
          have a4 := hid (show At (wz2.alloc (.cells #[.int .i64 0, .slice none 0 0] 24)) (wz2.heap.size) #[.int .i64 0, .slice none 0 0] 24 from by have h := At.new wz2 #[.int .i64 0, .slice none 0 0] 24; simpa using h)
          clear hK al hH2
          refine wpAnyH_ready (rs := [5]) (by kernel_rfl) (by simp) ?_
          refine AllReadyH.cons rfl (fun K hK => ?_) ?_
          · go_simp
            have al := below_new (wz2.alloc (.cells #[.int .i64 0, .slice none 0 0] 24)) (.cells #[.int .i64 0, .slice none 0 0] 24)
            refine hK.out _ _ (PairS.kept hH3 al) (fun hH4 => ?_)
            replace L1 := hid (LentW.kept (L1.out) al)
            replace L2 := hid (LentW.kept (L2.out) al)
            replace a4 := hid (At.keptAll (a4.out) al)
            have a5 := hid (show At ((wz2.alloc (.cells #[.int .i64 0, .slice none 0 0] 24)).alloc (.cells #[.int .i64 0, .slice none 0 0] 24)) (wz2.heap.size + 1) #[.int .i64 0, .slice none 0 0] 24 from by have h := At.new (wz2.alloc (.cells #[.int .i64 0, .slice none 0 0] 24)) #[.int .i64 0, .slice none 0 0] 24; simpa using h)
            clear hK al hH3
            have hS := hid (show PairS w n m ao bo k l cap cap' ((wz2.alloc (.cells #[.int .i64 0, .slice none 0 0] 24)).alloc (.cells #[.int .i64 0, .slice none 0 0] 24)) from hH4)
            clear hH4
            generalize ((wz2.alloc (.cells #[.int .i64 0, .slice none 0 0] 24)).alloc (.cells #[.int .i64 0, .slice none 0 0] 24)) = Wz at *
            obtain ⟨c4, c5, f4, f5⟩ := (a4.out).facts
            obtain ⟨c6, c7, f6, f7⟩ := (a5.out).facts
            have hpq : Hid (wz2.heap.size ≠ wz2.heap.size + 1) := by show _ ≠ _; omega
            have hq4 : Hid (w.heap.size + 2 ≤ wz2.heap.size) := by show _ ≤ _; omega
            have hq5 : Hid (w.heap.size + 2 ≤ wz2.heap.size + 1) := by show _ ≤ _; omega
            refine wpAnyH_ready (rs := [6]) (by kernel_rfl) (by simp) ?_
            refine AllReadyH.cons rfl (fun K hK => ?_) ?_
            · go_simp
              refine hK.out _ _ (hS.out.put hq4.out _ _) (fun hH6 => ?_)
              clear hK hH6
              refine wpAnyH_ready (rs := [7]) (by kernel_rfl) (by simp) ?_
              refine AllReadyH.cons rfl (fun K hK => ?_) ?_
              · go_simp
                refine hK.out _ _ ((hS.out.put hq4.out _ _).put hq5.out _ _) (fun hH7 => ?_)
                clear hK hH7
                refine wpAnyH_done (by kernel_rfl) ?_ _
                go_wp2
                go_meet
                case rel => exact lentTwo_mk hS.out L1.out L2.out a4.out a5.out hq4.out hq5.out hpq.out
              · exact AllReadyH.nil
            · exact AllReadyH.nil
          · exact AllReadyH.nil
        · refine AllReadyH.cons rfl (fun K hK => ?_) ?_
          · go_simp
            have al := below_new wz2 (.cells #[.int .i64 0, .slice none 0 0] 24)
            refine hK.out _ _ (PairS.kept hH2 al) (fun hH5 => ?_)
            replace L1 := hid (LentW.kept (L1.out) al)
            replace L2 := hid (LentW.kept (L2.out) al)
            have a5 := hid (show At (wz2.alloc (.cells #[.int .i64 0, .slice none 0 0] 24)) (wz2.heap.size) #[.int .i64 0, .slice none 0 0] 24 from by have h := At.new wz2 #[.int .i64 0, .slice none 0 0] 24; simpa using h)
            clear hK al hH2
            refine wpAnyH_ready (rs := [4]) (by kernel_rfl) (by simp) ?_
            refine AllReadyH.cons rfl (fun K hK => ?_) ?_
            · go_simp
              have al := below_new (wz2.alloc (.cells #[.int .i64 0, .slice none 0 0] 24)) (.cells #[.int .i64 0, .slice none 0 0] 24)
              refine hK.out _ _ (PairS.kept hH5 al) (fun hH6 => ?_)
              replace L1 := hid (LentW.kept (L1.out) al)
              replace L2 := hid (LentW.kept (L2.out) al)
              replace a5 := hid (At.keptAll (a5.out) al)
              have a4 := hid (show At ((wz2.alloc (.cells #[.int .i64 0, .slice none 0 0] 24)).alloc (.cells #[.int .i64 0, .slice none 0 0] 24)) (wz2.heap.size + 1) #[.int .i64 0, .slice none 0 0] 24 from by have h := At.new (wz2.alloc (.cells #[.int .i64 0, .slice none 0 0] 24)) #[.int .i64 0, .slice none 0 0] 24; simpa using h)
              clear hK al hH5
              have hS := hid (show PairS w n m ao bo k l cap cap' ((wz2.alloc (.cells #[.int .i64 0, .slice none 0 0] 24)).alloc (.cells #[.int .i64 0, .slice none 0 0] 24)) from hH6)
              clear hH6
              generalize ((wz2.alloc (.cells #[.int .i64 0, .slice none 0 0] 24)).alloc (.cells #[.int .i64 0, .slice none 0 0] 24)) = Wz at *
              obtain ⟨c4, c5, f4, f5⟩ := (a4.out).facts
              obtain ⟨c6, c7, f6, f7⟩ := (a5.out).facts
              have hpq : Hid (wz2.heap.size + 1 ≠ wz2.heap.size) := by show _ ≠ _; omega
              have hq4 : Hid (w.heap.size + 2 ≤ wz2.heap.size + 1) := by show _ ≤ _; omega
              have hq5 : Hid (w.heap.size + 2 ≤ wz2.heap.size) := by show _ ≤ _; omega
              refine wpAnyH_ready (rs := [6]) (by kernel_rfl) (by simp) ?_
              refine AllReadyH.cons rfl (fun K hK => ?_) ?_
              · go_simp
                refine hK.out _ _ (hS.out.put hq4.out _ _) (fun hH6 => ?_)
                clear hK hH6
                refine wpAnyH_ready (rs := [7]) (by kernel_rfl) (by simp) ?_
                refine AllReadyH.cons rfl (fun K hK => ?_) ?_
                · go_simp
                  refine hK.out _ _ ((hS.out.put hq4.out _ _).put hq5.out _ _) (fun hH7 => ?_)
                  clear hK hH7
                  refine wpAnyH_done (by kernel_rfl) ?_ _
                  go_wp2
                  go_meet
                  case rel => exact lentTwo_mk hS.out L1.out L2.out a4.out a5.out hq4.out hq5.out hpq.out
                · exact AllReadyH.nil
              · exact AllReadyH.nil
            · exact AllReadyH.nil
          · exact AllReadyH.nil
      · refine AllReadyH.cons rfl (fun K hK => ?_) ?_
        · go_simp
          have al := below_new wz1 (.cells #[.int .i64 0, .slice none 0 0] 24)
          refine hK.out _ _ (PairS.kept hH1 al) (fun hH7 => ?_)
          replace L1 := hid (LentW.kept (L1.out) al)
          have a4 := hid (show At (wz1.alloc (.cells #[.int .i64 0, .slice none 0 0] 24)) (wz1.heap.size) #[.int .i64 0, .slice none 0 0] 24 from by have h := At.new wz1 #[.int .i64 0, .slice none 0 0] 24; simpa using h)
          clear hK al hH1
          refine wpAnyH_ready (rs := [3, 5]) (by kernel_rfl) (by simp) ?_
          refine AllReadyH.cons rfl (fun K hK => ?_) ?_
          · go_simp
            (go_at_call 7; refine Calls.mono (hl2.out _ (hH7).2.2.2) ?_; rintro e wz8 ⟨g2, c2, rfl, hg, hL, hb⟩; (try dsimp only))
            refine hK.out _ _ (PairS.kept hH7 hb) (fun hH8 => ?_)
            have hz8 : w.heap.size + 2 ≤ wz8.heap.size := (hH8).2.2.1.lt
            replace L1 := hid (LentW.kept (L1.out) hb)
            replace a4 := hid (At.keptAll (a4.out) hb)
            have lt8_a4 := (a4.out).lt
            have L2 := hid hL
            clear hK hg hL hb hH7
            refine wpAnyH_ready (rs := [5]) (by kernel_rfl) (by simp) ?_
            refine AllReadyH.cons rfl (fun K hK => ?_) ?_
            · go_simp
              have al := below_new wz8 (.cells #[.int .i64 0, .slice none 0 0] 24)
              refine hK.out _ _ (PairS.kept hH8 al) (fun hH9 => ?_)
              replace L1 := hid (LentW.kept (L1.out) al)
              replace a4 := hid (At.keptAll (a4.out) al)
              replace L2 := hid (LentW.kept (L2.out) al)
              have a5 := hid (show At (wz8.alloc (.cells #[.int .i64 0, .slice none 0 0] 24)) (wz8.heap.size) #[.int .i64 0, .slice none 0 0] 24 from by have h := At.new wz8 #[.int .i64 0, .slice none 0 0] 24; simpa using h)
              clear hK al hH8
              have hS := hid (show PairS w n m ao bo k l cap cap' (wz8.alloc (.cells #[.int .i64 0, .slice none 0 0] 24)) from hH9)
              clear hH9
              generalize (wz8.alloc (.cells #[.int .i64 0, .slice none 0 0] 24)) = Wz at *
              obtain ⟨c4, c5, f4, f5⟩ := (a4.out).facts
              obtain ⟨c6, c7, f6, f7⟩ := (a5.out).facts
              have hpq : Hid (wz1.heap.size ≠ wz8.heap.size) := by show _ ≠ _; omega
              have hq4 : Hid (w.heap.size + 2 ≤ wz1.heap.size) := by show _ ≤ _; omega
              have hq5 : Hid (w.heap.size + 2 ≤ wz8.heap.size) := by show _ ≤ _; omega
              refine wpAnyH_ready (rs := [6]) (by kernel_rfl) (by simp) ?_
              refine AllReadyH.cons rfl (fun K hK => ?_) ?_
              · go_simp
                refine hK.out _ _ (hS.out.put hq4.out _ _) (fun hH6 => ?_)
                clear hK hH6
                refine wpAnyH_ready (rs := [7]) (by kernel_rfl) (by simp) ?_
                refine AllReadyH.cons rfl (fun K hK => ?_) ?_
                · go_simp
                  refine hK.out _ _ ((hS.out.put hq4.out _ _).put hq5.out _ _) (fun hH7 => ?_)
                  clear hK hH7
                  refine wpAnyH_done (by kernel_rfl) ?_ _
                  go_wp2
                  go_meet
                  case rel => exact lentTwo_mk hS.out L1.out L2.out a4.out a5.out hq4.out hq5.out hpq.out
                · exact AllReadyH.nil
              · exact AllReadyH.nil
            · exact AllReadyH.nil
          · refine AllReadyH.cons rfl (fun K hK => ?_) ?_
            · go_simp
              have al := below_new (wz1.alloc (.cells #[.int .i64 0, .slice none 0 0] 24)) (.cells #[.int .i64 0, .slice none 0 0] 24)
              refine hK.out _ _ (PairS.kept hH7 al) (fun hH10 => ?_)
              replace L1 := hid (LentW.kept (L1.out) al)
              replace a4 := hid (At.keptAll (a4.out) al)
              have a5 := hid (show At ((wz1.alloc (.cells #[.int .i64 0, .slice none 0 0] 24)).alloc (.cells #[.int .i64 0, .slice none 0 0] 24)) (wz1.heap.size + 1) #[.int .i64 0, .slice none 0 0] 24 from by have h := At.new (wz1.alloc (.cells #[.int .i64 0, .slice none 0 0] 24)) #[.int .i64 0, .slice none 0 0] 24; simpa using h)
              clear hK al hH7
              refine wpAnyH_ready (rs := [3]) (by kernel_rfl) (by simp) ?_
              refine AllReadyH.cons rfl (fun K hK => ?_) ?_
              · go_simp
                (go_at_call 7; refine Calls.mono (hl2.out _ (hH10).2.2.2) ?_; rintro e wz11 ⟨g2, c2, rfl, hg, hL, hb⟩; (try dsimp only))
                refine hK.out _ _ (PairS.kept hH10 hb) (fun hH11 => ?_)
                have hz11 : w.heap.size + 2 ≤ wz11.heap.size := (hH11).2.2.1.lt
                replace L1 := hid (LentW.kept (L1.out) hb)
                replace a4 := hid (At.keptAll (a4.out) hb)
                replace a5 := hid (At.keptAll (a5.out) hb)
                have lt11_a4 := (a4.out).lt
                have lt11_a5 := (a5.out).lt
                have L2 := hid hL
                clear hK hg hL hb hH10
                have hS := hid (show PairS w n m ao bo k l cap cap' wz11 from hH11)
                clear hH11
                obtain ⟨c4, c5, f4, f5⟩ := (a4.out).facts
                obtain ⟨c6, c7, f6, f7⟩ := (a5.out).facts
                have hpq : Hid (wz1.heap.size ≠ wz1.heap.size + 1) := by show _ ≠ _; omega
                have hq4 : Hid (w.heap.size + 2 ≤ wz1.heap.size) := by show _ ≤ _; omega
                have hq5 : Hid (w.heap.size + 2 ≤ wz1.heap.size + 1) := by show _ ≤ _; omega
                refine wpAnyH_ready (rs := [6]) (by kernel_rfl) (by simp) ?_
                refine AllReadyH.cons rfl (fun K hK => ?_) ?_
                · go_simp
                  refine hK.out _ _ (hS.out.put hq4.out _ _) (fun hH6 => ?_)
                  clear hK hH6
                  refine wpAnyH_ready (rs := [7]) (by kernel_rfl) (by simp) ?_
                  refine AllReadyH.cons rfl (fun K hK => ?_) ?_
                  · go_simp
                    refine hK.out _ _ ((hS.out.put hq4.out _ _).put hq5.out _ _) (fun hH7 => ?_)
                    clear hK hH7
                    refine wpAnyH_done (by kernel_rfl) ?_ _
                    go_wp2
                    go_meet
                    case rel => exact lentTwo_mk hS.out L1.out L2.out a4.out a5.out hq4.out hq5.out hpq.out
                  · exact AllReadyH.nil
                · exact AllReadyH.nil
              · exact AllReadyH.nil
            · exact AllReadyH.nil
        · refine AllReadyH.cons rfl (fun K hK => ?_) ?_
          · go_simp
            have al := below_new wz1 (.cells #[.int .i64 0, .slice none 0 0] 24)
            refine hK.out _ _ (PairS.kept hH1 al) (fun hH12 => ?_)
            replace L1 := hid (LentW.kept (L1.out) al)
            have a5 := hid (show At (wz1.alloc (.cells #[.int .i64 0, .slice none 0 0] 24)) (wz1.heap.size) #[.int .i64 0, .slice none 0 0] 24 from by have h := At.new wz1 #[.int .i64 0, .slice none 0 0] 24; simpa using h)
            clear hK al hH1
            refine wpAnyH_ready (rs := [3, 4]) (by kernel_rfl) (by simp) ?_
            refine AllReadyH.cons rfl (fun K hK => ?_) ?_
            · go_simp
              (go_at_call 7; refine Calls.mono (hl2.out _ (hH12).2.2.2) ?_; rintro e wz13 ⟨g2, c2, rfl, hg, hL, hb⟩; (try dsimp only))
              refine hK.out _ _ (PairS.kept hH12 hb) (fun hH13 => ?_)
              have hz13 : w.heap.size + 2 ≤ wz13.heap.size := (hH13).2.2.1.lt
              replace L1 := hid (LentW.kept (L1.out) hb)
              replace a5 := hid (At.keptAll (a5.out) hb)
              have lt13_a5 := (a5.out).lt
              have L2 := hid hL
              clear hK hg hL hb hH12
              refine wpAnyH_ready (rs := [4]) (by kernel_rfl) (by simp) ?_
              refine AllReadyH.cons rfl (fun K hK => ?_) ?_
              · go_simp
                have al := below_new wz13 (.cells #[.int .i64 0, .slice none 0 0] 24)
                refine hK.out _ _ (PairS.kept hH13 al) (fun hH14 => ?_)
                replace L1 := hid (LentW.kept (L1.out) al)
                replace a5 := hid (At.keptAll (a5.out) al)
                replace L2 := hid (LentW.kept (L2.out) al)
                have a4 := hid (show At (wz13.alloc (.cells #[.int .i64 0, .slice none 0 0] 24)) (wz13.heap.size) #[.int .i64 0, .slice none 0 0] 24 from by have h := At.new wz13 #[.int .i64 0, .slice none 0 0] 24; simpa using h)
                clear hK al hH13
                have hS := hid (show PairS w n m ao bo k l cap cap' (wz13.alloc (.cells #[.int .i64 0, .slice none 0 0] 24)) from hH14)
                clear hH14
                generalize (wz13.alloc (.cells #[.int .i64 0, .slice none 0 0] 24)) = Wz at *
                obtain ⟨c4, c5, f4, f5⟩ := (a4.out).facts
                obtain ⟨c6, c7, f6, f7⟩ := (a5.out).facts
                have hpq : Hid (wz13.heap.size ≠ wz1.heap.size) := by show _ ≠ _; omega
                have hq4 : Hid (w.heap.size + 2 ≤ wz13.heap.size) := by show _ ≤ _; omega
                have hq5 : Hid (w.heap.size + 2 ≤ wz1.heap.size) := by show _ ≤ _; omega
                refine wpAnyH_ready (rs := [6]) (by kernel_rfl) (by simp) ?_
                refine AllReadyH.cons rfl (fun K hK => ?_) ?_
                · go_simp
                  refine hK.out _ _ (hS.out.put hq4.out _ _) (fun hH6 => ?_)
                  clear hK hH6
                  refine wpAnyH_ready (rs := [7]) (by kernel_rfl) (by simp) ?_
                  refine AllReadyH.cons rfl (fun K hK => ?_) ?_
                  · go_simp
                    refine hK.out _ _ ((hS.out.put hq4.out _ _).put hq5.out _ _) (fun hH7 => ?_)
                    clear hK hH7
                    refine wpAnyH_done (by kernel_rfl) ?_ _
                    go_wp2
                    go_meet
                    case rel => exact lentTwo_mk hS.out L1.out L2.out a4.out a5.out hq4.out hq5.out hpq.out
                  · exact AllReadyH.nil
                · exact AllReadyH.nil
              · exact AllReadyH.nil
            · refine AllReadyH.cons rfl (fun K hK => ?_) ?_
              · go_simp
                have al := below_new (wz1.alloc (.cells #[.int .i64 0, .slice none 0 0] 24)) (.cells #[.int .i64 0, .slice none 0 0] 24)
                refine hK.out _ _ (PairS.kept hH12 al) (fun hH15 => ?_)
                replace L1 := hid (LentW.kept (L1.out) al)
                replace a5 := hid (At.keptAll (a5.out) al)
                have a4 := hid (show At ((wz1.alloc (.cells #[.int .i64 0, .slice none 0 0] 24)).alloc (.cells #[.int .i64 0, .slice none 0 0] 24)) (wz1.heap.size + 1) #[.int .i64 0, .slice none 0 0] 24 from by have h := At.new (wz1.alloc (.cells #[.int .i64 0, .slice none 0 0] 24)) #[.int .i64 0, .slice none 0 0] 24; simpa using h)
                clear hK al hH12
                refine wpAnyH_ready (rs := [3]) (by kernel_rfl) (by simp) ?_
                refine AllReadyH.cons rfl (fun K hK => ?_) ?_
                · go_simp
                  (go_at_call 7; refine Calls.mono (hl2.out _ (hH15).2.2.2) ?_; rintro e wz16 ⟨g2, c2, rfl, hg, hL, hb⟩; (try dsimp only))
                  refine hK.out _ _ (PairS.kept hH15 hb) (fun hH16 => ?_)
                  have hz16 : w.heap.size + 2 ≤ wz16.heap.size := (hH16).2.2.1.lt
                  replace L1 := hid (LentW.kept (L1.out) hb)
                  replace a5 := hid (At.keptAll (a5.out) hb)
                  replace a4 := hid (At.keptAll (a4.out) hb)
                  have lt16_a5 := (a5.out).lt
                  have lt16_a4 := (a4.out).lt
                  have L2 := hid hL
                  clear hK hg hL hb hH15
                  have hS := hid (show PairS w n m ao bo k l cap cap' wz16 from hH16)
                  clear hH16
                  obtain ⟨c4, c5, f4, f5⟩ := (a4.out).facts
                  obtain ⟨c6, c7, f6, f7⟩ := (a5.out).facts
                  have hpq : Hid (wz1.heap.size + 1 ≠ wz1.heap.size) := by show _ ≠ _; omega
                  have hq4 : Hid (w.heap.size + 2 ≤ wz1.heap.size + 1) := by show _ ≤ _; omega
                  have hq5 : Hid (w.heap.size + 2 ≤ wz1.heap.size) := by show _ ≤ _; omega
                  refine wpAnyH_ready (rs := [6]) (by kernel_rfl) (by simp) ?_
                  refine AllReadyH.cons rfl (fun K hK => ?_) ?_
                  · go_simp
                    refine hK.out _ _ (hS.out.put hq4.out _ _) (fun hH6 => ?_)
                    clear hK hH6
                    refine wpAnyH_ready (rs := [7]) (by kernel_rfl) (by simp) ?_
                    refine AllReadyH.cons rfl (fun K hK => ?_) ?_
                    · go_simp
                      refine hK.out _ _ ((hS.out.put hq4.out _ _).put hq5.out _ _) (fun hH7 => ?_)
                      clear hK hH7
                      refine wpAnyH_done (by kernel_rfl) ?_ _
                      go_wp2
                      go_meet
                      case rel => exact lentTwo_mk hS.out L1.out L2.out a4.out a5.out hq4.out hq5.out hpq.out
                    · exact AllReadyH.nil
                  · exact AllReadyH.nil
                · exact AllReadyH.nil
              · exact AllReadyH.nil
          · exact AllReadyH.nil
    · refine AllReadyH.cons rfl (fun K hK => ?_) ?_
      · go_simp
        have al := below_new ((w.alloc (.cells #[.int .i64 n, .slice ao k cap] 24)).alloc (.cells #[.int .i64 m, .slice bo l cap'] 24)).drew (.cells #[.int .i64 0, .slice none 0 0] 24)
        refine hK.out _ _ (PairS.kept hH0 al) (fun hH17 => ?_)
        have a4 := hid (show At (((w.alloc (.cells #[.int .i64 n, .slice ao k cap] 24)).alloc (.cells #[.int .i64 m, .slice bo l cap'] 24)).drew.alloc (.cells #[.int .i64 0, .slice none 0 0] 24)) (w.heap.size + 2) #[.int .i64 0, .slice none 0 0] 24 from by have h := At.new ((w.alloc (.cells #[.int .i64 n, .slice ao k cap] 24)).alloc (.cells #[.int .i64 m, .slice bo l cap'] 24)).drew #[.int .i64 0, .slice none 0 0] 24; simpa using h)
        clear hK al hH0
        refine wpAnyH_ready (rs := [1, 5]) (by kernel_rfl) (by simp) ?_
        refine AllReadyH.cons rfl (fun K hK => ?_) ?_
        · go_simp
          (go_at_call 7; refine Calls.mono (hl1.out _ (hH17).2.2.2) ?_; rintro e wz18 ⟨g, c, rfl, hg, hL, hb⟩; (try dsimp only))
          refine hK.out _ _ (PairS.kept hH17 hb) (fun hH18 => ?_)
          have hz18 : w.heap.size + 2 ≤ wz18.heap.size := (hH18).2.2.1.lt
          replace a4 := hid (At.keptAll (a4.out) hb)
          have lt18_a4 := (a4.out).lt
          have L1 := hid hL
          clear hK hg hL hb hH17
          refine wpAnyH_ready (rs := [3, 5]) (by kernel_rfl) (by simp) ?_
          refine AllReadyH.cons rfl (fun K hK => ?_) ?_
          · go_simp
            (go_at_call 7; refine Calls.mono (hl2.out _ (hH18).2.2.2) ?_; rintro e wz19 ⟨g2, c2, rfl, hg, hL, hb⟩; (try dsimp only))
            refine hK.out _ _ (PairS.kept hH18 hb) (fun hH19 => ?_)
            have hz19 : w.heap.size + 2 ≤ wz19.heap.size := (hH19).2.2.1.lt
            replace a4 := hid (At.keptAll (a4.out) hb)
            replace L1 := hid (LentW.kept (L1.out) hb)
            have lt19_a4 := (a4.out).lt
            have L2 := hid hL
            clear hK hg hL hb hH18
            refine wpAnyH_ready (rs := [5]) (by kernel_rfl) (by simp) ?_
            refine AllReadyH.cons rfl (fun K hK => ?_) ?_
            · go_simp
              have al := below_new wz19 (.cells #[.int .i64 0, .slice none 0 0] 24)
              refine hK.out _ _ (PairS.kept hH19 al) (fun hH20 => ?_)
              replace a4 := hid (At.keptAll (a4.out) al)
              replace L1 := hid (LentW.kept (L1.out) al)
              replace L2 := hid (LentW.kept (L2.out) al)
              have a5 := hid (show At (wz19.alloc (.cells #[.int .i64 0, .slice none 0 0] 24)) (wz19.heap.size) #[.int .i64 0, .slice none 0 0] 24 from by have h := At.new wz19 #[.int .i64 0, .slice none 0 0] 24; simpa using h)
              clear hK al hH19
              have hS := hid (show PairS w n m ao bo k l cap cap' (wz19.alloc (.cells #[.int .i64 0, .slice none 0 0] 24)) from hH20)
              clear hH20
              generalize (wz19.alloc (.cells #[.int .i64 0, .slice none 0 0] 24)) = Wz at *
              obtain ⟨c4, c5, f4, f5⟩ := (a4.out).facts
              obtain ⟨c6, c7, f6, f7⟩ := (a5.out).facts
              have hpq : Hid (w.heap.size + 2 ≠ wz19.heap.size) := by show _ ≠ _; omega
              have hq4 : Hid (w.heap.size + 2 ≤ w.heap.size + 2) := by show _ ≤ _; omega
              have hq5 : Hid (w.heap.size + 2 ≤ wz19.heap.size) := by show _ ≤ _; omega
              refine wpAnyH_ready (rs := [6]) (by kernel_rfl) (by simp) ?_
              refine AllReadyH.cons rfl (fun K hK => ?_) ?_
              · go_simp
                refine hK.out _ _ (hS.out.put hq4.out _ _) (fun hH6 => ?_)
                clear hK hH6
                refine wpAnyH_ready (rs := [7]) (by kernel_rfl) (by simp) ?_
                refine AllReadyH.cons rfl (fun K hK => ?_) ?_
                · go_simp
                  refine hK.out _ _ ((hS.out.put hq4.out _ _).put hq5.out _ _) (fun hH7 => ?_)
                  clear hK hH7
                  refine wpAnyH_done (by kernel_rfl) ?_ _
                  go_wp2
                  go_meet
                  case rel => exact lentTwo_mk hS.out L1.out L2.out a4.out a5.out hq4.out hq5.out hpq.out
                · exact AllReadyH.nil
              · exact AllReadyH.nil
            · exact AllReadyH.nil
          · refine AllReadyH.cons rfl (fun K hK => ?_) ?_
            · go_simp
              have al := below_new wz18 (.cells #[.int .i64 0, .slice none 0 0] 24)
              refine hK.out _ _ (PairS.kept hH18 al) (fun hH21 => ?_)
              replace a4 := hid (At.keptAll (a4.out) al)
              replace L1 := hid (LentW.kept (L1.out) al)
              have a5 := hid (show At (wz18.alloc (.cells #[.int .i64 0, .slice none 0 0] 24)) (wz18.heap.size) #[.int .i64 0, .slice none 0 0] 24 from by have h := At.new wz18 #[.int .i64 0, .slice none 0 0] 24; simpa using h)
              clear hK al hH18
              refine wpAnyH_ready (rs := [3]) (by kernel_rfl) (by simp) ?_
              refine AllReadyH.cons rfl (fun K hK => ?_) ?_
              · go_simp
                (go_at_call 7; refine Calls.mono (hl2.out _ (hH21).2.2.2) ?_; rintro e wz22 ⟨g2, c2, rfl, hg, hL, hb⟩; (try dsimp only))
                refine hK.out _ _ (PairS.kept hH21 hb) (fun hH22 => ?_)
                have hz22 : w.heap.size + 2 ≤ wz22.heap.size := (hH22).2.2.1.lt
                replace a4 := hid (At.keptAll (a4.out) hb)
                replace L1 := hid (LentW.kept (L1.out) hb)
                replace a5 := hid (At.keptAll (a5.out) hb)
                have lt22_a4 := (a4.out).lt
                have lt22_a5 := (a5.out).lt
                have L2 := hid hL
                clear hK hg hL hb hH21
                have hS := hid (show PairS w n m ao bo k l cap cap' wz22 from hH22)
                clear hH22
                obtain ⟨c4, c5, f4, f5⟩ := (a4.out).facts
                obtain ⟨c6, c7, f6, f7⟩ := (a5.out).facts
                have hpq : Hid (w.heap.size + 2 ≠ wz18.heap.size) := by show _ ≠ _; omega
                have hq4 : Hid (w.heap.size + 2 ≤ w.heap.size + 2) := by show _ ≤ _; omega
                have hq5 : Hid (w.heap.size + 2 ≤ wz18.heap.size) := by show _ ≤ _; omega
                refine wpAnyH_ready (rs := [6]) (by kernel_rfl) (by simp) ?_
                refine AllReadyH.cons rfl (fun K hK => ?_) ?_
                · go_simp
                  refine hK.out _ _ (hS.out.put hq4.out _ _) (fun hH6 => ?_)
                  clear hK hH6
                  refine wpAnyH_ready (rs := [7]) (by kernel_rfl) (by simp) ?_
                  refine AllReadyH.cons rfl (fun K hK => ?_) ?_
                  · go_simp
                    refine hK.out _ _ ((hS.out.put hq4.out _ _).put hq5.out _ _) (fun hH7 => ?_)
                    clear hK hH7
                    refine wpAnyH_done (by kernel_rfl) ?_ _
                    go_wp2
                    go_meet
                    case rel => exact lentTwo_mk hS.out L1.out L2.out a4.out a5.out hq4.out hq5.out hpq.out
                  · exact AllReadyH.nil
                · exact AllReadyH.nil
              · exact AllReadyH.nil
            · exact AllReadyH.nil
        · refine AllReadyH.cons rfl (fun K hK => ?_) ?_
          · go_simp
            have al := below_new (((w.alloc (.cells #[.int .i64 n, .slice ao k cap] 24)).alloc (.cells #[.int .i64 m, .slice bo l cap'] 24)).drew.alloc (.cells #[.int .i64 0, .slice none 0 0] 24)) (.cells #[.int .i64 0, .slice none 0 0] 24)
            refine hK.out _ _ (PairS.kept hH17 al) (fun hH23 => ?_)
            replace a4 := hid (At.keptAll (a4.out) al)
            have a5 := hid (show At ((((w.alloc (.cells #[.int .i64 n, .slice ao k cap] 24)).alloc (.cells #[.int .i64 m, .slice bo l cap'] 24)).drew.alloc (.cells #[.int .i64 0, .slice none 0 0] 24)).alloc (.cells #[.int .i64 0, .slice none 0 0] 24)) (w.heap.size + 3) #[.int .i64 0, .slice none 0 0] 24 from by have h := At.new (((w.alloc (.cells #[.int .i64 n, .slice ao k cap] 24)).alloc (.cells #[.int .i64 m, .slice bo l cap'] 24)).drew.alloc (.cells #[.int .i64 0, .slice none 0 0] 24)) #[.int .i64 0, .slice none 0 0] 24; simpa using h)
            clear hK al hH17
            refine wpAnyH_ready (rs := [1]) (by kernel_rfl) (by simp) ?_
            refine AllReadyH.cons rfl (fun K hK => ?_) ?_
            · go_simp
              (go_at_call 7; refine Calls.mono (hl1.out _ (hH23).2.2.2) ?_; rintro e wz24 ⟨g, c, rfl, hg, hL, hb⟩; (try dsimp only))
              refine hK.out _ _ (PairS.kept hH23 hb) (fun hH24 => ?_)
              have hz24 : w.heap.size + 2 ≤ wz24.heap.size := (hH24).2.2.1.lt
              replace a4 := hid (At.keptAll (a4.out) hb)
              replace a5 := hid (At.keptAll (a5.out) hb)
              have lt24_a4 := (a4.out).lt
              have lt24_a5 := (a5.out).lt
              have L1 := hid hL
              clear hK hg hL hb hH23
              refine wpAnyH_ready (rs := [3]) (by kernel_rfl) (by simp) ?_
              refine AllReadyH.cons rfl (fun K hK => ?_) ?_
              · go_simp
                (go_at_call 7; refine Calls.mono (hl2.out _ (hH24).2.2.2) ?_; rintro e wz25 ⟨g2, c2, rfl, hg, hL, hb⟩; (try dsimp only))
                refine hK.out _ _ (PairS.kept hH24 hb) (fun hH25 => ?_)
                have hz25 : w.heap.size + 2 ≤ wz25.heap.size := (hH25).2.2.1.lt
                replace a4 := hid (At.keptAll (a4.out) hb)
                replace a5 := hid (At.keptAll (a5.out) hb)
                replace L1 := hid (LentW.kept (L1.out) hb)
                have lt25_a4 := (a4.out).lt
                have lt25_a5 := (a5.out).lt
                have L2 := hid hL
                clear hK hg hL hb hH24
                have hS := hid (show PairS w n m ao bo k l cap cap' wz25 from hH25)
                clear hH25
                obtain ⟨c4, c5, f4, f5⟩ := (a4.out).facts
                obtain ⟨c6, c7, f6, f7⟩ := (a5.out).facts
                have hpq : Hid (w.heap.size + 2 ≠ w.heap.size + 3) := by show _ ≠ _; omega
                have hq4 : Hid (w.heap.size + 2 ≤ w.heap.size + 2) := by show _ ≤ _; omega
                have hq5 : Hid (w.heap.size + 2 ≤ w.heap.size + 3) := by show _ ≤ _; omega
                refine wpAnyH_ready (rs := [6]) (by kernel_rfl) (by simp) ?_
                refine AllReadyH.cons rfl (fun K hK => ?_) ?_
                · go_simp
                  refine hK.out _ _ (hS.out.put hq4.out _ _) (fun hH6 => ?_)
                  clear hK hH6
                  refine wpAnyH_ready (rs := [7]) (by kernel_rfl) (by simp) ?_
                  refine AllReadyH.cons rfl (fun K hK => ?_) ?_
                  · go_simp
                    refine hK.out _ _ ((hS.out.put hq4.out _ _).put hq5.out _ _) (fun hH7 => ?_)
                    clear hK hH7
                    refine wpAnyH_done (by kernel_rfl) ?_ _
                    go_wp2
                    go_meet
                    case rel => exact lentTwo_mk hS.out L1.out L2.out a4.out a5.out hq4.out hq5.out hpq.out
                  · exact AllReadyH.nil
                · exact AllReadyH.nil
              · exact AllReadyH.nil
            · exact AllReadyH.nil
          · exact AllReadyH.nil
      · refine AllReadyH.cons rfl (fun K hK => ?_) ?_
        · go_simp
          have al := below_new ((w.alloc (.cells #[.int .i64 n, .slice ao k cap] 24)).alloc (.cells #[.int .i64 m, .slice bo l cap'] 24)).drew (.cells #[.int .i64 0, .slice none 0 0] 24)
          refine hK.out _ _ (PairS.kept hH0 al) (fun hH26 => ?_)
          have a5 := hid (show At (((w.alloc (.cells #[.int .i64 n, .slice ao k cap] 24)).alloc (.cells #[.int .i64 m, .slice bo l cap'] 24)).drew.alloc (.cells #[.int .i64 0, .slice none 0 0] 24)) (w.heap.size + 2) #[.int .i64 0, .slice none 0 0] 24 from by have h := At.new ((w.alloc (.cells #[.int .i64 n, .slice ao k cap] 24)).alloc (.cells #[.int .i64 m, .slice bo l cap'] 24)).drew #[.int .i64 0, .slice none 0 0] 24; simpa using h)
          clear hK al hH0
          refine wpAnyH_ready (rs := [1, 4]) (by kernel_rfl) (by simp) ?_
          refine AllReadyH.cons rfl (fun K hK => ?_) ?_
          · go_simp
            (go_at_call 7; refine Calls.mono (hl1.out _ (hH26).2.2.2) ?_; rintro e wz27 ⟨g, c, rfl, hg, hL, hb⟩; (try dsimp only))
            refine hK.out _ _ (PairS.kept hH26 hb) (fun hH27 => ?_)
            have hz27 : w.heap.size + 2 ≤ wz27.heap.size := (hH27).2.2.1.lt
            replace a5 := hid (At.keptAll (a5.out) hb)
            have lt27_a5 := (a5.out).lt
            have L1 := hid hL
            clear hK hg hL hb hH26
            refine wpAnyH_ready (rs := [3, 4]) (by kernel_rfl) (by simp) ?_
            refine AllReadyH.cons rfl (fun K hK => ?_) ?_
            · go_simp
              (go_at_call 7; refine Calls.mono (hl2.out _ (hH27).2.2.2) ?_; rintro e wz28 ⟨g2, c2, rfl, hg, hL, hb⟩; (try dsimp only))
              refine hK.out _ _ (PairS.kept hH27 hb) (fun hH28 => ?_)
              have hz28 : w.heap.size + 2 ≤ wz28.heap.size := (hH28).2.2.1.lt
              replace a5 := hid (At.keptAll (a5.out) hb)
              replace L1 := hid (LentW.kept (L1.out) hb)
              have lt28_a5 := (a5.out).lt
              have L2 := hid hL
              clear hK hg hL hb hH27
              refine wpAnyH_ready (rs := [4]) (by kernel_rfl) (by simp) ?_
              refine AllReadyH.cons rfl (fun K hK => ?_) ?_
              · go_simp
                have al := below_new wz28 (.cells #[.int .i64 0, .slice none 0 0] 24)
                refine hK.out _ _ (PairS.kept hH28 al) (fun hH29 => ?_)
                replace a5 := hid (At.keptAll (a5.out) al)
                replace L1 := hid (LentW.kept (L1.out) al)
                replace L2 := hid (LentW.kept (L2.out) al)
                have a4 := hid (show At (wz28.alloc (.cells #[.int .i64 0, .slice none 0 0] 24)) (wz28.heap.size) #[.int .i64 0, .slice none 0 0] 24 from by have h := At.new wz28 #[.int .i64 0, .slice none 0 0] 24; simpa using h)
                clear hK al hH28
                have hS := hid (show PairS w n m ao bo k l cap cap' (wz28.alloc (.cells #[.int .i64 0, .slice none 0 0] 24)) from hH29)
                clear hH29
                generalize (wz28.alloc (.cells #[.int .i64 0, .slice none 0 0] 24)) = Wz at *
                obtain ⟨c4, c5, f4, f5⟩ := (a4.out).facts
                obtain ⟨c6, c7, f6, f7⟩ := (a5.out).facts
                have hpq : Hid (wz28.heap.size ≠ w.heap.size + 2) := by show _ ≠ _; omega
                have hq4 : Hid (w.heap.size + 2 ≤ wz28.heap.size) := by show _ ≤ _; omega
                have hq5 : Hid (w.heap.size + 2 ≤ w.heap.size + 2) := by show _ ≤ _; omega
                refine wpAnyH_ready (rs := [6]) (by kernel_rfl) (by simp) ?_
                refine AllReadyH.cons rfl (fun K hK => ?_) ?_
                · go_simp
                  refine hK.out _ _ (hS.out.put hq4.out _ _) (fun hH6 => ?_)
                  clear hK hH6
                  refine wpAnyH_ready (rs := [7]) (by kernel_rfl) (by simp) ?_
                  refine AllReadyH.cons rfl (fun K hK => ?_) ?_
                  · go_simp
                    refine hK.out _ _ ((hS.out.put hq4.out _ _).put hq5.out _ _) (fun hH7 => ?_)
                    clear hK hH7
                    refine wpAnyH_done (by kernel_rfl) ?_ _
                    go_wp2
                    go_meet
                    case rel => exact lentTwo_mk hS.out L1.out L2.out a4.out a5.out hq4.out hq5.out hpq.out
                  · exact AllReadyH.nil
                · exact AllReadyH.nil
              · exact AllReadyH.nil
            · refine AllReadyH.cons rfl (fun K hK => ?_) ?_
              · go_simp
                have al := below_new wz27 (.cells #[.int .i64 0, .slice none 0 0] 24)
                refine hK.out _ _ (PairS.kept hH27 al) (fun hH30 => ?_)
                replace a5 := hid (At.keptAll (a5.out) al)
                replace L1 := hid (LentW.kept (L1.out) al)
                have a4 := hid (show At (wz27.alloc (.cells #[.int .i64 0, .slice none 0 0] 24)) (wz27.heap.size) #[.int .i64 0, .slice none 0 0] 24 from by have h := At.new wz27 #[.int .i64 0, .slice none 0 0] 24; simpa using h)
                clear hK al hH27
                refine wpAnyH_ready (rs := [3]) (by kernel_rfl) (by simp) ?_
                refine AllReadyH.cons rfl (fun K hK => ?_) ?_
                · go_simp
                  (go_at_call 7; refine Calls.mono (hl2.out _ (hH30).2.2.2) ?_; rintro e wz31 ⟨g2, c2, rfl, hg, hL, hb⟩; (try dsimp only))
                  refine hK.out _ _ (PairS.kept hH30 hb) (fun hH31 => ?_)
                  have hz31 : w.heap.size + 2 ≤ wz31.heap.size := (hH31).2.2.1.lt
                  replace a5 := hid (At.keptAll (a5.out) hb)
                  replace L1 := hid (LentW.kept (L1.out) hb)
                  replace a4 := hid (At.keptAll (a4.out) hb)
                  have lt31_a5 := (a5.out).lt
                  have lt31_a4 := (a4.out).lt
                  have L2 := hid hL
                  clear hK hg hL hb hH30
                  have hS := hid (show PairS w n m ao bo k l cap cap' wz31 from hH31)
                  clear hH31
                  obtain ⟨c4, c5, f4, f5⟩ := (a4.out).facts
                  obtain ⟨c6, c7, f6, f7⟩ := (a5.out).facts
                  have hpq : Hid (wz27.heap.size ≠ w.heap.size + 2) := by show _ ≠ _; omega
                  have hq4 : Hid (w.heap.size + 2 ≤ wz27.heap.size) := by show _ ≤ _; omega
                  have hq5 : Hid (w.heap.size + 2 ≤ w.heap.size + 2) := by show _ ≤ _; omega
                  refine wpAnyH_ready (rs := [6]) (by kernel_rfl) (by simp) ?_
                  refine AllReadyH.cons rfl (fun K hK => ?_) ?_
                  · go_simp
                    refine hK.out _ _ (hS.out.put hq4.out _ _) (fun hH6 => ?_)
                    clear hK hH6
                    refine wpAnyH_ready (rs := [7]) (by kernel_rfl) (by simp) ?_
                    refine AllReadyH.cons rfl (fun K hK => ?_) ?_
                    · go_simp
                      refine hK.out _ _ ((hS.out.put hq4.out _ _).put hq5.out _ _) (fun hH7 => ?_)
                      clear hK hH7
                      refine wpAnyH_done (by kernel_rfl) ?_ _
                      go_wp2
                      go_meet
                      case rel => exact lentTwo_mk hS.out L1.out L2.out a4.out a5.out hq4.out hq5.out hpq.out
                    · exact AllReadyH.nil
                  · exact AllReadyH.nil
                · exact AllReadyH.nil
              · exact AllReadyH.nil
          · refine AllReadyH.cons rfl (fun K hK => ?_) ?_
            · go_simp
              have al := below_new (((w.alloc (.cells #[.int .i64 n, .slice ao k cap] 24)).alloc (.cells #[.int .i64 m, .slice bo l cap'] 24)).drew.alloc (.cells #[.int .i64 0, .slice none 0 0] 24)) (.cells #[.int .i64 0, .slice none 0 0] 24)
              refine hK.out _ _ (PairS.kept hH26 al) (fun hH32 => ?_)
              replace a5 := hid (At.keptAll (a5.out) al)
              have a4 := hid (show At ((((w.alloc (.cells #[.int .i64 n, .slice ao k cap] 24)).alloc (.cells #[.int .i64 m, .slice bo l cap'] 24)).drew.alloc (.cells #[.int .i64 0, .slice none 0 0] 24)).alloc (.cells #[.int .i64 0, .slice none 0 0] 24)) (w.heap.size + 3) #[.int .i64 0, .slice none 0 0] 24 from by have h := At.new (((w.alloc (.cells #[.int .i64 n, .slice ao k cap] 24)).alloc (.cells #[.int .i64 m, .slice bo l cap'] 24)).drew.alloc (.cells #[.int .i64 0, .slice none 0 0] 24)) #[.int .i64 0, .slice none 0 0] 24; simpa using h)
              clear hK al hH26
              refine wpAnyH_ready (rs := [1]) (by kernel_rfl) (by simp) ?_
              refine AllReadyH.cons rfl (fun K hK => ?_) ?_
              · go_simp
                (go_at_call 7; refine Calls.mono (hl1.out _ (hH32).2.2.2) ?_; rintro e wz33 ⟨g, c, rfl, hg, hL, hb⟩; (try dsimp only))
                refine hK.out _ _ (PairS.kept hH32 hb) (fun hH33 => ?_)
                have hz33 : w.heap.size + 2 ≤ wz33.heap.size := (hH33).2.2.1.lt
                replace a5 := hid (At.keptAll (a5.out) hb)
                replace a4 := hid (At.keptAll (a4.out) hb)
                have lt33_a5 := (a5.out).lt
                have lt33_a4 := (a4.out).lt
                have L1 := hid hL
                clear hK hg hL hb hH32
                refine wpAnyH_ready (rs := [3]) (by kernel_rfl) (by simp) ?_
                refine AllReadyH.cons rfl (fun K hK => ?_) ?_
                · go_simp
                  (go_at_call 7; refine Calls.mono (hl2.out _ (hH33).2.2.2) ?_; rintro e wz34 ⟨g2, c2, rfl, hg, hL, hb⟩; (try dsimp only))
                  refine hK.out _ _ (PairS.kept hH33 hb) (fun hH34 => ?_)
                  have hz34 : w.heap.size + 2 ≤ wz34.heap.size := (hH34).2.2.1.lt
                  replace a5 := hid (At.keptAll (a5.out) hb)
                  replace a4 := hid (At.keptAll (a4.out) hb)
                  replace L1 := hid (LentW.kept (L1.out) hb)
                  have lt34_a5 := (a5.out).lt
                  have lt34_a4 := (a4.out).lt
                  have L2 := hid hL
                  clear hK hg hL hb hH33
                  have hS := hid (show PairS w n m ao bo k l cap cap' wz34 from hH34)
                  clear hH34
                  obtain ⟨c4, c5, f4, f5⟩ := (a4.out).facts
                  obtain ⟨c6, c7, f6, f7⟩ := (a5.out).facts
                  have hpq : Hid (w.heap.size + 3 ≠ w.heap.size + 2) := by show _ ≠ _; omega
                  have hq4 : Hid (w.heap.size + 2 ≤ w.heap.size + 3) := by show _ ≤ _; omega
                  have hq5 : Hid (w.heap.size + 2 ≤ w.heap.size + 2) := by show _ ≤ _; omega
                  refine wpAnyH_ready (rs := [6]) (by kernel_rfl) (by simp) ?_
                  refine AllReadyH.cons rfl (fun K hK => ?_) ?_
                  · go_simp
                    refine hK.out _ _ (hS.out.put hq4.out _ _) (fun hH6 => ?_)
                    clear hK hH6
                    refine wpAnyH_ready (rs := [7]) (by kernel_rfl) (by simp) ?_
                    refine AllReadyH.cons rfl (fun K hK => ?_) ?_
                    · go_simp
                      refine hK.out _ _ ((hS.out.put hq4.out _ _).put hq5.out _ _) (fun hH7 => ?_)
                      clear hK hH7
                      refine wpAnyH_done (by kernel_rfl) ?_ _
                      go_wp2
                      go_meet
                      case rel => exact lentTwo_mk hS.out L1.out L2.out a4.out a5.out hq4.out hq5.out hpq.out
                    · exact AllReadyH.nil
                  · exact AllReadyH.nil
                · exact AllReadyH.nil
              · exact AllReadyH.nil
            · exact AllReadyH.nil
        · exact AllReadyH.nil
  case rest =>
    obtain ⟨g, c, g2, c2, p5, p6, rfl, rfl, hS, hL1, hL2, ax, ay⟩ := hcut
    have hB0 := hS.2.2.2
    have K0_a := hid hS.2.1
    have K0_b := hid hS.2.2.1
    have K0_x := hid ax
    have K0_y := hid ay
    have K0_lx := hid hL1
    have K0_ly := hid hL2
    clear hS ax ay hL1 hL2 hl1 hl2
    obtain ⟨c0_x, c1_x, f0_x, f1_x⟩ := (K0_x.out).facts
    obtain ⟨c0_y, c1_y, f0_y, f1_y⟩ := (K0_y.out).facts
    go_wp2_with fail
    have s1_a := hid (K0_a.out).lt
    have s1_b := hid (K0_b.out).lt
    have s1_x := hid (K0_x.out).lt
    have s1_y := hid (K0_y.out).lt
    refine Calls.mono (and_gives n m (some ⟨g, 0, none⟩) (some ⟨g2, 0, none⟩) k l c c2 X Y E q r hn'.out hm'.out (by omega) (by omega) hE' _ (LentB.wds (K0_lx.out) hX.out) (LentB.wds (K0_ly.out) hY.out)) ?_
    rintro e w1 ⟨hb, so0, hown, rfl⟩
    clear c0_x c1_x f0_x f1_x c0_y c1_y f0_y f1_y
    have K1_a := hid (At.keptAll (K0_a.out) hb)
    have K1_b := hid (At.keptAll (K0_b.out) hb)
    have K1_x := hid (At.keptAll (K0_x.out) hb)
    have K1_y := hid (At.keptAll (K0_y.out) hb)
    have K1_lx := hid (LentW.kept (K0_lx.out) hb)
    have K1_ly := hid (LentW.kept (K0_ly.out) hb)
    have hB1 : Below w.heap.size w w1 := Below.trans hB0 (Below.mono hb hB0.size)
    clear K0_a K0_b K0_x K0_y K0_lx K0_ly hb hB0
    have K1_rc := hid hown
    clear hown
    have ne_a_c := (K1_a.out).lt
    have ne_b_c := (K1_b.out).lt
    have ne_x_c := (K1_x.out).lt
    have ne_y_c := (K1_y.out).lt
    have ne_lx_c := LentW.lt (K1_lx.out)
    have ne_ly_c := LentW.lt (K1_ly.out)
    have al : Below w1.heap.size w1 (w1.alloc (.cells #[.int .i64 q, .slice so0 r r] 24)) := (Below.refl _ _).alloc (Nat.le_refl _) _
    have K2_a := hid (At.alloc (K1_a.out) (.cells #[.int .i64 q, .slice so0 r r] 24))
    have K2_b := hid (At.alloc (K1_b.out) (.cells #[.int .i64 q, .slice so0 r r] 24))
    have K2_x := hid (At.alloc (K1_x.out) (.cells #[.int .i64 q, .slice so0 r r] 24))
    have K2_y := hid (At.alloc (K1_y.out) (.cells #[.int .i64 q, .slice so0 r r] 24))
    have K2_lx := hid (LentW.kept (K1_lx.out) al)
    have K2_ly := hid (LentW.kept (K1_ly.out) al)
    have K2_rc := hid ((K1_rc.out).kept al)
    have K2_c := hid (At.new w1 #[.int .i64 q, .slice so0 r r] 24)
    have hB2 := Below.alloc hB1 hB1.size (.cells #[.int .i64 q, .slice so0 r r] 24)
    clear al K1_a K1_b K1_x K1_y K1_lx K1_ly K1_rc hB1
    obtain ⟨c0_a, c1_a, f0_a, f1_a⟩ := (K2_a.out).facts
    obtain ⟨c0_b, c1_b, f0_b, f1_b⟩ := (K2_b.out).facts
    go_wp2_with fail
    have s3_a := hid (K2_a.out).lt
    have s3_b := hid (K2_b.out).lt
    have s3_x := hid (K2_x.out).lt
    have s3_y := hid (K2_y.out).lt
    have s3_c := hid (K2_c.out).lt
    refine Calls.mono (refBoth_calls 0 (fun x y => x && y) (.inl ⟨rfl, rfl⟩) n m ao bo k l cap cap' X Y E q r hn'.out hm'.out hk hl hE' _ (hW'.out.kept hB2) (hV'.out.kept hB2)) ?_
    rintro e w3 ⟨hb, so0r, so0c, hwd, rfl⟩
    clear c0_a c1_a f0_a f1_a c0_b c1_b f0_b f1_b
    have K3_a := hid (At.keptAll (K2_a.out) hb)
    have K3_b := hid (At.keptAll (K2_b.out) hb)
    have K3_x := hid (At.keptAll (K2_x.out) hb)
    have K3_y := hid (At.keptAll (K2_y.out) hb)
    have K3_lx := hid (LentW.kept (K2_lx.out) hb)
    have K3_ly := hid (LentW.kept (K2_ly.out) hb)
    have K3_rc := hid ((K2_rc.out).kept hb)
    have K3_c := hid (At.keptAll (K2_c.out) hb)
    have hB3 : Below w.heap.size w w3 := Below.trans hB2 (Below.mono hb hB2.size)
    clear K2_a K2_b K2_x K2_y K2_lx K2_ly K2_rc K2_c hb hB2
    have K3_rw := hid hwd
    clear hwd
    have ne_a_want := (K3_a.out).lt
    have ne_b_want := (K3_b.out).lt
    have ne_x_want := (K3_x.out).lt
    have ne_y_want := (K3_y.out).lt
    have ne_lx_want := LentW.lt (K3_lx.out)
    have ne_ly_want := LentW.lt (K3_ly.out)
    have ne_c_want := (K3_c.out).lt
    have al : Below w3.heap.size w3 (w3.alloc (.cells #[.int .i64 q, .slice so0r r so0c] 24)) := (Below.refl _ _).alloc (Nat.le_refl _) _
    have K4_a := hid (At.alloc (K3_a.out) (.cells #[.int .i64 q, .slice so0r r so0c] 24))
    have K4_b := hid (At.alloc (K3_b.out) (.cells #[.int .i64 q, .slice so0r r so0c] 24))
    have K4_x := hid (At.alloc (K3_x.out) (.cells #[.int .i64 q, .slice so0r r so0c] 24))
    have K4_y := hid (At.alloc (K3_y.out) (.cells #[.int .i64 q, .slice so0r r so0c] 24))
    have K4_lx := hid (LentW.kept (K3_lx.out) al)
    have K4_ly := hid (LentW.kept (K3_ly.out) al)
    have K4_rc := hid ((K3_rc.out).kept al)
    have K4_c := hid (At.alloc (K3_c.out) (.cells #[.int .i64 q, .slice so0r r so0c] 24))
    have K4_rw := hid ((K3_rw.out).kept al)
    have K4_want := hid (At.new w3 #[.int .i64 q, .slice so0r r so0c] 24)
    have hB4 := Below.alloc hB3 hB3.size (.cells #[.int .i64 q, .slice so0r r so0c] 24)
    clear al K3_a K3_b K3_x K3_y K3_lx K3_ly K3_rc K3_c K3_rw hB3
    obtain ⟨c0_c, c1_c, f0_c, f1_c⟩ := (K4_c.out).facts
    obtain ⟨c0_want, c1_want, f0_want, f1_want⟩ := (K4_want.out).facts
    go_wp2_with fail
    have s5_a := hid (K4_a.out).lt
    have s5_b := hid (K4_b.out).lt
    have s5_x := hid (K4_x.out).lt
    have s5_y := hid (K4_y.out).lt
    have s5_c := hid (K4_c.out).lt
    have s5_want := hid (K4_want.out).lt
    refine Calls.mono (same_true q so0 so0r r r so0c (rowOf (fun i => bitAt X i && bitAt Y i) n.toNat) hq'.out (by omega) _ ((K4_rc.out).wds (fun j _ => rowOf_lt _ _ _)) (K4_rw.out).wds) ?_
    rintro e w5 ⟨rfl, hb⟩
    clear c0_c c1_c f0_c f1_c c0_want c1_want f0_want f1_want
    have K5_a := hid (At.keptAll (K4_a.out) hb)
    have K5_b := hid (At.keptAll (K4_b.out) hb)
    have K5_x := hid (At.keptAll (K4_x.out) hb)
    have K5_y := hid (At.keptAll (K4_y.out) hb)
    have K5_lx := hid (LentW.kept (K4_lx.out) hb)
    have K5_ly := hid (LentW.kept (K4_ly.out) hb)
    have K5_c := hid (At.keptAll (K4_c.out) hb)
    have K5_want := hid (At.keptAll (K4_want.out) hb)
    have hB5 : Below w.heap.size w w5 := Below.trans hB4 (Below.mono hb hB4.size)
    clear K4_a K4_b K4_x K4_y K4_lx K4_ly K4_rc K4_c K4_rw K4_want hb hB4
    obtain ⟨c0_x, c1_x, f0_x, f1_x⟩ := (K5_x.out).facts
    obtain ⟨c0_y, c1_y, f0_y, f1_y⟩ := (K5_y.out).facts
    go_wp2_with fail
    have s6_a := hid (K5_a.out).lt
    have s6_b := hid (K5_b.out).lt
    have s6_x := hid (K5_x.out).lt
    have s6_y := hid (K5_y.out).lt
    have s6_c := hid (K5_c.out).lt
    have s6_want := hid (K5_want.out).lt
    refine Calls.mono (or_gives n m (some ⟨g, 0, none⟩) (some ⟨g2, 0, none⟩) k l c c2 X Y E q r hn'.out hm'.out (by omega) (by omega) hE' _ (LentB.wds (K5_lx.out) hX.out) (LentB.wds (K5_ly.out) hY.out)) ?_
    rintro e w6 ⟨hb, so1, hown, rfl⟩
    clear c0_x c1_x f0_x f1_x c0_y c1_y f0_y f1_y
    have K6_a := hid (At.keptAll (K5_a.out) hb)
    have K6_b := hid (At.keptAll (K5_b.out) hb)
    have K6_x := hid (At.keptAll (K5_x.out) hb)
    have K6_y := hid (At.keptAll (K5_y.out) hb)
    have K6_lx := hid (LentW.kept (K5_lx.out) hb)
    have K6_ly := hid (LentW.kept (K5_ly.out) hb)
    have K6_c := hid (At.keptAll (K5_c.out) hb)
    have K6_want := hid (At.keptAll (K5_want.out) hb)
    have hB6 : Below w.heap.size w w6 := Below.trans hB5 (Below.mono hb hB5.size)
    clear K5_a K5_b K5_x K5_y K5_lx K5_ly K5_c K5_want hb hB5
    have K6_rc := hid hown
    clear hown
    obtain ⟨c0_c, c1_c, f0_c, f1_c⟩ := (K6_c.out).facts
    obtain ⟨c0_a, c1_a, f0_a, f1_a⟩ := (K6_a.out).facts
    obtain ⟨c0_b, c1_b, f0_b, f1_b⟩ := (K6_b.out).facts
    have K7_a := hid (At.other (p := ⟨w1.heap.size, 1, none⟩) (At.other (p := ⟨w1.heap.size, 0, none⟩) (K6_a.out) (by show w.heap.size ≠ w1.heap.size; omega) (.int .i64 q)) (by show w.heap.size ≠ w1.heap.size; omega) (.slice so1 r r))
    have K7_b := hid (At.other (p := ⟨w1.heap.size, 1, none⟩) (At.other (p := ⟨w1.heap.size, 0, none⟩) (K6_b.out) (by show (w.heap.size + 1) ≠ w1.heap.size; omega) (.int .i64 q)) (by show (w.heap.size + 1) ≠ w1.heap.size; omega) (.slice so1 r r))
    have K7_x := hid (At.other (p := ⟨w1.heap.size, 1, none⟩) (At.other (p := ⟨w1.heap.size, 0, none⟩) (K6_x.out) (by show p5 ≠ w1.heap.size; omega) (.int .i64 q)) (by show p5 ≠ w1.heap.size; omega) (.slice so1 r r))
    have K7_y := hid (At.other (p := ⟨w1.heap.size, 1, none⟩) (At.other (p := ⟨w1.heap.size, 0, none⟩) (K6_y.out) (by show p6 ≠ w1.heap.size; omega) (.int .i64 q)) (by show p6 ≠ w1.heap.size; omega) (.slice so1 r r))
    have K7_lx := hid (LentW.other (p := ⟨w1.heap.size, 1, none⟩) (LentW.other (p := ⟨w1.heap.size, 0, none⟩) (K6_lx.out) (by show g ≠ w1.heap.size; omega) (.int .i64 q)) (by show g ≠ w1.heap.size; omega) (.slice so1 r r))
    have K7_ly := hid (LentW.other (p := ⟨w1.heap.size, 1, none⟩) (LentW.other (p := ⟨w1.heap.size, 0, none⟩) (K6_ly.out) (by show g2 ≠ w1.heap.size; omega) (.int .i64 q)) (by show g2 ≠ w1.heap.size; omega) (.slice so1 r r))
    have K7_c := hid (At.two (x' := .int .i64 q) (y' := .slice so1 r r) (K6_c.out))
    have K7_want := hid (At.other (p := ⟨w1.heap.size, 1, none⟩) (At.other (p := ⟨w1.heap.size, 0, none⟩) (K6_want.out) (by show w3.heap.size ≠ w1.heap.size; omega) (.int .i64 q)) (by show w3.heap.size ≠ w1.heap.size; omega) (.slice so1 r r))
    have K7_rc := hid ((K6_rc.out).other2 (by show w1.heap.size < _; exact s6_c.out) (.int .i64 q) (.slice so1 r r))
    have hB7 := Below.setCell (p := ⟨w1.heap.size, 1, none⟩) (Below.setCell (p := ⟨w1.heap.size, 0, none⟩) hB6 (by show w.heap.size ≤ w1.heap.size; omega) (.int .i64 q)) (by show w.heap.size ≤ w1.heap.size; omega) (.slice so1 r r)
    clear K6_a K6_b K6_x K6_y K6_lx K6_ly K6_c K6_want K6_rc hB6
    go_wp2_with fail
    have s8_a := hid (K7_a.out).lt
    have s8_b := hid (K7_b.out).lt
    have s8_x := hid (K7_x.out).lt
    have s8_y := hid (K7_y.out).lt
    have s8_c := hid (K7_c.out).lt
    have s8_want := hid (K7_want.out).lt
    refine Calls.mono (refBoth_calls 1 (fun x y => x || y) (.inr (.inl ⟨rfl, rfl⟩)) n m ao bo k l cap cap' X Y E q r hn'.out hm'.out hk hl hE' _ (hW'.out.kept hB7) (hV'.out.kept hB7)) ?_
    rintro e w8 ⟨hb, so1r, so1c, hwd, rfl⟩
    clear c0_c c1_c f0_c f1_c c0_a c1_a f0_a f1_a c0_b c1_b f0_b f1_b
    have K8_a := hid (At.keptAll (K7_a.out) hb)
    have K8_b := hid (At.keptAll (K7_b.out) hb)
    have K8_x := hid (At.keptAll (K7_x.out) hb)
    have K8_y := hid (At.keptAll (K7_y.out) hb)
    have K8_lx := hid (LentW.kept (K7_lx.out) hb)
    have K8_ly := hid (LentW.kept (K7_ly.out) hb)
    have K8_c := hid (At.keptAll (K7_c.out) hb)
    have K8_want := hid (At.keptAll (K7_want.out) hb)
    have K8_rc := hid ((K7_rc.out).kept hb)
    have hB8 : Below w.heap.size w w8 := Below.trans hB7 (Below.mono hb hB7.size)
    clear K7_a K7_b K7_x K7_y K7_lx K7_ly K7_c K7_want K7_rc hb hB7
    have K8_rw := hid hwd
    clear hwd
    obtain ⟨c0_want, c1_want, f0_want, f1_want⟩ := (K8_want.out).facts
    obtain ⟨c0_c, c1_c, f0_c, f1_c⟩ := (K8_c.out).facts
    have K9_a := hid (At.other (p := ⟨w3.heap.size, 1, none⟩) (At.other (p := ⟨w3.heap.size, 0, none⟩) (K8_a.out) (by show w.heap.size ≠ w3.heap.size; omega) (.int .i64 q)) (by show w.heap.size ≠ w3.heap.size; omega) (.slice so1r r so1c))
    have K9_b := hid (At.other (p := ⟨w3.heap.size, 1, none⟩) (At.other (p := ⟨w3.heap.size, 0, none⟩) (K8_b.out) (by show (w.heap.size + 1) ≠ w3.heap.size; omega) (.int .i64 q)) (by show (w.heap.size + 1) ≠ w3.heap.size; omega) (.slice so1r r so1c))
    have K9_x := hid (At.other (p := ⟨w3.heap.size, 1, none⟩) (At.other (p := ⟨w3.heap.size, 0, none⟩) (K8_x.out) (by show p5 ≠ w3.heap.size; omega) (.int .i64 q)) (by show p5 ≠ w3.heap.size; omega) (.slice so1r r so1c))
    have K9_y := hid (At.other (p := ⟨w3.heap.size, 1, none⟩) (At.other (p := ⟨w3.heap.size, 0, none⟩) (K8_y.out) (by show p6 ≠ w3.heap.size; omega) (.int .i64 q)) (by show p6 ≠ w3.heap.size; omega) (.slice so1r r so1c))
    have K9_lx := hid (LentW.other (p := ⟨w3.heap.size, 1, none⟩) (LentW.other (p := ⟨w3.heap.size, 0, none⟩) (K8_lx.out) (by show g ≠ w3.heap.size; omega) (.int .i64 q)) (by show g ≠ w3.heap.size; omega) (.slice so1r r so1c))
    have K9_ly := hid (LentW.other (p := ⟨w3.heap.size, 1, none⟩) (LentW.other (p := ⟨w3.heap.size, 0, none⟩) (K8_ly.out) (by show g2 ≠ w3.heap.size; omega) (.int .i64 q)) (by show g2 ≠ w3.heap.size; omega) (.slice so1r r so1c))
    have K9_c := hid (At.other (p := ⟨w3.heap.size, 1, none⟩) (At.other (p := ⟨w3.heap.size, 0, none⟩) (K8_c.out) (by show w1.heap.size ≠ w3.heap.size; omega) (.int .i64 q)) (by show w1.heap.size ≠ w3.heap.size; omega) (.slice so1r r so1c))
    have K9_want := hid (At.two (x' := .int .i64 q) (y' := .slice so1r r so1c) (K8_want.out))
    have K9_rc := hid ((K8_rc.out).other2 (by show w3.heap.size < _; exact s6_want.out) (.int .i64 q) (.slice so1r r so1c))
    have K9_rw := hid ((K8_rw.out).other2 (by show w3.heap.size < _; exact s8_want.out) (.int .i64 q) (.slice so1r r so1c))
    have hB9 := Below.setCell (p := ⟨w3.heap.size, 1, none⟩) (Below.setCell (p := ⟨w3.heap.size, 0, none⟩) hB8 (by show w.heap.size ≤ w3.heap.size; omega) (.int .i64 q)) (by show w.heap.size ≤ w3.heap.size; omega) (.slice so1r r so1c)
    clear K8_a K8_b K8_x K8_y K8_lx K8_ly K8_c K8_want K8_rc K8_rw hB8
    go_wp2_with fail
    have s10_a := hid (K9_a.out).lt
    have s10_b := hid (K9_b.out).lt
    have s10_x := hid (K9_x.out).lt
    have s10_y := hid (K9_y.out).lt
    have s10_c := hid (K9_c.out).lt
    have s10_want := hid (K9_want.out).lt
    refine Calls.mono (same_true q so1 so1r r r so1c (rowOf (fun i => bitAt X i || bitAt Y i) n.toNat) hq'.out (by omega) _ ((K9_rc.out).wds (fun j _ => rowOf_lt _ _ _)) (K9_rw.out).wds) ?_
    rintro e w10 ⟨rfl, hb⟩
    clear c0_want c1_want f0_want f1_want c0_c c1_c f0_c f1_c
    have K10_a := hid (At.keptAll (K9_a.out) hb)
    have K10_b := hid (At.keptAll (K9_b.out) hb)
    have K10_x := hid (At.keptAll (K9_x.out) hb)
    have K10_y := hid (At.keptAll (K9_y.out) hb)
    have K10_lx := hid (LentW.kept (K9_lx.out) hb)
    have K10_ly := hid (LentW.kept (K9_ly.out) hb)
    have K10_c := hid (At.keptAll (K9_c.out) hb)
    have K10_want := hid (At.keptAll (K9_want.out) hb)
    have hB10 : Below w.heap.size w w10 := Below.trans hB9 (Below.mono hb hB9.size)
    clear K9_a K9_b K9_x K9_y K9_lx K9_ly K9_c K9_want K9_rc K9_rw hb hB9
    obtain ⟨c0_x, c1_x, f0_x, f1_x⟩ := (K10_x.out).facts
    obtain ⟨c0_y, c1_y, f0_y, f1_y⟩ := (K10_y.out).facts
    go_wp2_with fail
    have s11_a := hid (K10_a.out).lt
    have s11_b := hid (K10_b.out).lt
    have s11_x := hid (K10_x.out).lt
    have s11_y := hid (K10_y.out).lt
    have s11_c := hid (K10_c.out).lt
    have s11_want := hid (K10_want.out).lt
    refine Calls.mono (xor_gives n m (some ⟨g, 0, none⟩) (some ⟨g2, 0, none⟩) k l c c2 X Y E q r hn'.out hm'.out (by omega) (by omega) hE' _ (LentB.wds (K10_lx.out) hX.out) (LentB.wds (K10_ly.out) hY.out)) ?_
    rintro e w11 ⟨hb, so2, hown, rfl⟩
    clear c0_x c1_x f0_x f1_x c0_y c1_y f0_y f1_y
    have K11_a := hid (At.keptAll (K10_a.out) hb)
    have K11_b := hid (At.keptAll (K10_b.out) hb)
    have K11_x := hid (At.keptAll (K10_x.out) hb)
    have K11_y := hid (At.keptAll (K10_y.out) hb)
    have K11_lx := hid (LentW.kept (K10_lx.out) hb)
    have K11_ly := hid (LentW.kept (K10_ly.out) hb)
    have K11_c := hid (At.keptAll (K10_c.out) hb)
    have K11_want := hid (At.keptAll (K10_want.out) hb)
    have hB11 : Below w.heap.size w w11 := Below.trans hB10 (Below.mono hb hB10.size)
    clear K10_a K10_b K10_x K10_y K10_lx K10_ly K10_c K10_want hb hB10
    have K11_rc := hid hown
    clear hown
    obtain ⟨c0_c, c1_c, f0_c, f1_c⟩ := (K11_c.out).facts
    obtain ⟨c0_a, c1_a, f0_a, f1_a⟩ := (K11_a.out).facts
    obtain ⟨c0_b, c1_b, f0_b, f1_b⟩ := (K11_b.out).facts
    have K12_a := hid (At.other (p := ⟨w1.heap.size, 1, none⟩) (At.other (p := ⟨w1.heap.size, 0, none⟩) (K11_a.out) (by show w.heap.size ≠ w1.heap.size; omega) (.int .i64 q)) (by show w.heap.size ≠ w1.heap.size; omega) (.slice so2 r r))
    have K12_b := hid (At.other (p := ⟨w1.heap.size, 1, none⟩) (At.other (p := ⟨w1.heap.size, 0, none⟩) (K11_b.out) (by show (w.heap.size + 1) ≠ w1.heap.size; omega) (.int .i64 q)) (by show (w.heap.size + 1) ≠ w1.heap.size; omega) (.slice so2 r r))
    have K12_x := hid (At.other (p := ⟨w1.heap.size, 1, none⟩) (At.other (p := ⟨w1.heap.size, 0, none⟩) (K11_x.out) (by show p5 ≠ w1.heap.size; omega) (.int .i64 q)) (by show p5 ≠ w1.heap.size; omega) (.slice so2 r r))
    have K12_y := hid (At.other (p := ⟨w1.heap.size, 1, none⟩) (At.other (p := ⟨w1.heap.size, 0, none⟩) (K11_y.out) (by show p6 ≠ w1.heap.size; omega) (.int .i64 q)) (by show p6 ≠ w1.heap.size; omega) (.slice so2 r r))
    have K12_lx := hid (LentW.other (p := ⟨w1.heap.size, 1, none⟩) (LentW.other (p := ⟨w1.heap.size, 0, none⟩) (K11_lx.out) (by show g ≠ w1.heap.size; omega) (.int .i64 q)) (by show g ≠ w1.heap.size; omega) (.slice so2 r r))
    have K12_ly := hid (LentW.other (p := ⟨w1.heap.size, 1, none⟩) (LentW.other (p := ⟨w1.heap.size, 0, none⟩) (K11_ly.out) (by show g2 ≠ w1.heap.size; omega) (.int .i64 q)) (by show g2 ≠ w1.heap.size; omega) (.slice so2 r r))
    have K12_c := hid (At.two (x' := .int .i64 q) (y' := .slice so2 r r) (K11_c.out))
    have K12_want := hid (At.other (p := ⟨w1.heap.size, 1, none⟩) (At.other (p := ⟨w1.heap.size, 0, none⟩) (K11_want.out) (by show w3.heap.size ≠ w1.heap.size; omega) (.int .i64 q)) (by show w3.heap.size ≠ w1.heap.size; omega) (.slice so2 r r))
    have K12_rc := hid ((K11_rc.out).other2 (by show w1.heap.size < _; exact s11_c.out) (.int .i64 q) (.slice so2 r r))
    have hB12 := Below.setCell (p := ⟨w1.heap.size, 1, none⟩) (Below.setCell (p := ⟨w1.heap.size, 0, none⟩) hB11 (by show w.heap.size ≤ w1.heap.size; omega) (.int .i64 q)) (by show w.heap.size ≤ w1.heap.size; omega) (.slice so2 r r)
    clear K11_a K11_b K11_x K11_y K11_lx K11_ly K11_c K11_want K11_rc hB11
    go_wp2_with fail
    have s13_a := hid (K12_a.out).lt
    have s13_b := hid (K12_b.out).lt
    have s13_x := hid (K12_x.out).lt
    have s13_y := hid (K12_y.out).lt
    have s13_c := hid (K12_c.out).lt
    have s13_want := hid (K12_want.out).lt
    refine Calls.mono (refBoth_calls 2 (fun x y => x ^^ y) (.inr (.inr (.inl ⟨rfl, rfl⟩))) n m ao bo k l cap cap' X Y E q r hn'.out hm'.out hk hl hE' _ (hW'.out.kept hB12) (hV'.out.kept hB12)) ?_
    rintro e w13 ⟨hb, so2r, so2c, hwd, rfl⟩
    clear c0_c c1_c f0_c f1_c c0_a c1_a f0_a f1_a c0_b c1_b f0_b f1_b
    have K13_a := hid (At.keptAll (K12_a.out) hb)
    have K13_b := hid (At.keptAll (K12_b.out) hb)
    have K13_x := hid (At.keptAll (K12_x.out) hb)
    have K13_y := hid (At.keptAll (K12_y.out) hb)
    have K13_lx := hid (LentW.kept (K12_lx.out) hb)
    have K13_ly := hid (LentW.kept (K12_ly.out) hb)
    have K13_c := hid (At.keptAll (K12_c.out) hb)
    have K13_want := hid (At.keptAll (K12_want.out) hb)
    have K13_rc := hid ((K12_rc.out).kept hb)
    have hB13 : Below w.heap.size w w13 := Below.trans hB12 (Below.mono hb hB12.size)
    clear K12_a K12_b K12_x K12_y K12_lx K12_ly K12_c K12_want K12_rc hb hB12
    have K13_rw := hid hwd
    clear hwd
    obtain ⟨c0_want, c1_want, f0_want, f1_want⟩ := (K13_want.out).facts
    obtain ⟨c0_c, c1_c, f0_c, f1_c⟩ := (K13_c.out).facts
    have K14_a := hid (At.other (p := ⟨w3.heap.size, 1, none⟩) (At.other (p := ⟨w3.heap.size, 0, none⟩) (K13_a.out) (by show w.heap.size ≠ w3.heap.size; omega) (.int .i64 q)) (by show w.heap.size ≠ w3.heap.size; omega) (.slice so2r r so2c))
    have K14_b := hid (At.other (p := ⟨w3.heap.size, 1, none⟩) (At.other (p := ⟨w3.heap.size, 0, none⟩) (K13_b.out) (by show (w.heap.size + 1) ≠ w3.heap.size; omega) (.int .i64 q)) (by show (w.heap.size + 1) ≠ w3.heap.size; omega) (.slice so2r r so2c))
    have K14_x := hid (At.other (p := ⟨w3.heap.size, 1, none⟩) (At.other (p := ⟨w3.heap.size, 0, none⟩) (K13_x.out) (by show p5 ≠ w3.heap.size; omega) (.int .i64 q)) (by show p5 ≠ w3.heap.size; omega) (.slice so2r r so2c))
    have K14_y := hid (At.other (p := ⟨w3.heap.size, 1, none⟩) (At.other (p := ⟨w3.heap.size, 0, none⟩) (K13_y.out) (by show p6 ≠ w3.heap.size; omega) (.int .i64 q)) (by show p6 ≠ w3.heap.size; omega) (.slice so2r r so2c))
    have K14_lx := hid (LentW.other (p := ⟨w3.heap.size, 1, none⟩) (LentW.other (p := ⟨w3.heap.size, 0, none⟩) (K13_lx.out) (by show g ≠ w3.heap.size; omega) (.int .i64 q)) (by show g ≠ w3.heap.size; omega) (.slice so2r r so2c))
    have K14_ly := hid (LentW.other (p := ⟨w3.heap.size, 1, none⟩) (LentW.other (p := ⟨w3.heap.size, 0, none⟩) (K13_ly.out) (by show g2 ≠ w3.heap.size; omega) (.int .i64 q)) (by show g2 ≠ w3.heap.size; omega) (.slice so2r r so2c))
    have K14_c := hid (At.other (p := ⟨w3.heap.size, 1, none⟩) (At.other (p := ⟨w3.heap.size, 0, none⟩) (K13_c.out) (by show w1.heap.size ≠ w3.heap.size; omega) (.int .i64 q)) (by show w1.heap.size ≠ w3.heap.size; omega) (.slice so2r r so2c))
    have K14_want := hid (At.two (x' := .int .i64 q) (y' := .slice so2r r so2c) (K13_want.out))
    have K14_rc := hid ((K13_rc.out).other2 (by show w3.heap.size < _; exact s11_want.out) (.int .i64 q) (.slice so2r r so2c))
    have K14_rw := hid ((K13_rw.out).other2 (by show w3.heap.size < _; exact s13_want.out) (.int .i64 q) (.slice so2r r so2c))
    have hB14 := Below.setCell (p := ⟨w3.heap.size, 1, none⟩) (Below.setCell (p := ⟨w3.heap.size, 0, none⟩) hB13 (by show w.heap.size ≤ w3.heap.size; omega) (.int .i64 q)) (by show w.heap.size ≤ w3.heap.size; omega) (.slice so2r r so2c)
    clear K13_a K13_b K13_x K13_y K13_lx K13_ly K13_c K13_want K13_rc K13_rw hB13
    go_wp2_with fail
    have s15_a := hid (K14_a.out).lt
    have s15_b := hid (K14_b.out).lt
    have s15_x := hid (K14_x.out).lt
    have s15_y := hid (K14_y.out).lt
    have s15_c := hid (K14_c.out).lt
    have s15_want := hid (K14_want.out).lt
    refine Calls.mono (same_true q so2 so2r r r so2c (rowOf (fun i => bitAt X i ^^ bitAt Y i) n.toNat) hq'.out (by omega) _ ((K14_rc.out).wds (fun j _ => rowOf_lt _ _ _)) (K14_rw.out).wds) ?_
    rintro e w15 ⟨rfl, hb⟩
    clear c0_want c1_want f0_want f1_want c0_c c1_c f0_c f1_c
    have K15_a := hid (At.keptAll (K14_a.out) hb)
    have K15_b := hid (At.keptAll (K14_b.out) hb)
    have K15_x := hid (At.keptAll (K14_x.out) hb)
    have K15_y := hid (At.keptAll (K14_y.out) hb)
    have K15_lx := hid (LentW.kept (K14_lx.out) hb)
    have K15_ly := hid (LentW.kept (K14_ly.out) hb)
    have K15_c := hid (At.keptAll (K14_c.out) hb)
    have K15_want := hid (At.keptAll (K14_want.out) hb)
    have hB15 : Below w.heap.size w w15 := Below.trans hB14 (Below.mono hb hB14.size)
    clear K14_a K14_b K14_x K14_y K14_lx K14_ly K14_c K14_want K14_rc K14_rw hb hB14
    obtain ⟨c0_x, c1_x, f0_x, f1_x⟩ := (K15_x.out).facts
    obtain ⟨c0_y, c1_y, f0_y, f1_y⟩ := (K15_y.out).facts
    go_wp2_with fail
    have s16_a := hid (K15_a.out).lt
    have s16_b := hid (K15_b.out).lt
    have s16_x := hid (K15_x.out).lt
    have s16_y := hid (K15_y.out).lt
    have s16_c := hid (K15_c.out).lt
    have s16_want := hid (K15_want.out).lt
    refine Calls.mono (minus_gives n m (some ⟨g, 0, none⟩) (some ⟨g2, 0, none⟩) k l c c2 X Y E q r hn'.out hm'.out (by omega) (by omega) hE' _ (LentB.wds (K15_lx.out) hX.out) (LentB.wds (K15_ly.out) hY.out)) ?_
    rintro e w16 ⟨hb, so3, hown, rfl⟩
    clear c0_x c1_x f0_x f1_x c0_y c1_y f0_y f1_y
    have K16_a := hid (At.keptAll (K15_a.out) hb)
    have K16_b := hid (At.keptAll (K15_b.out) hb)
    have K16_x := hid (At.keptAll (K15_x.out) hb)
    have K16_y := hid (At.keptAll (K15_y.out) hb)
    have K16_lx := hid (LentW.kept (K15_lx.out) hb)
    have K16_ly := hid (LentW.kept (K15_ly.out) hb)
    have K16_c := hid (At.keptAll (K15_c.out) hb)
    have K16_want := hid (At.keptAll (K15_want.out) hb)
    have hB16 : Below w.heap.size w w16 := Below.trans hB15 (Below.mono hb hB15.size)
    clear K15_a K15_b K15_x K15_y K15_lx K15_ly K15_c K15_want hb hB15
    have K16_rc := hid hown
    clear hown
    obtain ⟨c0_c, c1_c, f0_c, f1_c⟩ := (K16_c.out).facts
    obtain ⟨c0_a, c1_a, f0_a, f1_a⟩ := (K16_a.out).facts
    obtain ⟨c0_b, c1_b, f0_b, f1_b⟩ := (K16_b.out).facts
    have K17_a := hid (At.other (p := ⟨w1.heap.size, 1, none⟩) (At.other (p := ⟨w1.heap.size, 0, none⟩) (K16_a.out) (by show w.heap.size ≠ w1.heap.size; omega) (.int .i64 q)) (by show w.heap.size ≠ w1.heap.size; omega) (.slice so3 r r))
    have K17_b := hid (At.other (p := ⟨w1.heap.size, 1, none⟩) (At.other (p := ⟨w1.heap.size, 0, none⟩) (K16_b.out) (by show (w.heap.size + 1) ≠ w1.heap.size; omega) (.int .i64 q)) (by show (w.heap.size + 1) ≠ w1.heap.size; omega) (.slice so3 r r))
    have K17_x := hid (At.other (p := ⟨w1.heap.size, 1, none⟩) (At.other (p := ⟨w1.heap.size, 0, none⟩) (K16_x.out) (by show p5 ≠ w1.heap.size; omega) (.int .i64 q)) (by show p5 ≠ w1.heap.size; omega) (.slice so3 r r))
    have K17_y := hid (At.other (p := ⟨w1.heap.size, 1, none⟩) (At.other (p := ⟨w1.heap.size, 0, none⟩) (K16_y.out) (by show p6 ≠ w1.heap.size; omega) (.int .i64 q)) (by show p6 ≠ w1.heap.size; omega) (.slice so3 r r))
    have K17_lx := hid (LentW.other (p := ⟨w1.heap.size, 1, none⟩) (LentW.other (p := ⟨w1.heap.size, 0, none⟩) (K16_lx.out) (by show g ≠ w1.heap.size; omega) (.int .i64 q)) (by show g ≠ w1.heap.size; omega) (.slice so3 r r))
    have K17_ly := hid (LentW.other (p := ⟨w1.heap.size, 1, none⟩) (LentW.other (p := ⟨w1.heap.size, 0, none⟩) (K16_ly.out) (by show g2 ≠ w1.heap.size; omega) (.int .i64 q)) (by show g2 ≠ w1.heap.size; omega) (.slice so3 r r))
    have K17_c := hid (At.two (x' := .int .i64 q) (y' := .slice so3 r r) (K16_c.out))
    have K17_want := hid (At.other (p := ⟨w1.heap.size, 1, none⟩) (At.other (p := ⟨w1.heap.size, 0, none⟩) (K16_want.out) (by show w3.heap.size ≠ w1.heap.size; omega) (.int .i64 q)) (by show w3.heap.size ≠ w1.heap.size; omega) (.slice so3 r r))
    have K17_rc := hid ((K16_rc.out).other2 (by show w1.heap.size < _; exact s16_c.out) (.int .i64 q) (.slice so3 r r))
    have hB17 := Below.setCell (p := ⟨w1.heap.size, 1, none⟩) (Below.setCell (p := ⟨w1.heap.size, 0, none⟩) hB16 (by show w.heap.size ≤ w1.heap.size; omega) (.int .i64 q)) (by show w.heap.size ≤ w1.heap.size; omega) (.slice so3 r r)
    clear K16_a K16_b K16_x K16_y K16_lx K16_ly K16_c K16_want K16_rc hB16
    go_wp2_with fail
    have s18_a := hid (K17_a.out).lt
    have s18_b := hid (K17_b.out).lt
    have s18_x := hid (K17_x.out).lt
    have s18_y := hid (K17_y.out).lt
    have s18_c := hid (K17_c.out).lt
    have s18_want := hid (K17_want.out).lt
    refine Calls.mono (refBoth_calls 3 (fun x y => x && !y) (.inr (.inr (.inr ⟨rfl, rfl⟩))) n m ao bo k l cap cap' X Y E q r hn'.out hm'.out hk hl hE' _ (hW'.out.kept hB17) (hV'.out.kept hB17)) ?_
    rintro e w18 ⟨hb, so3r, so3c, hwd, rfl⟩
    clear c0_c c1_c f0_c f1_c c0_a c1_a f0_a f1_a c0_b c1_b f0_b f1_b
    have K18_a := hid (At.keptAll (K17_a.out) hb)
    have K18_b := hid (At.keptAll (K17_b.out) hb)
    have K18_x := hid (At.keptAll (K17_x.out) hb)
    have K18_y := hid (At.keptAll (K17_y.out) hb)
    have K18_lx := hid (LentW.kept (K17_lx.out) hb)
    have K18_ly := hid (LentW.kept (K17_ly.out) hb)
    have K18_c := hid (At.keptAll (K17_c.out) hb)
    have K18_want := hid (At.keptAll (K17_want.out) hb)
    have K18_rc := hid ((K17_rc.out).kept hb)
    have hB18 : Below w.heap.size w w18 := Below.trans hB17 (Below.mono hb hB17.size)
    clear K17_a K17_b K17_x K17_y K17_lx K17_ly K17_c K17_want K17_rc hb hB17
    have K18_rw := hid hwd
    clear hwd
    obtain ⟨c0_want, c1_want, f0_want, f1_want⟩ := (K18_want.out).facts
    obtain ⟨c0_c, c1_c, f0_c, f1_c⟩ := (K18_c.out).facts
    have K19_a := hid (At.other (p := ⟨w3.heap.size, 1, none⟩) (At.other (p := ⟨w3.heap.size, 0, none⟩) (K18_a.out) (by show w.heap.size ≠ w3.heap.size; omega) (.int .i64 q)) (by show w.heap.size ≠ w3.heap.size; omega) (.slice so3r r so3c))
    have K19_b := hid (At.other (p := ⟨w3.heap.size, 1, none⟩) (At.other (p := ⟨w3.heap.size, 0, none⟩) (K18_b.out) (by show (w.heap.size + 1) ≠ w3.heap.size; omega) (.int .i64 q)) (by show (w.heap.size + 1) ≠ w3.heap.size; omega) (.slice so3r r so3c))
    have K19_x := hid (At.other (p := ⟨w3.heap.size, 1, none⟩) (At.other (p := ⟨w3.heap.size, 0, none⟩) (K18_x.out) (by show p5 ≠ w3.heap.size; omega) (.int .i64 q)) (by show p5 ≠ w3.heap.size; omega) (.slice so3r r so3c))
    have K19_y := hid (At.other (p := ⟨w3.heap.size, 1, none⟩) (At.other (p := ⟨w3.heap.size, 0, none⟩) (K18_y.out) (by show p6 ≠ w3.heap.size; omega) (.int .i64 q)) (by show p6 ≠ w3.heap.size; omega) (.slice so3r r so3c))
    have K19_lx := hid (LentW.other (p := ⟨w3.heap.size, 1, none⟩) (LentW.other (p := ⟨w3.heap.size, 0, none⟩) (K18_lx.out) (by show g ≠ w3.heap.size; omega) (.int .i64 q)) (by show g ≠ w3.heap.size; omega) (.slice so3r r so3c))
    have K19_ly := hid (LentW.other (p := ⟨w3.heap.size, 1, none⟩) (LentW.other (p := ⟨w3.heap.size, 0, none⟩) (K18_ly.out) (by show g2 ≠ w3.heap.size; omega) (.int .i64 q)) (by show g2 ≠ w3.heap.size; omega) (.slice so3r r so3c))
    have K19_c := hid (At.other (p := ⟨w3.heap.size, 1, none⟩) (At.other (p := ⟨w3.heap.size, 0, none⟩) (K18_c.out) (by show w1.heap.size ≠ w3.heap.size; omega) (.int .i64 q)) (by show w1.heap.size ≠ w3.heap.size; omega) (.slice so3r r so3c))
    have K19_want := hid (At.two (x' := .int .i64 q) (y' := .slice so3r r so3c) (K18_want.out))
    have K19_rc := hid ((K18_rc.out).other2 (by show w3.heap.size < _; exact s16_want.out) (.int .i64 q) (.slice so3r r so3c))
    have K19_rw := hid ((K18_rw.out).other2 (by show w3.heap.size < _; exact s18_want.out) (.int .i64 q) (.slice so3r r so3c))
    have hB19 := Below.setCell (p := ⟨w3.heap.size, 1, none⟩) (Below.setCell (p := ⟨w3.heap.size, 0, none⟩) hB18 (by show w.heap.size ≤ w3.heap.size; omega) (.int .i64 q)) (by show w.heap.size ≤ w3.heap.size; omega) (.slice so3r r so3c)
    clear K18_a K18_b K18_x K18_y K18_lx K18_ly K18_c K18_want K18_rc K18_rw hB18
    go_wp2_with fail
    have s20_a := hid (K19_a.out).lt
    have s20_b := hid (K19_b.out).lt
    have s20_x := hid (K19_x.out).lt
    have s20_y := hid (K19_y.out).lt
    have s20_c := hid (K19_c.out).lt
    have s20_want := hid (K19_want.out).lt
    refine Calls.mono (same_true q so3 so3r r r so3c (rowOf (fun i => bitAt X i && !bitAt Y i) n.toNat) hq'.out (by omega) _ ((K19_rc.out).wds (fun j _ => rowOf_lt _ _ _)) (K19_rw.out).wds) ?_
    rintro e w20 ⟨rfl, hb⟩
    clear c0_want c1_want f0_want f1_want c0_c c1_c f0_c f1_c
    have K20_a := hid (At.keptAll (K19_a.out) hb)
    have K20_b := hid (At.keptAll (K19_b.out) hb)
    have K20_x := hid (At.keptAll (K19_x.out) hb)
    have K20_y := hid (At.keptAll (K19_y.out) hb)
    have K20_lx := hid (LentW.kept (K19_lx.out) hb)
    have K20_ly := hid (LentW.kept (K19_ly.out) hb)
    have K20_c := hid (At.keptAll (K19_c.out) hb)
    have K20_want := hid (At.keptAll (K19_want.out) hb)
    have hB20 : Below w.heap.size w w20 := Below.trans hB19 (Below.mono hb hB19.size)
    clear K19_a K19_b K19_x K19_y K19_lx K19_ly K19_c K19_want K19_rc K19_rw hb hB19
    obtain ⟨c0_x, c1_x, f0_x, f1_x⟩ := (K20_x.out).facts
    obtain ⟨c0_a, c1_a, f0_a, f1_a⟩ := (K20_a.out).facts
    go_wp2_with fail
    have s21_a := hid (K20_a.out).lt
    have s21_b := hid (K20_b.out).lt
    have s21_x := hid (K20_x.out).lt
    have s21_y := hid (K20_y.out).lt
    have s21_c := hid (K20_c.out).lt
    have s21_want := hid (K20_want.out).lt
    refine Calls.mono (keptB_calls n ao k cap g c X (by omega) _ (K20_lx.out) (hW'.out.kept hB20)) ?_
    rintro e w21 ⟨rfl, hb⟩
    clear c0_x c1_x f0_x f1_x c0_a c1_a f0_a f1_a
    have K21_a := hid (At.keptAll (K20_a.out) hb)
    have K21_b := hid (At.keptAll (K20_b.out) hb)
    have K21_x := hid (At.keptAll (K20_x.out) hb)
    have K21_y := hid (At.keptAll (K20_y.out) hb)
    have K21_lx := hid (LentW.kept (K20_lx.out) hb)
    have K21_ly := hid (LentW.kept (K20_ly.out) hb)
    have K21_c := hid (At.keptAll (K20_c.out) hb)
    have K21_want := hid (At.keptAll (K20_want.out) hb)
    have hB21 : Below w.heap.size w w21 := Below.trans hB20 (Below.mono hb hB20.size)
    clear K20_a K20_b K20_x K20_y K20_lx K20_ly K20_c K20_want hb hB20
    obtain ⟨c0_y, c1_y, f0_y, f1_y⟩ := (K21_y.out).facts
    obtain ⟨c0_b, c1_b, f0_b, f1_b⟩ := (K21_b.out).facts
    go_wp2_with fail
    have s22_a := hid (K21_a.out).lt
    have s22_b := hid (K21_b.out).lt
    have s22_x := hid (K21_x.out).lt
    have s22_y := hid (K21_y.out).lt
    have s22_c := hid (K21_c.out).lt
    have s22_want := hid (K21_want.out).lt
    refine Calls.mono (keptB_calls m bo l cap' g2 c2 Y (by omega) _ (K21_ly.out) (hV'.out.kept hB21)) ?_
    rintro e w22 ⟨rfl, hb⟩
    clear c0_y c1_y f0_y f1_y c0_b c1_b f0_b f1_b
    have K22_a := hid (At.keptAll (K21_a.out) hb)
    have K22_b := hid (At.keptAll (K21_b.out) hb)
    have K22_x := hid (At.keptAll (K21_x.out) hb)
    have K22_y := hid (At.keptAll (K21_y.out) hb)
    have K22_lx := hid (LentW.kept (K21_lx.out) hb)
    have K22_ly := hid (LentW.kept (K21_ly.out) hb)
    have K22_c := hid (At.keptAll (K21_c.out) hb)
    have K22_want := hid (At.keptAll (K21_want.out) hb)
    have hB22 : Below w.heap.size w w22 := Below.trans hB21 (Below.mono hb hB21.size)
    clear K21_a K21_b K21_x K21_y K21_lx K21_ly K21_c K21_want hb hB21
    go_wp2_with fail
    have s23_a := hid (K22_a.out).lt
    have s23_b := hid (K22_b.out).lt
    have s23_x := hid (K22_x.out).lt
    have s23_y := hid (K22_y.out).lt
    have s23_c := hid (K22_c.out).lt
    have s23_want := hid (K22_want.out).lt
    refine Calls.mono (awake_calls _ (hT'.out.below hB22 h0) (Nat.lt_of_lt_of_le h0 hB22.size)) ?_
    rintro e w23 ⟨rfl, hb⟩
    have K23_a := hid (At.keptAll (K22_a.out) hb)
    have K23_b := hid (At.keptAll (K22_b.out) hb)
    have K23_x := hid (At.keptAll (K22_x.out) hb)
    have K23_y := hid (At.keptAll (K22_y.out) hb)
    have K23_lx := hid (LentW.kept (K22_lx.out) hb)
    have K23_ly := hid (LentW.kept (K22_ly.out) hb)
    have K23_c := hid (At.keptAll (K22_c.out) hb)
    have K23_want := hid (At.keptAll (K22_want.out) hb)
    have hB23 : Below w.heap.size w w23 := Below.trans hB22 (Below.mono hb hB22.size)
    clear K22_a K22_b K22_x K22_y K22_lx K22_ly K22_c K22_want hb hB22
    go_wp2
    go_ret
    exact ⟨rfl, hB23⟩
end Go.Proofs.YtmbkcnhkbpaagaaDoor
