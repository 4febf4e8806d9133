/-
  What quarryref02.Join, Minus and Not answer.
-/
import Derived.Test.YtjeecpgcokjjjaaBlockRef
namespace Go.Proofs.Ytjeecpgcokjjjaa
open Go.RowKit

theorem set_arr_step (p : Nat → Bool) (n : Nat) (hp : p n = true) : clsArr (withC (setC p n) n) = clsArr (setC p (n + 1)) := clsArr_congr fun j hj => set_step p n hp j hj
theorem set_arr_skip (p : Nat → Bool) (n : Nat) (hp : p n = false) : clsArr (setC p n) = clsArr (setC p (n + 1)) := clsArr_congr fun j hj => set_skip p n hp j hj
theorem set_arr_zero (p : Nat → Bool) : clsArr (setC p 0) = clsArr (fun _ => 0) := clsArr_congr fun j _ => set_zero p j
theorem set_arr_all {c : Nat → Nat} (hc : Cls c) (p : Nat → Bool) (h : ∀ x, x < 256 → p x = hasC c x) : clsArr (setC p 256) = clsArr c := clsArr_congr fun j hj => set_all hc p h j hj

set_option maxRecDepth 100000 in
set_option maxHeartbeats 2000000 in
theorem refJoin_calls (c d : Nat → Nat) (hc : Cls c) (hd : Cls d) (w : World) :
    Calls Try.prog 14 #[.agg (clsArr c), .agg (clsArr d)] w fun e w' => e = .returned (.agg (clsArr (fun j => c j ||| d j))) ∧ Below w.heap.size w w' := by
  have hall := set_arr_all (cls_join hc hd) (fun y => hasC c y || hasC d y) (fun x _ => (has_join c d x).symm)
  go_enter Try.func14, Try.ntmps14
  go_wp2
  go_loopw [6] (fun i wr => ∃ k : Nat, k ≤ 256 ∧ i = .int .i64 k ∧ At wr w.heap.size (clsArr c) 25 ∧ At wr (w.heap.size + 1) (clsArr d) 25 ∧ At wr (w.heap.size + 1 + 1) (clsArr fun _ => 0) 25 ∧ At wr (w.heap.size + 1 + 1 + 1) (clsArr (setC (fun y => hasC c y || hasC d y) k)) 25 ∧ Below w.heap.size w wr) (fun i _ => 256 - (intOf i).toNat)
  case atStart =>
    refine ⟨0, by omega, rfl, ?_, ?_, ?_, ?_, ?_⟩
    · have h := (((At.new w (clsArr c) 25).alloc (.cells (clsArr d) 25)).alloc (.cells (clsArr fun _ => 0) 25)).alloc (.cells (clsArr fun _ => 0) 25)
      simpa [clsArr_zero] using h
    · have h := ((At.new (w.alloc (.cells (clsArr c) 25)) (clsArr d) 25).alloc (.cells (clsArr fun _ => 0) 25)).alloc (.cells (clsArr fun _ => 0) 25)
      simpa [clsArr_zero] using h
    · have h := (At.new ((w.alloc (.cells (clsArr c) 25)).alloc (.cells (clsArr d) 25)) (clsArr fun _ => 0) 25).alloc (.cells (clsArr fun _ => 0) 25)
      simpa [clsArr_zero] using h
    · have h := At.new (((w.alloc (.cells (clsArr c) 25)).alloc (.cells (clsArr d) 25)).alloc (.cells (clsArr fun _ => 0) 25)) (clsArr fun _ => 0) 25
      rw [set_arr_zero]
      simpa [clsArr_zero] using h
    · repeat (first | with_reducible exact Below.refl _ _ | with_reducible refine Below.setCell ?_ (by first | (simp; done) | (simp; omega)) _ | with_reducible refine below_drewN ?_ _ | with_reducible refine Below.alloc ?_ (by first | (simp; done) | (simp; omega)) _ | with_reducible refine Below.drew ?_)
  case round =>
    obtain ⟨k, hk, rfl, hAc, hAd, hAr, hAo, hBel⟩ := hrel
    by_cases hlt : k < 256
    · have hk4 : (k : Int) < 256 := by omega
      have hS := cls_set (fun y => hasC c y || hasC d y) k
      generalize hSd : setC (fun y => hasC c y || hasC d y) k = S at hS hAo
      cases h1 : hasC c k
      · cases h2 : hasC d k
        · have hpk : ((fun y => hasC c y || hasC d y) k) = false := by simp [h1, h2]
          obtain ⟨hC2, _⟩ := hAc.four
          go_wp2_with fail
          rw [← clsArr_lit c]
          refine (refHas_calls c hc k hlt _).mono ?_
          rintro e w2 ⟨rfl, hb2⟩
          have hAc2 := hAc.keptAll hb2
          have hAd2 := hAd.keptAll hb2
          have hAr2 := hAr.keptAll hb2
          have hAo2 := hAo.keptAll hb2
          have hBel2 := hBel.trans (hb2.mono hBel.size)
          rw [h1]
          obtain ⟨hC3, _⟩ := hAd2.four
          go_wp2_with fail
          rw [← clsArr_lit d]
          refine (refHas_calls d hd k hlt _).mono ?_
          rintro e w3 ⟨rfl, hb3⟩
          have hAc3 := hAc2.keptAll hb3
          have hAd3 := hAd2.keptAll hb3
          have hAr3 := hAr2.keptAll hb3
          have hAo3 := hAo2.keptAll hb3
          have hBel3 := hBel2.trans (hb3.mono hBel2.size)
          rw [h2]
          go_wp2
          go_roundw
          case rel =>
            refine ⟨k + 1, by omega, by go_num, hAc3, hAd3, hAr3, ?_, hBel3⟩
            rw [← set_arr_skip _ k hpk, hSd]; exact hAo3
          case measure => simp [intOf]; omega
        · have hpk : ((fun y => hasC c y || hasC d y) k) = true := by simp [h1, h2]
          obtain ⟨hC2, _⟩ := hAc.four
          go_wp2_with fail
          rw [← clsArr_lit c]
          refine (refHas_calls c hc k hlt _).mono ?_
          rintro e w2 ⟨rfl, hb2⟩
          have hAc2 := hAc.keptAll hb2
          have hAd2 := hAd.keptAll hb2
          have hAr2 := hAr.keptAll hb2
          have hAo2 := hAo.keptAll hb2
          have hBel2 := hBel.trans (hb2.mono hBel.size)
          rw [h1]
          obtain ⟨hC3, _⟩ := hAd2.four
          go_wp2_with fail
          rw [← clsArr_lit d]
          refine (refHas_calls d hd k hlt _).mono ?_
          rintro e w3 ⟨rfl, hb3⟩
          have hAc3 := hAc2.keptAll hb3
          have hAd3 := hAd2.keptAll hb3
          have hAr3 := hAr2.keptAll hb3
          have hAo3 := hAo2.keptAll hb3
          have hBel3 := hBel2.trans (hb3.mono hBel2.size)
          rw [h2]
          obtain ⟨hO4, _⟩ := hAo3.four
          go_wp2_with fail
          rw [← clsArr_lit S]
          refine (refWith_calls S hS k hlt _).mono ?_
          rintro e w4 ⟨rfl, hb4⟩
          have hAc4 := hAc3.keptAll hb4
          have hAd4 := hAd3.keptAll hb4
          have hAr4 := hAr3.keptAll hb4
          have hAo4 := hAo3.keptAll hb4
          have hBel4 := hBel3.trans (hb4.mono hBel3.size)
          obtain ⟨hO4b, hZ4⟩ := hAo4.four
          rw [clsArr_lit (withC S k)]
          go_wp2
          go_roundw
          case rel =>
            refine ⟨k + 1, by omega, by go_num, ?_, ?_, ?_, ?_, ?_⟩
            · exact (((hAc4.other (by simp; try omega) _).other (by simp; try omega) _).other (by simp; try omega) _).other (by simp; try omega) _
            · exact (((hAd4.other (by simp; try omega) _).other (by simp; try omega) _).other (by simp; try omega) _).other (by simp; try omega) _
            · exact (((hAr4.other (by simp; try omega) _).other (by simp; try omega) _).other (by simp; try omega) _).other (by simp; try omega) _
            · rw [← set_arr_step _ k hpk, hSd]; exact hAo4.put (withC S k)
            · exact (((hBel4.setCell (by simp; try omega) _).setCell (by simp; try omega) _).setCell (by simp; try omega) _).setCell (by simp; try omega) _
          case measure => simp [intOf]; omega
      · have hpk : ((fun y => hasC c y || hasC d y) k) = true := by simp [h1]
        obtain ⟨hC2, _⟩ := hAc.four
        go_wp2_with fail
        rw [← clsArr_lit c]
        refine (refHas_calls c hc k hlt _).mono ?_
        rintro e w2 ⟨rfl, hb2⟩
        have hAc2 := hAc.keptAll hb2
        have hAd2 := hAd.keptAll hb2
        have hAr2 := hAr.keptAll hb2
        have hAo2 := hAo.keptAll hb2
        have hBel2 := hBel.trans (hb2.mono hBel.size)
        rw [h1]
        obtain ⟨hO3, _⟩ := hAo2.four
        go_wp2_with fail
        rw [← clsArr_lit S]
        refine (refWith_calls S hS k hlt _).mono ?_
        rintro e w3 ⟨rfl, hb3⟩
        have hAc3 := hAc2.keptAll hb3
        have hAd3 := hAd2.keptAll hb3
        have hAr3 := hAr2.keptAll hb3
        have hAo3 := hAo2.keptAll hb3
        have hBel3 := hBel2.trans (hb3.mono hBel2.size)
        obtain ⟨hO3b, hZ3⟩ := hAo3.four
        rw [clsArr_lit (withC S k)]
        go_wp2
        go_roundw
        case rel =>
          refine ⟨k + 1, by omega, by go_num, ?_, ?_, ?_, ?_, ?_⟩
          · exact (((hAc3.other (by simp; try omega) _).other (by simp; try omega) _).other (by simp; try omega) _).other (by simp; try omega) _
          · exact (((hAd3.other (by simp; try omega) _).other (by simp; try omega) _).other (by simp; try omega) _).other (by simp; try omega) _
          · exact (((hAr3.other (by simp; try omega) _).other (by simp; try omega) _).other (by simp; try omega) _).other (by simp; try omega) _
          · rw [← set_arr_step _ k hpk, hSd]; exact hAo3.put (withC S k)
          · exact (((hBel3.setCell (by simp; try omega) _).setCell (by simp; try omega) _).setCell (by simp; try omega) _).setCell (by simp; try omega) _
        case measure => simp [intOf]; omega
    · have hk' : k = 256 := by omega
      subst hk'
      rw [hall] at hAo
      obtain ⟨hC, hZ⟩ := hAo.four
      obtain ⟨hD, hY⟩ := hAr.four
      go_wp2
      have hR1 := hAr.put (fun j => c j ||| d j)
      obtain ⟨hC1, hZ1⟩ := hR1.four
      refine bodyPost_ret (v := .agg (clsArr (fun j => c j ||| d j))) (by rw [clsArr_lit (fun j => c j ||| d j)]; simp [results, Try.results14, go_sem, hC1]) rfl ⟨rfl, ?_⟩
      exact (((hBel.setCell (by simp; try omega) _).setCell (by simp; try omega) _).setCell (by simp; try omega) _).setCell (by simp; try omega) _

set_option maxRecDepth 100000 in
set_option maxHeartbeats 2000000 in
theorem refMinus_calls (c d : Nat → Nat) (hc : Cls c) (hd : Cls d) (w : World) :
    Calls Try.prog 16 #[.agg (clsArr c), .agg (clsArr d)] w fun e w' => e = .returned (.agg (clsArr (fun j => less (c j) (d j)))) ∧ Below w.heap.size w w' := by
  have hall := set_arr_all (cls_less hc d) (fun y => hasC c y && !hasC d y) (fun x _ => (has_less c d x).symm)
  go_enter Try.func16, Try.ntmps16
  go_wp2
  go_loopw [6] (fun i wr => ∃ k : Nat, k ≤ 256 ∧ i = .int .i64 k ∧ At wr w.heap.size (clsArr c) 25 ∧ At wr (w.heap.size + 1) (clsArr d) 25 ∧ At wr (w.heap.size + 1 + 1) (clsArr fun _ => 0) 25 ∧ At wr (w.heap.size + 1 + 1 + 1) (clsArr (setC (fun y => hasC c y && !hasC d y) k)) 25 ∧ Below w.heap.size w wr) (fun i _ => 256 - (intOf i).toNat)
  case atStart =>
    refine ⟨0, by omega, rfl, ?_, ?_, ?_, ?_, ?_⟩
    · have h := (((At.new w (clsArr c) 25).alloc (.cells (clsArr d) 25)).alloc (.cells (clsArr fun _ => 0) 25)).alloc (.cells (clsArr fun _ => 0) 25)
      simpa [clsArr_zero] using h
    · have h := ((At.new (w.alloc (.cells (clsArr c) 25)) (clsArr d) 25).alloc (.cells (clsArr fun _ => 0) 25)).alloc (.cells (clsArr fun _ => 0) 25)
      simpa [clsArr_zero] using h
    · have h := (At.new ((w.alloc (.cells (clsArr c) 25)).alloc (.cells (clsArr d) 25)) (clsArr fun _ => 0) 25).alloc (.cells (clsArr fun _ => 0) 25)
      simpa [clsArr_zero] using h
    · have h := At.new (((w.alloc (.cells (clsArr c) 25)).alloc (.cells (clsArr d) 25)).alloc (.cells (clsArr fun _ => 0) 25)) (clsArr fun _ => 0) 25
      rw [set_arr_zero]
      simpa [clsArr_zero] using h
    · repeat (first | with_reducible exact Below.refl _ _ | with_reducible refine Below.setCell ?_ (by first | (simp; done) | (simp; omega)) _ | with_reducible refine below_drewN ?_ _ | with_reducible refine Below.alloc ?_ (by first | (simp; done) | (simp; omega)) _ | with_reducible refine Below.drew ?_)
  case round =>
    obtain ⟨k, hk, rfl, hAc, hAd, hAr, hAo, hBel⟩ := hrel
    by_cases hlt : k < 256
    · have hk4 : (k : Int) < 256 := by omega
      have hS := cls_set (fun y => hasC c y && !hasC d y) k
      generalize hSd : setC (fun y => hasC c y && !hasC d y) k = S at hS hAo
      cases h1 : hasC c k
      · have hpk : ((fun y => hasC c y && !hasC d y) k) = false := by simp [h1]
        obtain ⟨hC2, _⟩ := hAc.four
        go_wp2_with fail
        rw [← clsArr_lit c]
        refine (refHas_calls c hc k hlt _).mono ?_
        rintro e w2 ⟨rfl, hb2⟩
        have hAc2 := hAc.keptAll hb2
        have hAd2 := hAd.keptAll hb2
        have hAr2 := hAr.keptAll hb2
        have hAo2 := hAo.keptAll hb2
        have hBel2 := hBel.trans (hb2.mono hBel.size)
        rw [h1]
        go_wp2
        go_roundw
        case rel =>
          refine ⟨k + 1, by omega, by go_num, hAc2, hAd2, hAr2, ?_, hBel2⟩
          rw [← set_arr_skip _ k hpk, hSd]; exact hAo2
        case measure => simp [intOf]; omega
      · cases h2 : hasC d k
        · have hpk : ((fun y => hasC c y && !hasC d y) k) = true := by simp [h1, h2]
          obtain ⟨hC2, _⟩ := hAc.four
          go_wp2_with fail
          rw [← clsArr_lit c]
          refine (refHas_calls c hc k hlt _).mono ?_
          rintro e w2 ⟨rfl, hb2⟩
          have hAc2 := hAc.keptAll hb2
          have hAd2 := hAd.keptAll hb2
          have hAr2 := hAr.keptAll hb2
          have hAo2 := hAo.keptAll hb2
          have hBel2 := hBel.trans (hb2.mono hBel.size)
          rw [h1]
          obtain ⟨hC3, _⟩ := hAd2.four
          go_wp2_with fail
          rw [← clsArr_lit d]
          refine (refHas_calls d hd k hlt _).mono ?_
          rintro e w3 ⟨rfl, hb3⟩
          have hAc3 := hAc2.keptAll hb3
          have hAd3 := hAd2.keptAll hb3
          have hAr3 := hAr2.keptAll hb3
          have hAo3 := hAo2.keptAll hb3
          have hBel3 := hBel2.trans (hb3.mono hBel2.size)
          rw [h2]
          obtain ⟨hO4, _⟩ := hAo3.four
          go_wp2_with fail
          rw [← clsArr_lit S]
          refine (refWith_calls S hS k hlt _).mono ?_
          rintro e w4 ⟨rfl, hb4⟩
          have hAc4 := hAc3.keptAll hb4
          have hAd4 := hAd3.keptAll hb4
          have hAr4 := hAr3.keptAll hb4
          have hAo4 := hAo3.keptAll hb4
          have hBel4 := hBel3.trans (hb4.mono hBel3.size)
          obtain ⟨hO4b, hZ4⟩ := hAo4.four
          rw [clsArr_lit (withC S k)]
          go_wp2
          go_roundw
          case rel =>
            refine ⟨k + 1, by omega, by go_num, ?_, ?_, ?_, ?_, ?_⟩
            · exact (((hAc4.other (by simp; try omega) _).other (by simp; try omega) _).other (by simp; try omega) _).other (by simp; try omega) _
            · exact (((hAd4.other (by simp; try omega) _).other (by simp; try omega) _).other (by simp; try omega) _).other (by simp; try omega) _
            · exact (((hAr4.other (by simp; try omega) _).other (by simp; try omega) _).other (by simp; try omega) _).other (by simp; try omega) _
            · rw [← set_arr_step _ k hpk, hSd]; exact hAo4.put (withC S k)
            · exact (((hBel4.setCell (by simp; try omega) _).setCell (by simp; try omega) _).setCell (by simp; try omega) _).setCell (by simp; try omega) _
          case measure => simp [intOf]; omega
        · have hpk : ((fun y => hasC c y && !hasC d y) k) = false := by simp [h1, h2]
          obtain ⟨hC2, _⟩ := hAc.four
          go_wp2_with fail
          rw [← clsArr_lit c]
          refine (refHas_calls c hc k hlt _).mono ?_
          rintro e w2 ⟨rfl, hb2⟩
          have hAc2 := hAc.keptAll hb2
          have hAd2 := hAd.keptAll hb2
          have hAr2 := hAr.keptAll hb2
          have hAo2 := hAo.keptAll hb2
          have hBel2 := hBel.trans (hb2.mono hBel.size)
          rw [h1]
          obtain ⟨hC3, _⟩ := hAd2.four
          go_wp2_with fail
          rw [← clsArr_lit d]
          refine (refHas_calls d hd k hlt _).mono ?_
          rintro e w3 ⟨rfl, hb3⟩
          have hAc3 := hAc2.keptAll hb3
          have hAd3 := hAd2.keptAll hb3
          have hAr3 := hAr2.keptAll hb3
          have hAo3 := hAo2.keptAll hb3
          have hBel3 := hBel2.trans (hb3.mono hBel2.size)
          rw [h2]
          go_wp2
          go_roundw
          case rel =>
            refine ⟨k + 1, by omega, by go_num, hAc3, hAd3, hAr3, ?_, hBel3⟩
            rw [← set_arr_skip _ k hpk, hSd]; exact hAo3
          case measure => simp [intOf]; omega
    · have hk' : k = 256 := by omega
      subst hk'
      rw [hall] at hAo
      obtain ⟨hC, hZ⟩ := hAo.four
      obtain ⟨hD, hY⟩ := hAr.four
      go_wp2
      have hR1 := hAr.put (fun j => less (c j) (d j))
      obtain ⟨hC1, hZ1⟩ := hR1.four
      refine bodyPost_ret (v := .agg (clsArr (fun j => less (c j) (d j)))) (by rw [clsArr_lit (fun j => less (c j) (d j))]; simp [results, Try.results16, go_sem, hC1]) rfl ⟨rfl, ?_⟩
      exact (((hBel.setCell (by simp; try omega) _).setCell (by simp; try omega) _).setCell (by simp; try omega) _).setCell (by simp; try omega) _

set_option maxRecDepth 100000 in
set_option maxHeartbeats 2000000 in
theorem refNot_calls (c : Nat → Nat) (hc : Cls c) (w : World) :
    Calls Try.prog 18 #[.agg (clsArr c)] w fun e w' => e = .returned (.agg (clsArr (fun j => flip (c j)))) ∧ Below w.heap.size w w' := by
  have hall := set_arr_all (cls_flip c) (fun y => !hasC c y) (fun x _ => (has_flip hc x).symm)
  go_enter Try.func18, Try.ntmps18
  go_wp2
  go_loopw [4] (fun i wr => ∃ k : Nat, k ≤ 256 ∧ i = .int .i64 k ∧ At wr w.heap.size (clsArr c) 25 ∧ At wr (w.heap.size + 1) (clsArr fun _ => 0) 25 ∧ At wr (w.heap.size + 1 + 1) (clsArr (setC (fun y => !hasC c y) k)) 25 ∧ Below w.heap.size w wr) (fun i _ => 256 - (intOf i).toNat)
  case atStart =>
    refine ⟨0, by omega, rfl, ?_, ?_, ?_, ?_⟩
    · have h := ((At.new w (clsArr c) 25).alloc (.cells (clsArr fun _ => 0) 25)).alloc (.cells (clsArr fun _ => 0) 25)
      simpa [clsArr_zero] using h
    · have h := (At.new (w.alloc (.cells (clsArr c) 25)) (clsArr fun _ => 0) 25).alloc (.cells (clsArr fun _ => 0) 25)
      simpa [clsArr_zero] using h
    · have h := At.new ((w.alloc (.cells (clsArr c) 25)).alloc (.cells (clsArr fun _ => 0) 25)) (clsArr fun _ => 0) 25
      rw [set_arr_zero]
      simpa [clsArr_zero] using h
    · repeat (first | with_reducible exact Below.refl _ _ | with_reducible refine Below.setCell ?_ (by first | (simp; done) | (simp; omega)) _ | with_reducible refine below_drewN ?_ _ | with_reducible refine Below.alloc ?_ (by first | (simp; done) | (simp; omega)) _ | with_reducible refine Below.drew ?_)
  case round =>
    obtain ⟨k, hk, rfl, hAc, hAr, hAo, hBel⟩ := hrel
    by_cases hlt : k < 256
    · have hk4 : (k : Int) < 256 := by omega
      have hS := cls_set (fun y => !hasC c y) k
      generalize hSd : setC (fun y => !hasC c y) k = S at hS hAo
      cases h1 : hasC c k
      · have hpk : ((fun y => !hasC c y) k) = true := by simp [h1]
        obtain ⟨hC2, _⟩ := hAc.four
        go_wp2_with fail
        rw [← clsArr_lit c]
        refine (refHas_calls c hc k hlt _).mono ?_
        rintro e w2 ⟨rfl, hb2⟩
        have hAc2 := hAc.keptAll hb2
        have hAr2 := hAr.keptAll hb2
        have hAo2 := hAo.keptAll hb2
        have hBel2 := hBel.trans (hb2.mono hBel.size)
        rw [h1]
        obtain ⟨hO3, _⟩ := hAo2.four
        go_wp2_with fail
        rw [← clsArr_lit S]
        refine (refWith_calls S hS k hlt _).mono ?_
        rintro e w3 ⟨rfl, hb3⟩
        have hAc3 := hAc2.keptAll hb3
        have hAr3 := hAr2.keptAll hb3
        have hAo3 := hAo2.keptAll hb3
        have hBel3 := hBel2.trans (hb3.mono hBel2.size)
        obtain ⟨hO3b, hZ3⟩ := hAo3.four
        rw [clsArr_lit (withC S k)]
        go_wp2
        go_roundw
        case rel =>
          refine ⟨k + 1, by omega, by go_num, ?_, ?_, ?_, ?_⟩
          · exact (((hAc3.other (by simp; try omega) _).other (by simp; try omega) _).other (by simp; try omega) _).other (by simp; try omega) _
          · exact (((hAr3.other (by simp; try omega) _).other (by simp; try omega) _).other (by simp; try omega) _).other (by simp; try omega) _
          · rw [← set_arr_step _ k hpk, hSd]; exact hAo3.put (withC S k)
          · exact (((hBel3.setCell (by simp; try omega) _).setCell (by simp; try omega) _).setCell (by simp; try omega) _).setCell (by simp; try omega) _
        case measure => simp [intOf]; omega
      · have hpk : ((fun y => !hasC c y) k) = false := by simp [h1]
        obtain ⟨hC2, _⟩ := hAc.four
        go_wp2_with fail
        rw [← clsArr_lit c]
        refine (refHas_calls c hc k hlt _).mono ?_
        rintro e w2 ⟨rfl, hb2⟩
        have hAc2 := hAc.keptAll hb2
        have hAr2 := hAr.keptAll hb2
        have hAo2 := hAo.keptAll hb2
        have hBel2 := hBel.trans (hb2.mono hBel.size)
        rw [h1]
        go_wp2
        go_roundw
        case rel =>
          refine ⟨k + 1, by omega, by go_num, hAc2, hAr2, ?_, hBel2⟩
          rw [← set_arr_skip _ k hpk, hSd]; exact hAo2
        case measure => simp [intOf]; omega
    · have hk' : k = 256 := by omega
      subst hk'
      rw [hall] at hAo
      obtain ⟨hC, hZ⟩ := hAo.four
      obtain ⟨hD, hY⟩ := hAr.four
      go_wp2
      have hR1 := hAr.put (fun j => flip (c j))
      obtain ⟨hC1, hZ1⟩ := hR1.four
      refine bodyPost_ret (v := .agg (clsArr (fun j => flip (c j)))) (by rw [clsArr_lit (fun j => flip (c j))]; simp [results, Try.results18, go_sem, hC1]) rfl ⟨rfl, ?_⟩
      exact (((hBel.setCell (by simp; try omega) _).setCell (by simp; try omega) _).setCell (by simp; try omega) _).setCell (by simp; try omega) _

end Go.Proofs.Ytjeecpgcokjjjaa
