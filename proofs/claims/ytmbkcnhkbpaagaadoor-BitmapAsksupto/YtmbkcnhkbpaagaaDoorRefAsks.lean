/-
  What quarryref04.Count, Select, Next and Last answer.
-/
import Derived.Test.YtmbkcnhkbpaagaaDoorRefPlaces
namespace Go.Proofs.YtmbkcnhkbpaagaaDoor
open Go.RowKit

set_option maxRecDepth 10000 in
set_option maxHeartbeats 2000000 in
theorem refSel_at (n i S : Int) (ao : Option Addr) (k cap : Nat) (X : Nat → Nat) (N : Nat) (hn : (Lit.int .i64 n).wf = true) (hi : (Lit.int .i64 i).wf = true) (hk : k ≤ 1048576) (hE : Hid (Eff n k X N)) (hS : Hid (IsSel X N i S)) (w : World) (hW : Wds w ao k X) :
    Calls Tryd.prog 25 #[bv n ao k cap, .int .i64 i] w fun e w' => e = .returned (.int .i64 S) ∧ Below w.heap.size w w' := by
  obtain ⟨i1, i2⟩ := wf_i64 hi
  have hpc : Hid _ := fun (w1 : World) (hb : Below w.heap.size w w1) => refPlaces_calls n ao k cap X N hn hk hE w1 (hW.kept hb)
  clear hi hn hW hE
  go_enter Tryd.func25, Tryd.ntmps25
  go_wp2_with fail
  refine Calls.mono (hpc.out _ (by repeat (first | with_reducible exact Below.refl _ _ | with_reducible refine Below.setCell ?_ (by first | (simp; done) | (simp; omega)) _ | with_reducible refine below_drewN ?_ _ | with_reducible refine Below.alloc ?_ (by first | (simp; done) | (simp; omega)) _ | with_reducible refine Below.drew ?_))) ?_
  rintro e w1 ⟨⟨v, rfl, hown⟩, hN, hb1⟩
  have hB1 : Below w.heap.size w w1 := Below.trans (by repeat (first | with_reducible exact Below.refl _ _ | with_reducible refine Below.setCell ?_ (by first | (simp; done) | (simp; omega)) _ | with_reducible refine below_drewN ?_ _ | with_reducible refine Below.alloc ?_ (by first | (simp; done) | (simp; omega)) _ | with_reducible refine Below.drew ?_)) (hb1.mono (by simp))
  obtain ⟨vo, vc, rfl, hpl⟩ := plAt_of_row hown
  obtain ⟨L, hL⟩ : ∃ L, Hid (cntB X N = L) := ⟨_, rfl⟩
  have hLl : L ≤ 67108864 := by have := hL.out; have := cntB_le X N; omega
  rw [hL.out]
  have hpl' := hid hpl
  clear hown hb1 hpc hpl
  by_cases h : i < 0
  · obtain rfl : S = -1 := hS.out.uniq (.inr ⟨rfl, .inl h⟩)
    clear hS
    go_wp2
    go_ret
    exact ⟨rfl, hB1⟩
  · obtain ⟨I, rfl⟩ := Int.eq_ofNat_of_zero_le (show 0 ≤ i by omega)
    clear h i1 i2
    have e0 : decide ((I : Int) < 0) = false := by simp
    by_cases hI : I < L
    · have hlen : I < (placesB X N).length := by rw [placesB_len, hL.out]; exact hI
      obtain ⟨p, hp⟩ : ∃ p, (placesB X N)[I]? = some p := ⟨_, List.getElem?_eq_getElem hlen⟩
      obtain ⟨_, g, rfl, hc⟩ := hpl'.out I p hp
      obtain rfl : S = (p : Int) := hS.out.uniq (sel_list hp)
      have e1 : decide ((L : Int) ≤ (I : Int)) = false := by simp; omega
      clear hS hp hpl'
      go_wp2
      go_ret
      exact ⟨rfl, hB1⟩
    · obtain rfl : S = -1 := hS.out.uniq (.inr ⟨rfl, .inr (by have := hL.out; omega)⟩)
      have e1 : decide ((L : Int) ≤ (I : Int)) = true := by simp; omega
      clear hS
      go_wp2
      go_ret
      exact ⟨rfl, hB1⟩

set_option maxRecDepth 10000 in
set_option maxHeartbeats 2000000 in
theorem refNext_at (n f S : Int) (ao : Option Addr) (k cap : Nat) (X : Nat → Nat) (N : Nat) (hn : (Lit.int .i64 n).wf = true) (hk : k ≤ 1048576) (hE : Hid (Eff n k X N)) (hS : Hid (IsNext X N f S)) (w : World) (hW : Wds w ao k X) :
    Calls Tryd.prog 27 #[bv n ao k cap, .int .i64 f] w fun e w' => e = .returned (.int .i64 S) ∧ Below w.heap.size w w' := by
  have hpc : Hid _ := fun (w1 : World) (hb : Below w.heap.size w w1) => refPlaces_calls n ao k cap X N hn hk hE w1 (hW.kept hb)
  clear hn hW hE
  go_enter Tryd.func27, Tryd.ntmps27
  go_wp2_with fail
  refine Calls.mono (hpc.out _ (by repeat (first | with_reducible exact Below.refl _ _ | with_reducible refine Below.setCell ?_ (by first | (simp; done) | (simp; omega)) _ | with_reducible refine below_drewN ?_ _ | with_reducible refine Below.alloc ?_ (by first | (simp; done) | (simp; omega)) _ | with_reducible refine Below.drew ?_))) ?_
  rintro e w1 ⟨⟨v, rfl, hown⟩, hN, hb1⟩
  have hB1 : Below w.heap.size w w1 := Below.trans (by repeat (first | with_reducible exact Below.refl _ _ | with_reducible refine Below.setCell ?_ (by first | (simp; done) | (simp; omega)) _ | with_reducible refine below_drewN ?_ _ | with_reducible refine Below.alloc ?_ (by first | (simp; done) | (simp; omega)) _ | with_reducible refine Below.drew ?_)) (hb1.mono (by simp))
  obtain ⟨vo, vc, rfl, hpl⟩ := plAt_of_row hown
  obtain ⟨L, hL⟩ : ∃ L, Hid (cntB X N = L) := ⟨_, rfl⟩
  have hLl : L ≤ 67108864 := by have := hL.out; have := cntB_le X N; omega
  rw [hL.out]
  have hpl' := hid hpl
  clear hown hb1 hpc hpl
  go_wp2
  go_loop [6] (fun ii => ∃ i : Nat, i ≤ L ∧ Hid (∀ j q : Nat, j < i → (placesB X N)[j]? = some q → (q : Int) < f) ∧ ii = .int .i64 (i : Int)) (fun ii => L - (intOf ii).toNat)
  case atStart => exact ⟨0, Nat.zero_le _, fun j q h => by omega, rfl⟩
  case round =>
    obtain ⟨i, hi, hz, rfl⟩ := hrel
    by_cases hlt : i < L
    · have hlen : i < (placesB X N).length := by rw [placesB_len, hL.out]; exact hlt
      obtain ⟨p, hp⟩ : ∃ p, Hid ((placesB X N)[i]? = some p) := ⟨_, List.getElem?_eq_getElem hlen⟩
      obtain ⟨_, g, rfl, hc⟩ := hpl'.out i p hp.out
      have hpl2 := hid hpl'.out
      clear hlen hpl'
      by_cases hf : f ≤ (p : Int)
      · obtain rfl : S = (p : Int) := hS.out.uniq (next_list hp.out hf hz.out)
        have e1 : decide (f ≤ (p : Int)) = true := by simpa using hf
        clear hS hz hp hf
        go_wp2
        go_ret
        exact ⟨rfl, hB1⟩
      · have e1 : decide (f ≤ (p : Int)) = false := by simpa using hf
        have hz' : Hid (∀ j q : Nat, j < i + 1 → (placesB X N)[j]? = some q → (q : Int) < f) := fun j q hj hq => by
          by_cases hji : j = i
          · rw [hji, hp.out] at hq; cases hq; omega
          · exact hz.out j q (by omega) hq
        clear hf hp
        go_wp2
        go_round
        case rel => exact ⟨i + 1, by omega, hz', by simp⟩
        case measure => simp [intOf]; omega
    · obtain rfl : i = L := by omega
      obtain rfl : S = -1 := hS.out.uniq (next_list_none (fun j q hq => hz.out j q (by have := (List.getElem?_eq_some_iff.1 hq).1; rw [placesB_len, hL.out] at this; exact this) hq))
      clear hS hz hpl'
      go_wp2
      go_ret
      exact ⟨rfl, hB1⟩

set_option maxRecDepth 10000 in
set_option maxHeartbeats 2000000 in
theorem refLast_at (n t S : Int) (ao : Option Addr) (k cap : Nat) (X : Nat → Nat) (N : Nat) (hn : (Lit.int .i64 n).wf = true) (hk : k ≤ 1048576) (hE : Hid (Eff n k X N)) (hS : Hid (IsLast X N t S)) (w : World) (hW : Wds w ao k X) :
    Calls Tryd.prog 29 #[bv n ao k cap, .int .i64 t] w fun e w' => e = .returned (.int .i64 S) ∧ Below w.heap.size w w' := by
  have hpc : Hid _ := fun (w1 : World) (hb : Below w.heap.size w w1) => refPlaces_calls n ao k cap X N hn hk hE w1 (hW.kept hb)
  clear hn hW hE
  go_enter Tryd.func29, Tryd.ntmps29
  go_wp2_with fail
  refine Calls.mono (hpc.out _ (by repeat (first | with_reducible exact Below.refl _ _ | with_reducible refine Below.setCell ?_ (by first | (simp; done) | (simp; omega)) _ | with_reducible refine below_drewN ?_ _ | with_reducible refine Below.alloc ?_ (by first | (simp; done) | (simp; omega)) _ | with_reducible refine Below.drew ?_))) ?_
  rintro e w1 ⟨⟨v, rfl, hown⟩, hN, hb1⟩
  have hB1 : Below w.heap.size w w1 := Below.trans (by repeat (first | with_reducible exact Below.refl _ _ | with_reducible refine Below.setCell ?_ (by first | (simp; done) | (simp; omega)) _ | with_reducible refine below_drewN ?_ _ | with_reducible refine Below.alloc ?_ (by first | (simp; done) | (simp; omega)) _ | with_reducible refine Below.drew ?_)) (hb1.mono (by simp))
  obtain ⟨vo, vc, rfl, hpl⟩ := plAt_of_row hown
  obtain ⟨L, hL⟩ : ∃ L, Hid (cntB X N = L) := ⟨_, rfl⟩
  have hLl : L ≤ 67108864 := by have := hL.out; have := cntB_le X N; omega
  rw [hL.out]
  have hpl' := hid hpl
  clear hown hb1 hpc hpl
  go_wp2
  go_loop [6] (fun ii => ∃ i : Nat, i ≤ L ∧ Hid (∀ j q : Nat, i ≤ j → (placesB X N)[j]? = some q → t ≤ (q : Int)) ∧ ii = .int .i64 ((i : Int) - 1)) (fun ii => (intOf ii + 1).toNat)
  case atStart => exact ⟨L, Nat.le_refl _, fun j q h hq => by have := (List.getElem?_eq_some_iff.1 hq).1; rw [placesB_len, hL.out] at this; omega, rfl⟩
  case round =>
    obtain ⟨i, hi, hz, rfl⟩ := hrel
    by_cases hlt : 0 < i
    · obtain ⟨i, rfl⟩ : ∃ i', i = i' + 1 := ⟨i - 1, by omega⟩
      rw [show (((i + 1 : Nat) : Int) - 1) = (i : Int) by omega]
      have hlen : i < (placesB X N).length := by rw [placesB_len, hL.out]; omega
      obtain ⟨p, hp⟩ : ∃ p, Hid ((placesB X N)[i]? = some p) := ⟨_, List.getElem?_eq_getElem hlen⟩
      obtain ⟨_, g, rfl, hc⟩ := hpl'.out i p hp.out
      have hiL : i < L := by omega
      have ej : decide ((0 : Int) ≤ (i : Int)) = true := by simp
      clear hlen hpl' hlt
      by_cases hf : (p : Int) < t
      · obtain rfl : S = (p : Int) := hS.out.uniq (last_list hp.out hf (fun j q hj hq => hz.out j q (by omega) hq))
        have e1 : decide ((p : Int) < t) = true := by simpa using hf
        clear hS hz hp hf
        go_wp2
        go_ret
        exact ⟨rfl, hB1⟩
      · have e1 : decide ((p : Int) < t) = false := by simpa using hf
        have hz' : Hid (∀ j q : Nat, i ≤ j → (placesB X N)[j]? = some q → t ≤ (q : Int)) := fun j q hj hq => by
          by_cases hji : j = i
          · rw [hji, hp.out] at hq; cases hq; omega
          · exact hz.out j q (by omega) hq
        clear hf hp
        go_wp2
        go_round
        case rel => exact ⟨i, by omega, hz', by simp⟩
        case measure => simp [intOf]
    · obtain rfl : i = 0 := by omega
      obtain rfl : S = -1 := hS.out.uniq (last_list_none (fun j q hq => hz.out j q (by omega) hq))
      clear hS hz hpl'
      go_wp2
      go_ret
      exact ⟨rfl, hB1⟩

theorem countP_take {l : List Nat} {i p : Nat} (P : Nat → Bool) (h : l[i]? = some p) : (l.take (i + 1)).countP P = (l.take i).countP P + if P p then 1 else 0 := by
  obtain ⟨h1, h2⟩ := List.getElem?_eq_some_iff.1 h
  rw [List.take_succ_eq_append_getElem h1, List.countP_append, List.countP_singleton, h2]

set_option maxRecDepth 10000 in
set_option maxHeartbeats 2000000 in
theorem refCount_calls (n f t : Int) (ao : Option Addr) (k cap : Nat) (X : Nat → Nat) (N c : Nat) (hn : (Lit.int .i64 n).wf = true) (hk : k ≤ 1048576) (hE : Hid (Eff n k X N)) (hc : Hid (cntIn X N f t = c)) (w : World) (hW : Wds w ao k X) :
    Calls Tryd.prog 23 #[bv n ao k cap, .int .i64 f, .int .i64 t] w fun e w' => e = .returned (.int .i64 (c : Int)) ∧ Below w.heap.size w w' := by
  have hpc : Hid _ := fun (w1 : World) (hb : Below w.heap.size w w1) => refPlaces_calls n ao k cap X N hn hk hE w1 (hW.kept hb)
  clear hn hW hE
  go_enter Tryd.func23, Tryd.ntmps23
  go_wp2_with fail
  refine Calls.mono (hpc.out _ (by repeat (first | with_reducible exact Below.refl _ _ | with_reducible refine Below.setCell ?_ (by first | (simp; done) | (simp; omega)) _ | with_reducible refine below_drewN ?_ _ | with_reducible refine Below.alloc ?_ (by first | (simp; done) | (simp; omega)) _ | with_reducible refine Below.drew ?_))) ?_
  rintro e w1 ⟨⟨v, rfl, hown⟩, hN, hb1⟩
  have hB1 : Below w.heap.size w w1 := Below.trans (by repeat (first | with_reducible exact Below.refl _ _ | with_reducible refine Below.setCell ?_ (by first | (simp; done) | (simp; omega)) _ | with_reducible refine below_drewN ?_ _ | with_reducible refine Below.alloc ?_ (by first | (simp; done) | (simp; omega)) _ | with_reducible refine Below.drew ?_)) (hb1.mono (by simp))
  obtain ⟨vo, vc, rfl, hpl⟩ := plAt_of_row hown
  obtain ⟨L, hL⟩ : ∃ L, Hid (cntB X N = L) := ⟨_, rfl⟩
  have hLl : L ≤ 67108864 := by have := hL.out; have := cntB_le X N; omega
  rw [hL.out]
  have hpl' := hid hpl
  clear hown hb1 hpc hpl
  obtain ⟨P, hP⟩ : ∃ P : Nat → Bool, Hid (P = fun (p : Nat) => decide (f ≤ (p : Int) ∧ (p : Int) < t)) := ⟨_, rfl⟩
  go_wp2
  go_loop [8, 9] (fun nn ii => ∃ i m : Nat, i ≤ L ∧ m ≤ i ∧ Hid (((placesB X N).take i).countP P = m) ∧ nn = .int .i64 (m : Int) ∧ ii = .int .i64 (i : Int)) (fun _ ii => L - (intOf ii).toNat)
  case atStart => exact ⟨0, 0, Nat.zero_le _, Nat.le_refl _, rfl, rfl, rfl⟩
  case round =>
    obtain ⟨i, m, hi, hmi, hm, rfl, rfl⟩ := hrel
    by_cases hlt : i < L
    · have hlen : i < (placesB X N).length := by rw [placesB_len, hL.out]; exact hlt
      obtain ⟨p, hp⟩ : ∃ p, Hid ((placesB X N)[i]? = some p) := ⟨_, List.getElem?_eq_getElem hlen⟩
      obtain ⟨_, g, rfl, hc'⟩ := hpl'.out i p hp.out
      have hpl2 := hid hpl'.out
      have hst := hid (countP_take P hp.out)
      have hPp : Hid (P p = decide (f ≤ (p : Int) ∧ (p : Int) < t)) := by show _ = _; rw [hP.out]
      clear hlen hpl' hp
      by_cases hf : f ≤ (p : Int)
      · have e1 : decide (f ≤ (p : Int)) = true := by simpa using hf
        by_cases ht : (p : Int) < t
        · have e2 : decide ((p : Int) < t) = true := by simpa using ht
          have hn' : Hid (((placesB X N).take (i + 1)).countP P = m + 1) := by show _ = _; rw [hst.out, hm.out, hPp.out, decide_eq_true ⟨hf, ht⟩]; rfl
          clear hf ht
          go_wp2
          go_round
          case rel => exact ⟨i + 1, m + 1, by omega, by omega, hn', by simp, by simp⟩
          case measure => simp [intOf]; omega
        · have e2 : decide ((p : Int) < t) = false := by simpa using ht
          have hn' : Hid (((placesB X N).take (i + 1)).countP P = m) := by show _ = _; rw [hst.out, hm.out, hPp.out, decide_eq_false (fun h => ht h.2)]; rfl
          clear hf ht
          go_wp2
          go_round
          case rel => exact ⟨i + 1, m, by omega, by omega, hn', by simp, by simp⟩
          case measure => simp [intOf]; omega
      · have e1 : decide (f ≤ (p : Int)) = false := by simpa using hf
        have hn' : Hid (((placesB X N).take (i + 1)).countP P = m) := by show _ = _; rw [hst.out, hm.out, hPp.out, decide_eq_false (fun h => hf h.1)]; rfl
        clear hf
        go_wp2
        go_round
        case rel => exact ⟨i + 1, m, by omega, by omega, hn', by simp, by simp⟩
        case measure => simp [intOf]; omega
    · obtain rfl : i = L := by omega
      obtain rfl : m = c := by
        rw [← hm.out, ← hc.out, ← countP_places X N f t, List.take_of_length_le (by rw [placesB_len, hL.out]; exact Nat.le_refl _), hP.out]
      clear hm hc hpl'
      go_wp2
      go_ret
      exact ⟨rfl, hB1⟩
end Go.Proofs.YtmbkcnhkbpaagaaDoor
