/-
 What texts' functions answer.
-/
import Derived.Test.YtkejlejhnnjdkaaGreatDoorTxPD
import Derived.Test.YtkejlejhnnjdkaaGreatDoorRefTx5
import Derived.Test.YtkejlejhnnjdkaaGreatDoorPack1
namespace Go.Proofs.YtkejlejhnnjdkaaGreatDoor
open Go.RowKit Go.Shelf
/-- What the program's functions want of the world: nothing. -/
def Ok15 (_ : World) : Prop := True
theorem Ok15.below {w w' : World} (_ : Ok15 w) (_ : Below w.heap.size w w') : Ok15 w' := trivial
theorem un_calls (s : ByteArray) (hs : s.size ≤ 140737488351232) (T : ByteArray) (E : Int) (hU : Hid (unS s = (T, E))) (w : World) (_ : Ok15 w) :
  Calls Tryz.prog 74 #[.string s] w fun e w' => e = .returned (.tuple #[.string T, .int .i64 E]) ∧ Below w.heap.size w w' := unP_calls s hs T E hU w
theorem run_esc (q : Nat → Bool) : ∀ n, escG q false n = decide (runE q n % 2 = 1)
 | 0 => rfl
 | n + 1 => by
  rw [escG_succ, runE_succ, run_esc q n]
  cases q n with
  | false => simp
  | true =>
   simp only [Bool.true_and, if_true]
   by_cases h : runE q n % 2 = 1
   ·rw [decide_eq_true h, decide_eq_false (by omega)]
    rfl
   ·rw [decide_eq_false h, decide_eq_true (by omega)]
    rfl
set_option maxRecDepth 10000 in
set_option maxHeartbeats 1000000 in
theorem end_calls (s : ByteArray) (hs : s.size ≤ 140737488351232) (f : Int) (hf : (Lit.int .i64 f).wf = true) (w : World) (_ : Ok15 w) :
  Calls Tryz.prog 73 #[.string s, .int .i64 f] w fun e w' => (∃ n E, e = .returned (.tuple #[.int .i64 n, .int .i64 E]) ∧ IsEnd s f n E) ∧ Below w.heap.size w w' := by
 have hsi : (s.size : Int) ≤ 140737488351232 := by omega
 by_cases h1 : f < 0
 ·go_enter Tryz.func73, Tryz.ntmps73
  go_wp2
  exact bodyPost_ret (v := .tuple #[.int .i64 0, .int .i64 2]) (by simp [results, Tryz.results73, go_sem]; try decide) rfl ⟨⟨_, _, rfl, .inl ⟨.inl h1, rfl, rfl⟩⟩, by repeat (first | with_reducible exact Below.refl _ _ | with_reducible refine Below.setCell ?_ (by first | (simp; done) | (simp; omega)) _ | with_reducible refine below_drewN ?_ _ | with_reducible refine Below.alloc ?_ (by first | (simp; done) | (simp; omega)) _ | with_reducible refine Below.drew ?_)⟩
 ·have n1 : decide (f < 0) = false := by simp; omega
  by_cases h2 : (s.size : Int) < f
  ·go_enter Tryz.func73, Tryz.ntmps73
   go_wp2
   exact bodyPost_ret (v := .tuple #[.int .i64 0, .int .i64 2]) (by simp [results, Tryz.results73, go_sem]; try decide) rfl ⟨⟨_, _, rfl, .inl ⟨.inr h2, rfl, rfl⟩⟩, by repeat (first | with_reducible exact Below.refl _ _ | with_reducible refine Below.setCell ?_ (by first | (simp; done) | (simp; omega)) _ | with_reducible refine below_drewN ?_ _ | with_reducible refine Below.alloc ?_ (by first | (simp; done) | (simp; omega)) _ | with_reducible refine Below.drew ?_)⟩
  ·obtain ⟨k, rfl⟩ : ∃ k : Nat, f = (k : Int) := ⟨f.toNat, by omega⟩
   have hks : k ≤ s.size := by omega
   have hki : (k : Int) ≤ (s.size : Int) := by omega
   have n2 : decide ((s.size : Int) < (k : Int)) = false := by simp; omega
   have n3 : decide (s.size < k) = false := by simp; omega
   obtain ⟨t, ht⟩ : ∃ t, s.extract k s.size = t := ⟨_, rfl⟩
   have hts : Hid (t.size = s.size - k) := by show _ = _; rw [← ht]; exact (byts_from s k).2
   have htb : Hid (∀ i, i < t.size → bAt t i = bAt s (k + i)) := fun i _ => by rw [← ht]; exact bAt_from s k i
   obtain ⟨G, hG⟩ : ∃ G, Hid (G = escG (slash t) false) := ⟨_, rfl⟩
   have hti : (t.size : Int) ≤ 140737488351232 := by have := hts.out; omega
   have hodd : Hid (∀ (i : Nat), i ≤ t.size → ∀ u : World, ∃ fp : Nat, Calls Tryz.prog 107 #[.string t, .int .i64 (i : Int)] u fun e w' => e = .returned (.tuple #[.int .i64 (fp : Int), .bool (G i)]) ∧ w' = u) := fun i hi u => by
    refine ⟨i - runE (slash t) i, ?_⟩
    rw [hG.out, run_esc]
    exact odd_nat t i _ _ (by have := hts.out; omega) hi (hid ⟨rfl, rfl⟩) u
   have hend : Hid (∀ n E, ((∃ i : Nat, i < t.size ∧ bAt t i = 34 ∧ G i = false ∧ (∀ j, j < i → ¬ (bAt t j = 34 ∧ G j = false)) ∧ n = ((k + i : Nat) : Int) ∧ E = 0) ∨ ((∀ j, j < t.size → ¬ (bAt t j = 34 ∧ G j = false)) ∧ n = 0 ∧ E = 150)) → IsEnd s (k : Int) n E) := fun n E h => by
    refine .inr ⟨k, rfl, hks, ?_⟩
    rw [ht, ← hG.out, ← hts.out]
    rcases h with ⟨i, a1, a2, a3, a4, a5, a6⟩ | ⟨a1, a2, a3⟩
    ·exact .inl ⟨i, a1, by rw [← htb.out i a1]; exact a2, a3, fun j hj => by rw [← htb.out j (by omega)]; exact a4 j hj, a5, a6⟩
    ·exact .inr ⟨fun j hj => by rw [← htb.out j hj]; exact a1 j hj, a2, a3⟩
   clear h1 h2 hf
   go_enter Tryz.func73, Tryz.ntmps73
   go_wp2
   clear n1 n2 n3
   go_loopw [7, 8, 9, 23] (fun _ _ _ ii wr => ∃ i : Nat, i ≤ t.size ∧ ii = .int .i64 (i : Int) ∧ Hid (∀ j, j < i → ¬ (bAt t j = 34 ∧ G j = false)) ∧ wr = w) (fun _ _ _ ii _ => t.size - (intOf ii).toNat)
   case atStart => exact ⟨0, Nat.zero_le _, rfl, hid (fun j hj => by omega), rfl⟩
   case round =>
    obtain ⟨i, hi, rfl, hno, rfl⟩ := hrel
    by_cases hlt : i < t.size
    ·have hli : (i : Int) < (t.size : Int) := by omega
     have hx := bAt_at t i hlt
     obtain ⟨x, hX⟩ : ∃ x, Hid (bAt t i = x) := ⟨_, rfl⟩
     rw [hX.out] at hx
     have hxl : x < 256 := by rw [← hX.out]; exact bAt_lt t i
     by_cases h34 : x = 34
     ·subst h34
      obtain ⟨fp, hod⟩ := hodd.out i hi wr
      obtain ⟨q, hq⟩ : ∃ q, Hid (G i = q) := ⟨_, rfl⟩
      rw [hq.out] at hod
      replace hod := hid hod
      have hkii : (k : Int) + (i : Int) ≤ (s.size : Int) := by have := hts.out; omega
      go_wp2_with fail
      refine Calls.mono hod.out ?_
      rintro e wq ⟨rfl, hwq⟩
      obtain rfl := hwq.symm
      clear hod hwq
      cases q with
      | false =>
       go_wp2
       exact bodyPost_ret (v := .tuple #[.int .i64 ((k : Int) + (i : Int)), .int .i64 0]) (by simp [results, Tryz.results73, go_sem]; try decide) rfl ⟨⟨_, _, rfl, hend.out _ _ (.inl ⟨i, hlt, hX.out, hq.out, hno.out, by simp, rfl⟩)⟩, by repeat (first | with_reducible exact Below.refl _ _ | with_reducible refine Below.setCell ?_ (by first | (simp; done) | (simp; omega)) _ | with_reducible refine below_drewN ?_ _ | with_reducible refine Below.alloc ?_ (by first | (simp; done) | (simp; omega)) _ | with_reducible refine Below.drew ?_)⟩
      | true =>
       go_wp2
       go_roundw
       case rel => exact ⟨i + 1, by omega, by simp, hid (fun j hj => by
        by_cases e : j = i
        ·subst e
         rw [hq.out]
         simp
        ·exact hno.out j (by omega)), trivial⟩
       case measure => simp [intOf]; omega
     ·have m34 : ((x : Int) == 34) = false := by simp; omega
      have m35 : ((x : Int) != 34) = true := by simp; omega
      go_wp2
      go_roundw
      case rel => exact ⟨i + 1, by omega, by simp, hid (fun j hj => by
       by_cases e : j = i
       ·subst e
        rw [hX.out]
        intro h
        exact h34 h.1
       ·exact hno.out j (by omega)), trivial⟩
      case measure => simp [intOf]; omega
    ·obtain rfl : i = t.size := by omega
     go_wp2
     exact bodyPost_ret (v := .tuple #[.int .i64 0, .int .i64 150]) (by simp [results, Tryz.results73, go_sem]; try decide) rfl ⟨⟨_, _, rfl, hend.out _ _ (.inr ⟨hno.out, rfl, rfl⟩)⟩, by repeat (first | with_reducible exact Below.refl _ _ | with_reducible refine Below.setCell ?_ (by first | (simp; done) | (simp; omega)) _ | with_reducible refine below_drewN ?_ _ | with_reducible refine Below.alloc ?_ (by first | (simp; done) | (simp; omega)) _ | with_reducible refine Below.drew ?_)⟩
end Go.Proofs.YtkejlejhnnjdkaaGreatDoor
