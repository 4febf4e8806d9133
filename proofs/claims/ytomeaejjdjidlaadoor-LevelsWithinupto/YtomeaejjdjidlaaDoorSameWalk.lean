/-
  What quarryref00.SameBits answers.
-/
import Derived.Test.YtomeaejjdjidlaaDoorFormedWalk
namespace Go.Proofs.YtomeaejjdjidlaaDoor
open Go.RowKit

set_option maxRecDepth 10000 in
set_option maxHeartbeats 1000000 in
theorem same_calls (n m : Int) (ao bo : Option Addr) (k l cap cap' : Nat) (X Y : Nat → Nat) (B : Bool) (hn : (Lit.int .i64 n).wf = true) (hm : (Lit.int .i64 m).wf = true) (hk : k ≤ 17592186044416) (hl : l ≤ 17592186044416)
    (hB : Hid ((n = m ∧ k = l ∧ ∀ j, j < k → X j = Y j) ↔ B = true)) (w : World) (hW : Wds w ao k X) (hV : Wds w bo l Y) :
    Calls Tryd.prog 14 #[bv n ao k cap, bv m bo l cap'] w fun e w' => e = .returned (.bool B) ∧ Below w.heap.size w w' := by
  obtain ⟨hn1, hn2⟩ := wf_i64 hn
  obtain ⟨hm1, hm2⟩ := wf_i64 hm
  clear hn hm
  go_enter Tryd.func14, Tryd.ntmps14
  by_cases h : n = m ∧ k = l
  · obtain ⟨rfl, rfl⟩ := h
    have e1 : (n != n) = false := by simp
    have e2 : ((k : Int) != (k : Int)) = false := by simp
    clear hn1 hn2 hm1 hm2
    go_wp2
    go_loopw [5] (fun ii wr => ∃ i : Nat, i ≤ k ∧ Hid (∀ j, j < i → X j = Y j) ∧ ii = .int .i64 (i : Int) ∧ At wr w.heap.size #[.int .i64 n, .slice ao k cap] 34 ∧ At wr (w.heap.size + 1) #[.int .i64 n, .slice bo k cap'] 34 ∧ Below w.heap.size w wr) (fun ii _ => k - (intOf ii).toNat)
    case atStart =>
      refine ⟨0, Nat.zero_le _, fun j hj => by omega, rfl, (At.new w _ _).alloc _, ?_, by repeat (first | with_reducible exact Below.refl _ _ | with_reducible refine Below.setCell ?_ (by first | (simp; done) | (simp; omega)) _ | with_reducible refine below_drewN ?_ _ | with_reducible refine Below.alloc ?_ (by first | (simp; done) | (simp; omega)) _ | with_reducible refine Below.drew ?_)⟩
      have := At.new (w.alloc (.cells #[.int .i64 n, .slice ao k cap] 34)) #[.int .i64 n, .slice bo k cap'] 34
      simpa using this
    case round =>
      obtain ⟨i, hi, hz, rfl, a1, a2, hb⟩ := hrel
      have c1 := a1.cell 1
      have c2 := a2.cell 1
      simp only [List.getElem?_toArray, List.getElem?_cons_zero, List.getElem?_cons_succ] at c1 c2
      by_cases hlt : i < k
      · obtain ⟨hx, g, off, rfl, hcell⟩ := hW i hlt
        obtain ⟨hy, g', off', rfl, hcell'⟩ := hV i hlt
        have d1 := (hb.cell (p := ⟨g, off + i, none⟩) (cell_block hcell)).trans hcell
        have d2 := (hb.cell (p := ⟨g', off' + i, none⟩) (cell_block hcell')).trans hcell'
        obtain ⟨x, hx'⟩ : ∃ x, Hid (X i = x) := ⟨_, rfl⟩
        obtain ⟨y, hy'⟩ : ∃ y, Hid (Y i = y) := ⟨_, rfl⟩
        rw [hx'.out] at d1 hx
        rw [hy'.out] at d2 hy
        have hB' : Hid _ := hB.out
        have a1' : Hid _ := a1
        have a2' : Hid _ := a2
        clear hB hW hV hcell hcell' a1 a2
        by_cases he : x = y
        · have e3 : ((x : Int) != (y : Int)) = false := by simp [he]
          have he' : Hid _ := he
          clear he
          go_wp2
          go_quiet (fail)
          go_wp2
          go_roundw
          case rel => exact ⟨i + 1, by omega, fun j hj => by
                        by_cases hji : j = i
                        · rw [hji, hx'.out, hy'.out]; exact he'.out
                        · exact hz.out j (by omega), by simp, a1'.out, a2'.out, below_drewN hb _⟩
          case measure => simp [intOf]; omega
        · have e3 : ((x : Int) != (y : Int)) = true := by simp; omega
          obtain rfl : B = false := by
            cases B
            · rfl
            · have := (hB'.out.2 rfl).2.2 i hlt
              rw [hx'.out, hy'.out] at this; exact (he this).elim
          clear hB' he
          go_wp2
          go_quiet (fail)
          go_wp2
          go_ret
          exact ⟨rfl, below_drewN hb _⟩
      · obtain rfl : i = k := by omega
        obtain rfl : B = true := hB.out.1 ⟨by trivial, by trivial, hz.out⟩
        clear hB hz hW hV a1 a2
        go_wp2
        go_ret
        exact ⟨rfl, hb⟩
  · obtain rfl : B = false := by
      cases B
      · rfl
      · exact (h ⟨(hB.out.2 rfl).1, (hB.out.2 rfl).2.1⟩).elim
    clear hB hW hV
    by_cases hnm : n = m
    · have e1 : (n != m) = false := by simp [hnm]
      have e2 : ((k : Int) != (l : Int)) = true := by simp; omega
      clear h hnm
      go_wp2
      go_ret
      exact ⟨rfl, by repeat (first | with_reducible exact Below.refl _ _ | with_reducible refine Below.setCell ?_ (by first | (simp; done) | (simp; omega)) _ | with_reducible refine below_drewN ?_ _ | with_reducible refine Below.alloc ?_ (by first | (simp; done) | (simp; omega)) _ | with_reducible refine Below.drew ?_)⟩
    · have e1 : (n != m) = true := by simpa using hnm
      clear h hnm
      go_wp2
      go_ret
      exact ⟨rfl, by repeat (first | with_reducible exact Below.refl _ _ | with_reducible refine Below.setCell ?_ (by first | (simp; done) | (simp; omega)) _ | with_reducible refine below_drewN ?_ _ | with_reducible refine Below.alloc ?_ (by first | (simp; done) | (simp; omega)) _ | with_reducible refine Below.drew ?_)⟩
end Go.Proofs.YtomeaejjdjidlaaDoor
