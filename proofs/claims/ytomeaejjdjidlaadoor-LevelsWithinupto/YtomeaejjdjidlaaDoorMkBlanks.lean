/-
  What marks.Blanks answers.
-/
import Derived.Test.YtomeaejjdjidlaaDoorPartD
namespace Go.Proofs.YtomeaejjdjidlaaDoor
open Go.RowKit Go.Shelf

theorem pt_cell {w : World} {g K j f : Nat} {s : ByteArray} {t : TypeId} (h : At w g (rowCells (K * 5) (ptZ s)) t) (hj : j < K) (hf : f < 5) : w.cell? ⟨g, j * 5 + f, none⟩ = some (.int .u64 ((ptV s j f : Nat) : Int)) := by
  rw [h.cell, rowCells_get _ (by omega), ptZ, show (j * 5 + f) / 5 = j by omega, show (j * 5 + f) % 5 = f by omega]

set_option maxRecDepth 10000 in
set_option maxHeartbeats 1000000 in
theorem blanks8_calls (s : ByteArray) (hs : s.size ≤ 140737488355328) (w : World) (hT : Tab w) (hM : TabM w) (hw0 : 1 < w.heap.size) :
    Calls Tryd.prog 12 #[.string s] w fun e w' => ∃ g, w.heap.size ≤ g ∧ e = .returned (.agg #[.int .i64 (s.size : Int), .slice (some ⟨g, 0, none⟩) (need s.size) (need s.size)]) ∧ At w' g (rowCells (need s.size) (rowOf (blankS s) s.size)) 22 ∧ Below w.heap.size w w' := by
  have hpc := hid (fun (w1 : World) (hb : Below w.heap.size w w1) => parts_calls s hs w1 (hT.below hb (by omega)) (hM.below hb hw0) (by have := hb.size; omega))
  obtain ⟨K, hK⟩ : ∃ K, Hid (need s.size = K) := ⟨_, rfl⟩
  have hK44 : K ≤ 2199023255552 := by have := hK.out; unfold need at this; omega
  have hmk := fun u => make_row K (by omega) u
  rw [hK.out]
  rw [hK.out] at hpc
  clear hT hM
  go_enter Tryd.func12, Tryd.ntmps12
  go_wp2_with fail
  refine Calls.mono (hpc.out _ (by repeat (first | with_reducible exact Below.refl _ _ | with_reducible refine Below.setCell ?_ (by first | (simp; done) | (simp; omega)) _ | with_reducible refine below_drewN ?_ _ | with_reducible refine Below.alloc ?_ (by first | (simp; done) | (simp; omega)) _ | with_reducible refine Below.drew ?_))) ?_
  rintro e w1 ⟨g, hg, rfl, hA, hb⟩
  rw [World.size_alloc] at hg
  have hB1 : Below w.heap.size w w1 := Below.trans (by repeat (first | with_reducible exact Below.refl _ _ | with_reducible refine Below.setCell ?_ (by first | (simp; done) | (simp; omega)) _ | with_reducible refine below_drewN ?_ _ | with_reducible refine Below.alloc ?_ (by first | (simp; done) | (simp; omega)) _ | with_reducible refine Below.drew ?_)) (hb.mono (by simp))
  have hr0 := hid ((At.new w #[.int .i64 0, .slice none 0 0] 34).keptAll hb)
  have hA' := hid hA
  have hgl := hA.lt
  have hlt0 := hr0.out.lt
  clear hpc hb hA
  go_wp2
  go_loopw [5, 6, 14] (fun _ _ i wr => ∃ j : Nat, j ≤ K ∧ i = .int .i64 (j : Int) ∧ At wr w.heap.size #[.int .i64 0, .slice none 0 0] 34 ∧ At wr g (rowCells (K * 5) (ptZ s)) 67 ∧ At wr w1.heap.size (rowCells K (rowUp (blankS s) s.size j)) 22 ∧ Below w.heap.size w wr) (fun _ _ i _ => K - (intOf i).toNat)
  case atStart =>
    refine ⟨0, Nat.zero_le _, rfl, hr0.out.alloc _, hA'.out.alloc _, ?_, hB1.alloc hB1.size _⟩
    rw [show rowCells K (rowUp (blankS s) s.size 0) = rowCells K (fun _ => 0) from rowCells_congr (fun j _ => by unfold rowUp; rw [if_neg (by omega)])]
    exact At.new w1 _ _
  case round =>
    obtain ⟨j, hj, rfl, a1, a2, a3, hB⟩ := hrel
    by_cases hlt : j < K
    · have hji : (j : Int) < (K : Int) := by omega
      have c0 := pt_cell a2 hlt (f := 0) (by omega)
      have c1 := pt_cell a2 hlt (f := 1) (by omega)
      have c2 := pt_cell a2 hlt (f := 2) (by omega)
      have c3 := pt_cell a2 hlt (f := 3) (by omega)
      have c4 := pt_cell a2 hlt (f := 4) (by omega)
      rw [Nat.add_zero] at c0
      obtain ⟨P0, hP0⟩ : ∃ P, Hid (ptV s j 0 = P) := ⟨_, rfl⟩
      obtain ⟨P1, hP1⟩ : ∃ P, Hid (ptV s j 1 = P) := ⟨_, rfl⟩
      obtain ⟨P2, hP2⟩ : ∃ P, Hid (ptV s j 2 = P) := ⟨_, rfl⟩
      obtain ⟨P3, hP3⟩ : ∃ P, Hid (ptV s j 3 = P) := ⟨_, rfl⟩
      obtain ⟨P4, hP4⟩ : ∃ P, Hid (ptV s j 4 = P) := ⟨_, rfl⟩
      rw [hP0.out] at c0
      rw [hP1.out] at c1
      rw [hP2.out] at c2
      rw [hP3.out] at c3
      rw [hP4.out] at c4
      have d0 := a3.cell j
      have f0 := a3.frozen j
      rw [rowCells_get _ hlt] at d0
      have bl := a3.lt
      have gl := a2.lt
      have t1 := hid a1
      have t2 := hid a2
      have t3 := hid a3
      clear a1 a2 a3
      go_wp2
      go_roundw
      case rel =>
        refine ⟨j + 1, by omega, by go_num, (t1.out.other (p := ⟨w1.heap.size, j, none⟩) (by show w.heap.size ≠ w1.heap.size; omega) _).alloc _, (t2.out.other (p := ⟨w1.heap.size, j, none⟩) (by show g ≠ w1.heap.size; omega) _).alloc _, ?_, Below.alloc (hB.setCell (p := ⟨w1.heap.size, j, none⟩) hB1.size _) (hB.setCell (p := ⟨w1.heap.size, j, none⟩) hB1.size _).size _⟩
        have h := t3.out.set j (.int .u64 (P1 : Int))
        rw [rowCells_set] at h
        rw [show rowCells K (rowUp (blankS s) s.size (j + 1)) = rowCells K (fun i => if i = j then P1 else rowUp (blankS s) s.size j i) from rowCells_congr (fun i _ => by rw [← hP1.out]; exact (rowUp_set _ _ _ _).symm)]
        exact h.alloc _
      case measure => simp [intOf]; omega
    · obtain rfl : j = K := by omega
      obtain ⟨d0, d1, f0, f1⟩ := a1.facts
      have t1 := hid a1
      have t3 := hid a3
      clear a1 a2 a3
      go_wp2
      refine ret_bits1 rfl rfl t1.out.two rfl ⟨w1.heap.size, hB1.size, rfl, ?_, (hB.setCell (p := ⟨w.heap.size, 0, none⟩) (Nat.le_refl _) _).setCell (p := ⟨w.heap.size, 1, none⟩) (Nat.le_refl _) _⟩
      rw [show rowCells j (rowOf (blankS s) s.size) = rowCells j (rowUp (blankS s) s.size j) from rowCells_congr (fun i hi => by unfold rowUp; rw [if_pos hi])]
      exact (t3.out.other (p := ⟨w.heap.size, 0, none⟩) (by show w1.heap.size ≠ w.heap.size; omega) _).other (p := ⟨w.heap.size, 1, none⟩) (by show w1.heap.size ≠ w.heap.size; omega) _
end Go.Proofs.YtomeaejjdjidlaaDoor
