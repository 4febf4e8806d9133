/-
  What marks.sides answers.
-/
import Derived.Test.YtomeaejjdjidlaaDoorPartA
import Derived.Test.YtomeaejjdjidlaaDoorJoinGives
namespace Go.Proofs.YtomeaejjdjidlaaDoor
open Go.RowKit Go.Shelf

/-- The marks that open. -/
def opnS (s : ByteArray) (i : Nat) : Bool := markS s i && inS s i
/-- The first places of words. -/
def firS (s : ByteArray) (i : Nat) : Bool := wordS s i && !(decide (0 < i) && wordS s (i - 1))
theorem rowOf_same {G H : Nat → Bool} {n j : Nat} (h : ∀ i, i < n → G i = H i) : rowOf G n j = rowOf H n j :=
  rowOf_eq (rowOf_lt _ _ _) fun r hr => by
    rw [← bitAt_word _ _ _ hr, rowOf_bit]
    by_cases hl : 64 * j + r < n
    · rw [decide_eq_true hl, h _ hl]
    · rw [decide_eq_false hl]; rfl
theorem rowOf_test (G : Nat → Bool) (n j r : Nat) (hr : r < 64) : (rowOf G n j).testBit r = (decide (64 * j + r < n) && G (64 * j + r)) := by rw [← bitAt_word _ _ _ hr, rowOf_bit]

set_option maxRecDepth 10000 in
set_option maxHeartbeats 1000000 in
theorem sides_calls (s : ByteArray) (hs : s.size ≤ 562949953421312) (K : Nat) (hK : Hid (need s.size = K)) (w : World) (hT : Tab w) (hw0 : 0 < w.heap.size) :
    Calls Tryd.prog 54 #[.string s] w fun e w' => ∃ o1 o2, e = .returned (.tuple #[.slice o1 K K, .slice o2 K K]) ∧ Own w.heap.size w' o1 K (rowOf (opnS s) s.size) ∧ Own w.heap.size w' o2 K (rowOf (outS s) s.size) ∧ Below w.heap.size w w' := by
  have hmk := hid (fun (w1 : World) (hb : Below w.heap.size w w1) => marksQ_calls s hs w1 (hT.below hb hw0) (Nat.lt_of_lt_of_le hw0 hb.size))
  have hn := wf_size hs
  have hk44 : K ≤ 17592186044416 := hK.out ▸ need_le hs
  have hfo : ∀ G, formed (s.size : Int) K (rowOf G s.size) := fun G => hK.out ▸ rowOf_formed G s.size
  have htE := hid (fun G => (show Hid (turnE (s.size : Int) K (rowOf G s.size) 0 (s.size : Int) K) from .inr ⟨hfo G, rfl, rfl, rfl⟩))
  have hjE := hid (fun G H => (show Hid (joinE (s.size : Int) (s.size : Int) K K (rowOf G s.size) (rowOf H s.size) 0 (s.size : Int) K) from .inr (.inr ⟨⟨hfo G, hfo H⟩, rfl, rfl, rfl, rfl⟩)))
  rw [hK.out] at hmk
  have hn' := hid hn
  clear hT hfo hn
  go_enter Tryd.func54, Tryd.ntmps54
  go_wp2_with fail
  refine Calls.mono (hmk.out _ (by repeat (first | with_reducible exact Below.refl _ _ | with_reducible refine Below.setCell ?_ (by first | (simp; done) | (simp; omega)) _ | with_reducible refine below_drewN ?_ _ | with_reducible refine Below.alloc ?_ (by first | (simp; done) | (simp; omega)) _ | with_reducible refine Below.drew ?_))) ?_
  rintro e w1 ⟨g, hg, rfl, hA, hb1⟩
  have hpre := hid (fun (w2 : World) (hb : Below w1.heap.size w1 w2) => prefixB_calls (s.size : Int) (some ⟨g, 0, none⟩) K K (rowOf (markS s) s.size) 0 (s.size : Int) K hn'.out hk44 (htE.out _) w2 ((hA.wds (fun _ _ => rowOf_lt _ _ _) (Nat.le_refl _)).kept hb))
  have hA' := hid hA
  clear hA hmk
  unfold bv at hpre
  go_wp2_with fail
  refine Calls.mono (hpre.out _ (by repeat (first | with_reducible exact Below.refl _ _ | with_reducible refine Below.setCell ?_ (by first | (simp; done) | (simp; omega)) _ | with_reducible refine below_drewN ?_ _ | with_reducible refine Below.alloc ?_ (by first | (simp; done) | (simp; omega)) _ | with_reducible refine Below.drew ?_))) ?_
  rintro e w2 ⟨hb2, so1, ho1, rfl⟩
  rw [Int.toNat_natCast] at ho1
  have v4 : At w2 w1.heap.size #[.int .i64 (s.size : Int), .slice (some ⟨g, 0, none⟩) K K] 34 := (At.new w1 _ _).keptAll hb2
  have q2 : Below w1.heap.size w1 w2 := Below.trans (by repeat (first | with_reducible exact Below.refl _ _ | with_reducible refine Below.setCell ?_ (by first | (simp; done) | (simp; omega)) _ | with_reducible refine below_drewN ?_ _ | with_reducible refine Below.alloc ?_ (by first | (simp; done) | (simp; omega)) _ | with_reducible refine Below.drew ?_)) (hb2.mono (by simp))
  have v4' := hid v4
  obtain ⟨m0, m1, -, -⟩ := v4.facts
  have mlt := v4.lt
  have ho1' := hid ho1
  have hand := hid (fun (w3 : World) (hb : Below w2.heap.size w2 w3) => and_gives (s.size : Int) (s.size : Int) (some ⟨g, 0, none⟩) so1 K K K K (rowOf (markS s) s.size) (rowOf (fun i => oddB (rowOf (markS s) s.size) (i + 1)) s.size) 0 (s.size : Int) K hn'.out hn'.out hk44 hk44 (hjE.out _ _) w3 (((hA'.out.wds (fun _ _ => rowOf_lt _ _ _) (Nat.le_refl _)).kept q2).kept hb) ((ho1'.out.wds (fun _ _ => rowOf_lt _ _ _)).kept hb))
  clear hpre v4 ho1 hb2
  unfold bv at hand ⊢
  go_wp2_with fail
  refine Calls.mono (hand.out _ (by repeat (first | with_reducible exact Below.refl _ _ | with_reducible refine Below.setCell ?_ (by first | (simp; done) | (simp; omega)) _ | with_reducible refine below_drewN ?_ _ | with_reducible refine Below.alloc ?_ (by first | (simp; done) | (simp; omega)) _ | with_reducible refine Below.drew ?_))) ?_
  rintro e w3 ⟨hb3, so2, ho2, rfl⟩
  rw [Int.toNat_natCast] at ho2
  clear m0 m1
  have v5 : At w3 w2.heap.size #[.int .i64 (s.size : Int), .slice so1 K K] 34 := (At.new w2 _ _).keptAll hb3
  have q3 : Below w2.heap.size w2 w3 := Below.trans (by repeat (first | with_reducible exact Below.refl _ _ | with_reducible refine Below.setCell ?_ (by first | (simp; done) | (simp; omega)) _ | with_reducible refine below_drewN ?_ _ | with_reducible refine Below.alloc ?_ (by first | (simp; done) | (simp; omega)) _ | with_reducible refine Below.drew ?_)) (hb3.mono (by simp))
  have v4b := v4'.out.keptAll q3
  obtain ⟨m0, m1, -, -⟩ := v4b.facts
  obtain ⟨n0, n1, -, -⟩ := v5.facts
  have nlt := v5.lt
  have mlt3 := v4b.lt
  have ho2' := hid ho2
  have q23 := hid (q2.trans (q3.mono q2.size))
  have hor := hid (fun (w4 : World) (hb : Below w3.heap.size w3 w4) => or_gives (s.size : Int) (s.size : Int) (some ⟨g, 0, none⟩) so1 K K K K (rowOf (markS s) s.size) (rowOf (fun i => oddB (rowOf (markS s) s.size) (i + 1)) s.size) 0 (s.size : Int) K hn'.out hn'.out hk44 hk44 (hjE.out _ _) w4 (((hA'.out.wds (fun _ _ => rowOf_lt _ _ _) (Nat.le_refl _)).kept q23.out).kept hb) (((ho1'.out.wds (fun _ _ => rowOf_lt _ _ _)).kept q3).kept hb))
  clear hand v5 v4b hb3 ho2
  unfold bv at hor ⊢
  go_wp2_with fail
  refine Calls.mono (hor.out _ (by repeat (first | with_reducible exact Below.refl _ _ | with_reducible refine Below.setCell ?_ (by first | (simp; done) | (simp; omega)) _ | with_reducible refine below_drewN ?_ _ | with_reducible refine Below.alloc ?_ (by first | (simp; done) | (simp; omega)) _ | with_reducible refine Below.drew ?_))) ?_
  rintro e w4 ⟨hb4, so3, ho3, rfl⟩
  rw [Int.toNat_natCast] at ho3
  clear m0 m1 n0 n1
  have v7 := hid (show At w4 w3.heap.size #[.int .i64 (s.size : Int), .slice so2 K K] 34 from (At.new w3 _ _).keptAll hb4)
  have q4 : Below w3.heap.size w3 w4 := Below.trans (by repeat (first | with_reducible exact Below.refl _ _ | with_reducible refine Below.setCell ?_ (by first | (simp; done) | (simp; omega)) _ | with_reducible refine below_drewN ?_ _ | with_reducible refine Below.alloc ?_ (by first | (simp; done) | (simp; omega)) _ | with_reducible refine Below.drew ?_)) (hb4.mono (by simp))
  have ho3' := hid ho3
  have hnot := hid (fun (w5 : World) (hb : Below w4.heap.size w4 w5) => not_calls (s.size : Int) so3 K K (rowOf (fun i => bitAt (rowOf (markS s) s.size) i || bitAt (rowOf (fun i => oddB (rowOf (markS s) s.size) (i + 1)) s.size) i) s.size) 0 (s.size : Int) K hn'.out hk44 (htE.out _) w5 ((ho3'.out.wds (fun _ _ => rowOf_lt _ _ _)).kept hb))
  clear hor hb4 ho3
  unfold bv at hnot ⊢
  go_wp2_with fail
  refine Calls.mono (hnot.out _ (by repeat (first | with_reducible exact Below.refl _ _ | with_reducible refine Below.setCell ?_ (by first | (simp; done) | (simp; omega)) _ | with_reducible refine below_drewN ?_ _ | with_reducible refine Below.alloc ?_ (by first | (simp; done) | (simp; omega)) _ | with_reducible refine Below.drew ?_))) ?_
  rintro e w5 ⟨hb5, so4, ho4, rfl⟩
  rw [Int.toNat_natCast] at ho4
  have q5 : Below w4.heap.size w4 w5 := Below.trans (by repeat (first | with_reducible exact Below.refl _ _ | with_reducible refine Below.setCell ?_ (by first | (simp; done) | (simp; omega)) _ | with_reducible refine below_drewN ?_ _ | with_reducible refine Below.alloc ?_ (by first | (simp; done) | (simp; omega)) _ | with_reducible refine Below.drew ?_)) (hb5.mono (by simp))
  have v7b := v7.out.keptAll q5
  obtain ⟨m0, m1, -, -⟩ := v7b.facts
  have v7lt := v7b.lt
  have ho4' := hid ho4
  have z1 := hb1.size
  have z2 := q2.size
  have z3 := q3.size
  have z4 := q4.size
  have q5' := hid q5
  have q4' := hid q4
  have q3' := hid q3
  have q2' := hid q2
  have hb1' := hid hb1
  have hz5 := hid (show w4.heap.size ≤ w5.heap.size from q5.size)
  have z1' := hid z1
  have z2' := hid z2
  have z3' := hid z3
  have z4' := hid z4
  clear hnot hb5 ho4 v7b q2 q3 q4 q5 hb1 z1 z2 z3 z4
  unfold bv
  go_wp2
  go_region
  go_wp2
  refine bodyPost_ret (v := .tuple #[.slice so2 K K, .slice so4 K K]) (by simp [results, Tryd.results54, go_sem]) rfl ?_
  have y1 := z1'.out
  have y2 := z2'.out
  have y3 := z3'.out
  have y4 := z4'.out
  have hBe : Below w.heap.size w w5 := hb1'.out.trans ((q2'.out.trans ((q3'.out.trans ((q4'.out.trans (q5'.out.mono (by omega))).mono (by omega))).mono (by omega))).mono (by omega))
  refine ⟨so2, so4, rfl, ?_, ?_, ?_⟩
  · have h := (((ho2'.out.kept q4'.out).kept q5'.out).kept (w' := w5.alloc (.cells #[.int .i64 (s.size : Int), .slice so4 K K] 34)) (by repeat (first | with_reducible exact Below.refl _ _ | with_reducible refine Below.setCell ?_ (by first | (simp; done) | (simp; omega)) _ | with_reducible refine below_drewN ?_ _ | with_reducible refine Below.alloc ?_ (by first | (simp; done) | (simp; omega)) _ | with_reducible refine Below.drew ?_))).mono (B' := w.heap.size) (by simp; omega)
    rw [show rowOf (opnS s) s.size = rowOf (fun i => bitAt (rowOf (markS s) s.size) i && bitAt (rowOf (fun i => oddB (rowOf (markS s) s.size) (i + 1)) s.size) i) s.size from funext fun j => rowOf_same fun i hi => by
      rw [rowOf_bit, show rowOf (fun i => oddB (rowOf (markS s) s.size) (i + 1)) s.size = rowOf (inS s) s.size from funext (inS_row s), rowOf_bit, decide_eq_true hi]; rfl]
    exact h
  · have h := (ho4'.out.kept (w' := w5.alloc (.cells #[.int .i64 (s.size : Int), .slice so4 K K] 34)) (by repeat (first | with_reducible exact Below.refl _ _ | with_reducible refine Below.setCell ?_ (by first | (simp; done) | (simp; omega)) _ | with_reducible refine below_drewN ?_ _ | with_reducible refine Below.alloc ?_ (by first | (simp; done) | (simp; omega)) _ | with_reducible refine Below.drew ?_))).mono (B' := w.heap.size) (by simp; omega)
    rw [show rowOf (outS s) s.size = rowOf (fun i => !bitAt (rowOf (fun i => bitAt (rowOf (markS s) s.size) i || bitAt (rowOf (fun i => oddB (rowOf (markS s) s.size) (i + 1)) s.size) i) s.size) i) s.size from funext fun j => rowOf_same fun i hi => by
      rw [rowOf_bit, rowOf_bit, show rowOf (fun i => oddB (rowOf (markS s) s.size) (i + 1)) s.size = rowOf (inS s) s.size from funext (inS_row s), rowOf_bit, decide_eq_true hi]
      unfold outS
      rw [decide_eq_true hi]
      cases markS s i <;> cases inS s i <;> rfl]
    exact h
  · exact (hBe.alloc (by omega) _).drew
end Go.Proofs.YtomeaejjdjidlaaDoor
