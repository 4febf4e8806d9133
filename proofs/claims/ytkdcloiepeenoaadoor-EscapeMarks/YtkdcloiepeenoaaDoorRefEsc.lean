/-
  What quarryref06.Escaped answers.
-/
import Derived.Test.YtkdcloiepeenoaaDoorRefIs2
import Derived.Test.YtkdcloiepeenoaaDoorRefOf
import Derived.Test.YtkdcloiepeenoaaDoorEscWords
namespace Go.Proofs.YtkdcloiepeenoaaDoor
open Go.RowKit

/-- A row of truths that append has made. -/
theorem row6_open {w : World} {B n : Nat} {v : Value} {G : Nat → Bool} (h : w.ownsRow B 4 1 v (n + 1) (bl6 G (n + 1))) : ∃ g cap, v = .slice (some ⟨g, 0, none⟩) (n + 1) cap ∧ n ≤ cap ∧ B ≤ g ∧ Bls w (some ⟨g, 0, none⟩) n G := by
  rcases h.2 with ⟨_, h0⟩ | ⟨g, cap, cur, rfl, hb, hgb, h3, h4, h5, h6⟩
  · omega
  · refine ⟨g, cap, rfl, by omega, hb, fun j hj => ?_⟩
    obtain ⟨g', cap', e1, e2⟩ := row6_cell h (i := j) (by omega)
    cases e1
    exact ⟨g, 0, rfl, by rw [Nat.zero_add]; exact e2⟩

set_option maxRecDepth 10000 in
set_option maxHeartbeats 1000000 in
theorem refEsc_calls (s : ByteArray) (hs : s.size ≤ 140737488351232) (w : World) :
    Calls Tryd.prog 22 #[.string s] w fun e w' => ∃ v, e = .returned (.agg #[.int .i64 (s.size : Int), v]) ∧ w'.ownsRow w.heap.size 39 1 v (need s.size) (wl (rowOf (escS s) s.size) (need s.size)) ∧ Below w.heap.size w w' := by
  go_enter Tryd.func22, Tryd.ntmps22
  go_wp2_with fail
  refine (is_calls s false (escS s) rfl hs _).mono ?_
  rintro e w1 ⟨v, rfl, hown, hb⟩
  obtain ⟨g, cap, rfl, hcap, hg, hbl⟩ := row6_open hown
  have hci : (s.size : Int) ≤ (cap : Int) := by omega
  have hcn : s.size ≤ cap := hcap
  have hbl' := hid hbl
  have hb' := hid hb
  clear hown hbl hb
  go_wp2_with fail
  refine (of_calls (some ⟨g, 0, none⟩) s.size cap (escS s) (by omega) w1 hbl'.out).mono ?_
  rintro e w2 ⟨v, rfl, hrow, hb2⟩
  have a0 : At w2 w.heap.size #[.int .i64 0, .slice none 0 0] 24 := ((At.new w #[.int .i64 0, .slice none 0 0] 24).keptAll hb'.out).keptAll hb2
  obtain ⟨vo, vc, rfl⟩ := row_slice hrow
  obtain ⟨d0, d1, f0, f1⟩ := a0.facts
  have hz1 := hb'.out.size
  rw [World.size_alloc] at hz1
  have hb1 : Hid (Below w.heap.size w w1) := by
    have h := hb'.out
    rw [World.size_alloc] at h
    exact ((Below.refl _ w).alloc (Nat.le_refl _) _).trans (h.mono (Nat.le_succ _))
  have hBt := hid (hb1.out.trans (hb2.mono hb1.out.size))
  have hrow' := hid hrow
  have a0' := hid a0
  have hz1' := hid hz1
  clear hbl' hb' hrow hb2 a0 hb1 hz1
  go_wp2
  refine ret_bits1 rfl rfl a0'.out.two rfl ⟨_, rfl, ?_, (hBt.out.setCell (p := ⟨w.heap.size, 0, none⟩) (Nat.le_refl _) _).setCell (p := ⟨w.heap.size, 1, none⟩) (Nat.le_refl _) _⟩
  have hz := hz1'.out
  exact row_base (row_other (row_other hrow'.out (p := ⟨w.heap.size, 0, none⟩) (by show w.heap.size < w1.heap.size; omega) _) (p := ⟨w.heap.size, 1, none⟩) (by show w.heap.size < w1.heap.size; omega) _) (by omega)
end Go.Proofs.YtkdcloiepeenoaaDoor
