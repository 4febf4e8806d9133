/-
 What quarryref11.Of answers.
-/
import Derived.Test.YtlmjiocdhobopaaGreatDoorDecROf
namespace Go.Proofs.YtlmjiocdhobopaaGreatDoor
open Go.RowKit Go.Shelf
set_option maxRecDepth 10000 in
set_option maxHeartbeats 4000000 in
theorem refOfD_calls (s : ByteArray) (hs : s.size ≤ 281474976710656) (w : World) :
  Calls Tryz.prog 42 #[.string s] w fun e w' => e = .returned (ofV s) ∧ Below w.heap.size w w' := by
 have hrc := hid (fun w1 => refRead_calls s 0 hs (Nat.zero_le _) w1)
 have hen := read_end (s := s) (Nat.zero_le _)
 have D0 := hid (show OwnD w w.heap.size false ⟨#[]⟩ 0 (w.alloc (.cells #[.bool false, .string ⟨#[]⟩, .int .i64 0] 49)) from ⟨Nat.le_refl _, At.new w _ _, by repeat (first | with_reducible exact Below.refl _ _ | with_reducible refine Below.setCell ?_ (by first | (simp; done) | (simp; omega)) _ | with_reducible refine below_drewN ?_ _ | with_reducible refine Below.alloc ?_ (by first | (simp; done) | (simp; omega)) _ | with_reducible refine Below.drew ?_)⟩)
 have her : (readS s 0).2.2 = 110 → (readS s 0).1 = zeroD := by
  unfold readS
  split
  ·intro _; rfl
  ·split
   ·intro _; rfl
   ·intro h; exact absurd h (by show ¬ (0 : Nat) = 110; decide)
 obtain ⟨r, hr⟩ : ∃ r, readS s 0 = r := ⟨_, rfl⟩
 obtain ⟨⟨dn, dd, dx⟩, en, er⟩ := r
 have hrc2 := hrc.out
 unfold readV at hrc2
 rw [hr] at hrc2 hen her
 dsimp only [decV] at hrc2 hen her
 have hfin : (en ≠ s.size ∨ er = 110 → ofV s = .tuple #[.agg #[.bool false, .string ⟨#[]⟩, .int .i64 0], .int .i64 110]) ∧ (en = s.size → ofV s = .tuple #[.agg #[.bool dn, .string ⟨dd.toArray⟩, .int .i64 dx], .int .i64 (er : Int)]) := by
  constructor
  ·intro h
   by_cases h1 : en = s.size
   ·rcases h with h | h
    ·exact absurd h1 h
    ·rw [ofV, ofS_same s (by rw [hr]; exact h1), hr]
     dsimp only
     rw [her h, h]
     rfl
   ·rw [ofV, ofS_zero s (by rw [hr]; exact h1)]; rfl
  ·intro h; rw [ofV, ofS_same s (by rw [hr]; exact h), hr]; rfl
 obtain ⟨TD, hTD⟩ : ∃ TD : ByteArray, (⟨dd.toArray⟩ : ByteArray) = TD := ⟨_, rfl⟩
 rw [hTD] at hrc2 hfin
 have hrc3 := hid hrc2
 have hfin' := hid hfin
 clear hTD hrc hrc2 hr hfin her
 go_enter Tryz.func42, Tryz.ntmps42
 go_wp2_with fail
 refine Calls.mono (hrc3.out _) ?_
 rintro e w1 ⟨rfl, hb⟩
 have D1 := hid (D0.out.kept hb)
 clear D0 hrc3 hb
 have B1 := hid (At.new w1 #[.bool dn, .string TD, .int .i64 dx] 49)
 have D2 := hid (D1.out.kept (w' := w1.alloc (.cells #[.bool dn, .string TD, .int .i64 dx] 49)) ((Below.refl _ _).alloc (Nat.le_refl _) _))
 go_upto_region 2 with fail
 generalize hb1 : w1.heap.size = b1 at B1 ⊢
 generalize w1.alloc (.cells #[.bool dn, .string TD, .int .i64 dx] 49) = w2 at B1 D2 ⊢
 clear D1 hb1
 obtain ⟨⟨c0, c1, c2⟩, f0, f1, f2⟩ := D2.out.facts
 by_cases hr0 : er = 110
 ·have hv := hid (hfin'.out.1 (.inr hr0))
  subst hr0
  clear hfin'
  go_wp2
  refine ret_dec rfl rfl (D2.out.put _ _ _).2.1 rfl ⟨?_, (D2.out.put _ _ _).2.2⟩
  rw [hv.out]
  rfl
 ·have e0 : ((er : Int) == 110) = false := beq_eq_false_iff_ne.2 (by omega)
  by_cases he : en = s.size
  ·have e1 : ((en : Int) != (s.size : Int)) = false := by simp [he]
   have hv := hid (hfin'.out.2 he)
   have g0 : w2.cell? ⟨b1, 0, none⟩ = some (.bool dn) := B1.out.cell 0
   have g1 : w2.cell? ⟨b1, 1, none⟩ = some (.string TD) := B1.out.cell 1
   have g2 : w2.cell? ⟨b1, 2, none⟩ = some (.int .i64 dx) := B1.out.cell 2
   clear hfin' he hr0
   go_wp2
   refine ret_dec rfl rfl (D2.out.put _ _ _).2.1 rfl ⟨?_, (D2.out.put _ _ _).2.2⟩
   rw [hv.out]
   rfl
  ·have e1 : ((en : Int) != (s.size : Int)) = true := by simp; omega
   have hv := hid (hfin'.out.1 (.inl he))
   clear hfin' he hr0
   go_wp2
   refine ret_dec rfl rfl (D2.out.put _ _ _).2.1 rfl ⟨?_, (D2.out.put _ _ _).2.2⟩
   rw [hv.out]
   rfl
end Go.Proofs.YtlmjiocdhobopaaGreatDoor
