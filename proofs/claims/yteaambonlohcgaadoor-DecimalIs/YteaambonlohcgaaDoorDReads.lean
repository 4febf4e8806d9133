/-
  The laws DecimalReads and DecimalIs, walked.
-/
import Derived.Test.YteaambonlohcgaaDoorRefOf
namespace Go.Proofs.YteaambonlohcgaaDoor
open Go.RowKit Go.Shelf

set_option maxRecDepth 10000 in
theorem read_out (s : ByteArray) (I : Int) (h : I < 0 ∨ (s.size : Int) < I) (w : World) :
    Calls Tryd.prog 8 #[.string s, .int .i64 I] w fun e w' => e = .returned (.tuple #[.agg #[.bool false, .string ⟨#[]⟩, .int .i64 0], .int .i64 0, .int .i64 2]) ∧ Below w.heap.size w w' := by
  have D0 := hid (show OwnD w w.heap.size false ⟨#[]⟩ 0 (w.alloc (.cells #[.bool false, .string ⟨#[]⟩, .int .i64 0] 23)) from ⟨Nat.le_refl _, At.new w _ _, by repeat (first | with_reducible exact Below.refl _ _ | with_reducible refine Below.setCell ?_ (by first | (simp; done) | (simp; omega)) _ | with_reducible refine below_drewN ?_ _ | with_reducible refine Below.alloc ?_ (by first | (simp; done) | (simp; omega)) _ | with_reducible refine Below.drew ?_)⟩)
  go_enter Tryd.func8, Tryd.ntmps8
  go_upto_region 1 with fail
  generalize w.alloc (.cells #[.bool false, .string ⟨#[]⟩, .int .i64 0] 23) = W0 at D0 ⊢
  obtain ⟨⟨c0, c1, c2⟩, f0, f1, f2⟩ := D0.out.facts
  by_cases h0 : I < 0
  · clear h
    go_wp2
    refine ret_dec3 rfl rfl (D0.out.put _ _ _).2.1 rfl ⟨rfl, (D0.out.put _ _ _).2.2⟩
  · have h1 : (s.size : Int) < I := by omega
    clear h
    go_wp2
    refine ret_dec3 rfl rfl (D0.out.put _ _ _).2.1 rfl ⟨rfl, (D0.out.put _ _ _).2.2⟩
set_option maxRecDepth 10000 in
theorem refRead_out (s : ByteArray) (I : Int) (h : I < 0 ∨ (s.size : Int) < I) (w : World) :
    Calls Tryd.prog 9 #[.string s, .int .i64 I] w fun e w' => e = .returned (.tuple #[.agg #[.bool false, .string ⟨#[]⟩, .int .i64 0], .int .i64 0, .int .i64 2]) ∧ Below w.heap.size w w' := by
  have D0 := hid (show OwnD w w.heap.size false ⟨#[]⟩ 0 (w.alloc (.cells #[.bool false, .string ⟨#[]⟩, .int .i64 0] 23)) from ⟨Nat.le_refl _, At.new w _ _, by repeat (first | with_reducible exact Below.refl _ _ | with_reducible refine Below.setCell ?_ (by first | (simp; done) | (simp; omega)) _ | with_reducible refine below_drewN ?_ _ | with_reducible refine Below.alloc ?_ (by first | (simp; done) | (simp; omega)) _ | with_reducible refine Below.drew ?_)⟩)
  go_enter Tryd.func9, Tryd.ntmps9
  go_upto_region 1 with fail
  generalize w.alloc (.cells #[.bool false, .string ⟨#[]⟩, .int .i64 0] 23) = W0 at D0 ⊢
  obtain ⟨⟨c0, c1, c2⟩, f0, f1, f2⟩ := D0.out.facts
  by_cases h0 : I < 0
  · clear h
    go_wp2
    refine ret_dec3 rfl rfl (D0.out.put _ _ _).2.1 rfl ⟨rfl, (D0.out.put _ _ _).2.2⟩
  · have h1 : (s.size : Int) < I := by omega
    clear h
    go_wp2
    refine ret_dec3 rfl rfl (D0.out.put _ _ _).2.1 rfl ⟨rfl, (D0.out.put _ _ _).2.2⟩
/-- Both answer the same. -/
theorem both_read (s : ByteArray) (hs : s.size ≤ 281474976710656) (I : Int) : ∃ (dn : Bool) (TD : ByteArray) (dx en er : Int),
    (∀ w, Calls Tryd.prog 8 #[.string s, .int .i64 I] w fun e w' => e = .returned (.tuple #[.agg #[.bool dn, .string TD, .int .i64 dx], .int .i64 en, .int .i64 er]) ∧ Below w.heap.size w w') ∧
    (∀ w, Calls Tryd.prog 9 #[.string s, .int .i64 I] w fun e w' => e = .returned (.tuple #[.agg #[.bool dn, .string TD, .int .i64 dx], .int .i64 en, .int .i64 er]) ∧ Below w.heap.size w w') := by
  by_cases h : I < 0 ∨ (s.size : Int) < I
  · exact ⟨false, ⟨#[]⟩, 0, 0, 2, fun w => read_out s I h w, fun w => refRead_out s I h w⟩
  · obtain ⟨p, rfl⟩ : ∃ p : Nat, I = (p : Int) := ⟨I.toNat, by omega⟩
    exact ⟨_, _, _, _, _, fun w => read_calls s p hs (by omega) w, fun w => refRead_calls s p hs (by omega) w⟩

set_option maxRecDepth 10000 in
set_option maxHeartbeats 4000000 in
theorem refOf_calls (s : ByteArray) (hs : s.size ≤ 281474976710656) (w : World) :
    Calls Tryd.prog 11 #[.string s] w fun e w' => e = .returned (ofV s) ∧ Below w.heap.size w w' := by
  have hrc := hid (fun w1 => refRead_calls s 0 hs (Nat.zero_le _) w1)
  have hen := read_end (s := s) (Nat.zero_le _)
  have D0 := hid (show OwnD w w.heap.size false ⟨#[]⟩ 0 (w.alloc (.cells #[.bool false, .string ⟨#[]⟩, .int .i64 0] 23)) from ⟨Nat.le_refl _, At.new w _ _, by repeat (first | with_reducible exact Below.refl _ _ | with_reducible refine Below.setCell ?_ (by first | (simp; done) | (simp; omega)) _ | with_reducible refine below_drewN ?_ _ | with_reducible refine Below.alloc ?_ (by first | (simp; done) | (simp; omega)) _ | with_reducible refine Below.drew ?_)⟩)
  have her : (readS s 0).2.2 = 110 → (readS s 0).1 = zeroD := by
    unfold readS
    split
    · intro _; rfl
    · split
      · intro _; rfl
      · intro h; exact absurd h (by show ¬ (0 : Nat) = 110; decide)
  obtain ⟨r, hr⟩ : ∃ r, readS s 0 = r := ⟨_, rfl⟩
  obtain ⟨⟨dn, dd, dx⟩, en, er⟩ := r
  have hrc2 := hrc.out
  unfold readV at hrc2
  rw [hr] at hrc2 hen her
  dsimp only [decV] at hrc2 hen her
  have hfin : (en ≠ s.size ∨ er = 110 → ofV s = .tuple #[.agg #[.bool false, .string ⟨#[]⟩, .int .i64 0], .int .i64 110]) ∧ (en = s.size → ofV s = .tuple #[.agg #[.bool dn, .string ⟨dd.toArray⟩, .int .i64 dx], .int .i64 (er : Int)]) := by
    constructor
    · intro h
      by_cases h1 : en = s.size
      · rcases h with h | h
        · exact absurd h1 h
        · rw [ofV, ofS_same s (by rw [hr]; exact h1), hr]
          dsimp only
          rw [her h, h]
          rfl
      · rw [ofV, ofS_zero s (by rw [hr]; exact h1)]; rfl
    · intro h; rw [ofV, ofS_same s (by rw [hr]; exact h), hr]; rfl
  obtain ⟨TD, hTD⟩ : ∃ TD : ByteArray, (⟨dd.toArray⟩ : ByteArray) = TD := ⟨_, rfl⟩
  rw [hTD] at hrc2 hfin
  have hrc3 := hid hrc2
  have hfin' := hid hfin
  clear hTD hrc hrc2 hr hfin her
  go_enter Tryd.func11, Tryd.ntmps11
  go_wp2_with fail
  refine Calls.mono (hrc3.out _) ?_
  rintro e w1 ⟨rfl, hb⟩
  have D1 := hid (D0.out.kept hb)
  clear D0 hrc3 hb
  have B1 := hid (At.new w1 #[.bool dn, .string TD, .int .i64 dx] 23)
  have D2 := hid (D1.out.kept (w' := w1.alloc (.cells #[.bool dn, .string TD, .int .i64 dx] 23)) ((Below.refl _ _).alloc (Nat.le_refl _) _))
  go_upto_region 2 with fail
  generalize hb1 : w1.heap.size = b1 at B1 ⊢
  generalize w1.alloc (.cells #[.bool dn, .string TD, .int .i64 dx] 23) = w2 at B1 D2 ⊢
  clear D1 hb1
  obtain ⟨⟨c0, c1, c2⟩, f0, f1, f2⟩ := D2.out.facts
  by_cases hr0 : er = 110
  · have hv := hid (hfin'.out.1 (.inr hr0))
    subst hr0
    clear hfin'
    go_wp2
    refine ret_dec rfl rfl (D2.out.put _ _ _).2.1 rfl ⟨?_, (D2.out.put _ _ _).2.2⟩
    rw [hv.out]
    rfl
  · have e0 : ((er : Int) == 110) = false := beq_eq_false_iff_ne.2 (by omega)
    by_cases he : en = s.size
    · have e1 : ((en : Int) != (s.size : Int)) = false := by simp [he]
      have hv := hid (hfin'.out.2 he)
      have g0 : w2.cell? ⟨b1, 0, none⟩ = some (.bool dn) := B1.out.cell 0
      have g1 : w2.cell? ⟨b1, 1, none⟩ = some (.string TD) := B1.out.cell 1
      have g2 : w2.cell? ⟨b1, 2, none⟩ = some (.int .i64 dx) := B1.out.cell 2
      clear hfin' he hr0
      go_wp2
      refine ret_dec rfl rfl (D2.out.put _ _ _).2.1 rfl ⟨?_, (D2.out.put _ _ _).2.2⟩
      rw [hv.out]
      rfl
    · have e1 : ((en : Int) != (s.size : Int)) = true := by simp; omega
      have hv := hid (hfin'.out.1 (.inl he))
      clear hfin' he hr0
      go_wp2
      refine ret_dec rfl rfl (D2.out.put _ _ _).2.1 rfl ⟨?_, (D2.out.put _ _ _).2.2⟩
      rw [hv.out]
      rfl

theorem awR : readV ⟨#[120, 45, 49, 50, 46, 53, 48, 101, 51, 44]⟩ 1 = .tuple #[.agg #[.bool true, .string ⟨#[49, 50, 53]⟩, .int .i64 2], .int .i64 9, .int .i64 0] := by kernel_rfl
theorem awO : ofV ⟨#[48, 46, 53]⟩ = .tuple #[.agg #[.bool false, .string ⟨#[53]⟩, .int .i64 (-1)], .int .i64 0] := by kernel_rfl
set_option maxRecDepth 10000 in
set_option maxHeartbeats 4000000 in
theorem decimalReads_walk (s : ByteArray) (hz : s.size ≤ reachBytes) (I : Int) (_ : (Lit.int .i64 I).wf = true) (w : World) :
    Calls Tryd.prog 3 #[.string s, .int .i64 I] w fun e w' => e = .returned (.bool true) ∧ Below w.heap.size w w' := by
  have hr := reachBytes_lt
  obtain ⟨dn, TD, dx, en, er, k1, k2⟩ := both_read s (by omega) I
  have c1 := hid k1
  have c2 := hid k2
  have ca := hid (fun w1 => read_calls ⟨#[120, 45, 49, 50, 46, 53, 48, 101, 51, 44]⟩ 1 (by decide) (by decide) w1)
  rw [awR] at ca
  have he := eqDec true ⟨#[49, 50, 53]⟩ 2
  have he2 := eqDec dn TD dx
  clear k1 k2 hz hr
  go_enter Tryd.func3, Tryd.ntmps3
  go_wp2_with fail
  refine Calls.mono (ca.out _) ?_
  rintro e w1 ⟨rfl, hb⟩
  have D1 := hid (show OwnD w w1.heap.size true ⟨#[49, 50, 53]⟩ 2 (w1.alloc (.cells #[.bool true, .string ⟨#[49, 50, 53]⟩, .int .i64 2] 23)) from ⟨hb.size, At.new w1 _ _, hb.alloc hb.size _⟩)
  clear ca hb
  go_upto_region 2 with fail
  generalize w1.heap.size = b1 at D1 ⊢
  generalize w1.alloc (.cells #[.bool true, .string ⟨#[49, 50, 53]⟩, .int .i64 2] 23) = w2 at D1 ⊢
  obtain ⟨⟨d0, d1, d2⟩, f0, f1, f2⟩ := D1.out.facts
  go_wp2_with fail
  refine Calls.mono (c1.out _) ?_
  rintro e w3 ⟨rfl, hb⟩
  have D3 := hid (D1.out.kept hb)
  clear c1 hb D1 d0 d1 d2 f0 f1 f2 he
  obtain ⟨⟨d0, d1, d2⟩, f0, f1, f2⟩ := D3.out.facts
  have D4 := hid (D3.out.put dn TD dx)
  go_wp2_with fail
  refine Calls.mono (c2.out _) ?_
  rintro e w5 ⟨rfl, hb⟩
  have D5 := hid (D4.out.kept hb)
  clear c2 hb D3 D4 d0 d1 d2 f0 f1 f2
  have B6 := hid (At.new w5 #[.bool dn, .string TD, .int .i64 dx] 23)
  have D6 := hid (D5.out.kept (w' := w5.alloc (.cells #[.bool dn, .string TD, .int .i64 dx] 23)) ((Below.refl _ _).alloc (Nat.le_refl _) _))
  go_upto_region 6 with fail
  generalize w5.heap.size = b6 at B6 ⊢
  generalize w5.alloc (.cells #[.bool dn, .string TD, .int .i64 dx] 23) = w6 at B6 D6 ⊢
  clear D5
  obtain ⟨⟨d0, d1, d2⟩, -, -, -⟩ := D6.out.facts
  have g0 : w6.cell? ⟨b6, 0, none⟩ = some (.bool dn) := B6.out.cell 0
  have g1 : w6.cell? ⟨b6, 1, none⟩ = some (.string TD) := B6.out.cell 1
  have g2 : w6.cell? ⟨b6, 2, none⟩ = some (.int .i64 dx) := B6.out.cell 2
  have e1 : (en == en) = true := by simp
  have e2 : (er == er) = true := by simp
  go_wp2
  go_ret
  exact ⟨by first | rfl | simp, D6.out.2.2⟩
set_option maxRecDepth 10000 in
set_option maxHeartbeats 4000000 in
theorem decimalIs_walk (s : ByteArray) (hz : s.size ≤ reachBytes) (w : World) :
    Calls Tryd.prog 4 #[.string s] w fun e w' => e = .returned (.bool true) ∧ Below w.heap.size w w' := by
  have hr := reachBytes_lt
  obtain ⟨dn, TD, dx, er, hv⟩ : ∃ (dn : Bool) (TD : ByteArray) (dx : Int) (er : Nat), ofV s = .tuple #[.agg #[.bool dn, .string TD, .int .i64 dx], .int .i64 (er : Int)] := ⟨_, _, _, _, rfl⟩
  have c1 := hid (fun w1 => of_calls s (by omega) w1)
  have c2 := hid (fun w1 => refOf_calls s (by omega) w1)
  have ca := hid (fun w1 => of_calls ⟨#[48, 46, 53]⟩ (by decide) w1)
  rw [awO] at ca
  rw [hv] at c1 c2
  have he := eqDec false ⟨#[53]⟩ (-1)
  have he2 := eqDec dn TD dx
  clear hv hz hr
  go_enter Tryd.func4, Tryd.ntmps4
  go_wp2_with fail
  refine Calls.mono (ca.out _) ?_
  rintro e w1 ⟨rfl, hb⟩
  have D1 := hid (show OwnD w w1.heap.size false ⟨#[53]⟩ (-1) (w1.alloc (.cells #[.bool false, .string ⟨#[53]⟩, .int .i64 (-1)] 23)) from ⟨hb.size, At.new w1 _ _, hb.alloc hb.size _⟩)
  clear ca hb
  go_upto_region 2 with fail
  generalize w1.heap.size = b1 at D1 ⊢
  generalize w1.alloc (.cells #[.bool false, .string ⟨#[53]⟩, .int .i64 (-1)] 23) = w2 at D1 ⊢
  obtain ⟨⟨d0, d1, d2⟩, f0, f1, f2⟩ := D1.out.facts
  go_wp2_with fail
  refine Calls.mono (c1.out _) ?_
  rintro e w3 ⟨rfl, hb⟩
  have D3 := hid (D1.out.kept hb)
  clear c1 hb D1 d0 d1 d2 f0 f1 f2 he
  obtain ⟨⟨d0, d1, d2⟩, f0, f1, f2⟩ := D3.out.facts
  have D4 := hid (D3.out.put dn TD dx)
  go_wp2_with fail
  refine Calls.mono (c2.out _) ?_
  rintro e w5 ⟨rfl, hb⟩
  have D5 := hid (D4.out.kept hb)
  clear c2 hb D3 D4 d0 d1 d2 f0 f1 f2
  have B6 := hid (At.new w5 #[.bool dn, .string TD, .int .i64 dx] 23)
  have D6 := hid (D5.out.kept (w' := w5.alloc (.cells #[.bool dn, .string TD, .int .i64 dx] 23)) ((Below.refl _ _).alloc (Nat.le_refl _) _))
  go_upto_region 6 with fail
  generalize w5.heap.size = b6 at B6 ⊢
  generalize w5.alloc (.cells #[.bool dn, .string TD, .int .i64 dx] 23) = w6 at B6 D6 ⊢
  clear D5
  obtain ⟨⟨d0, d1, d2⟩, -, -, -⟩ := D6.out.facts
  have g0 : w6.cell? ⟨b6, 0, none⟩ = some (.bool dn) := B6.out.cell 0
  have g1 : w6.cell? ⟨b6, 1, none⟩ = some (.string TD) := B6.out.cell 1
  have g2 : w6.cell? ⟨b6, 2, none⟩ = some (.int .i64 dx) := B6.out.cell 2
  go_wp2
  go_ret
  exact ⟨by first | rfl | simp, D6.out.2.2⟩
end Go.Proofs.YteaambonlohcgaaDoor
