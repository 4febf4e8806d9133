/-
  The law DecimalSplits, walked.
-/
import Derived.Test.YteaambonlohcgaaDoorSplMath
import Derived.Test.YteaambonlohcgaaDoorDecAwake
namespace Go.Proofs.YteaambonlohcgaaDoor
open Go.RowKit Go.Shelf

theorem OwnD.fresh {w w1 : World} (hb : Below w.heap.size w w1) (n : Bool) (t : ByteArray) (x : Int) : OwnD w w1.heap.size n t x (w1.alloc (.cells #[.bool n, .string t, .int .i64 x] 23)) := ⟨hb.size, At.new w1 _ _, hb.alloc hb.size _⟩
theorem OwnD.more {w0 : World} {b : Nat} {n : Bool} {t : ByteArray} {x : Int} {w : World} (h : OwnD w0 b n t x w) (o : Obj) : OwnD w0 b n t x (w.alloc o) := h.kept ((Below.refl _ _).alloc (Nat.le_refl _) _)
set_option maxRecDepth 20000 in
set_option maxHeartbeats 8000000 in
theorem decimalSplits_walk (s : ByteArray) (hz : s.size ≤ reachBytes) (a : ByteArray) (hza : a.size ≤ reachBytes) (w : World) :
    Calls Tryd.prog 7 #[.string s, .string a] w fun e w' => e = .returned (.bool true) ∧ Below w.heap.size w w' := by
  have hr := reachBytes_lt
  have hsum : ¬ a.size + s.size > 9223372036854775807 := by omega
  have c1 := hid (fun w1 => read_calls s 0 (by omega) (Nat.zero_le _) w1)
  have c2 := hid (fun w1 => read_calls (a ++ s) a.size (by rw [ByteArray.size_append]; omega) (by rw [ByteArray.size_append]; omega) w1)
  have c3 := hid (fun w1 => of_calls s (by omega) w1)
  have hen := read_end (s := s) (p := 0) (Nat.zero_le _)
  have c4 := hid (fun w1 => of_calls (s.extract 0 (readS s 0).2.1) (by rw [ByteArray.size_extract]; omega) w1)
  have hpre := hid (fun h => of_pre (s := s) h)
  have hin := hid (er_in s 0)
  have hfr := hid (fun h => read_formed (s := s) (p := 0) (Nat.zero_le _) h)
  have hds : (readS s 0).2.2 = 0 → ((readS s 0).1.ds).length ≤ 4611686018427387904 := by
    intro _
    have hd : ∀ n : Num, worthS n = some (readS s 0).1 → (readS s 0).1.ds.length ≤ n.wh.size + n.be.size := by
      intro n hn
      unfold worthS at hn
      split at hn
      · injection hn with hn; rw [← hn]; exact Nat.zero_le _
      · split at hn
        · injection hn with hn
          rw [← hn]
          refine Nat.le_trans (trimR_length _ _) (Nat.le_trans (trimL_length _ _) ?_)
          rw [List.length_append, size_list, size_list]
          exact Nat.le_refl _
        · cases hn
    obtain ⟨r, hrr⟩ : ∃ r, scanS s 0 = r := ⟨_, rfl⟩
    obtain ⟨on, en⟩ := r
    cases on with
    | none =>
      have : readS s 0 = (zeroD, en, 110) := by rw [readS, hrr]
      rw [this]; exact Nat.zero_le _
    | some n =>
      obtain ⟨q1, -, -⟩ := num_of hrr (Nat.zero_le _)
      have e1 : readS s 0 = match worthS n with | none => (zeroD, en, 111) | some d => (d, en, 0) := by rw [readS, hrr]; rfl
      cases hw : worthS n with
      | none => rw [hw] at e1; rw [e1]; exact Nat.zero_le _
      | some d =>
        rw [hw] at e1
        have := hd n (by rw [e1]; exact hw)
        omega
  have hds' := hid hds
  have c2' : ∀ w1, Calls Tryd.prog 8 #[.string (a ++ s), .int .i64 (a.size : Int)] w1 fun e w' => e = .returned (.tuple #[decV (readS s 0).1, .int .i64 ((a.size + (readS s 0).2.1 : Nat) : Int), .int .i64 ((readS s 0).2.2 : Int)]) ∧ Below w1.heap.size w1 w' := fun w1 => by
    have h1 := c2.out w1
    unfold readV at h1
    rw [read_shift a s] at h1
    exact h1
  replace c2 := hid c2'
  clear c2'
  have hos := hid (And.intro (fun h => ofS_same s h) (fun h => ofS_zero s h))
  unfold readV at c1
  unfold ofV at c3 c4
  obtain ⟨r, hr0⟩ : ∃ r, readS s 0 = r := ⟨_, rfl⟩
  obtain ⟨⟨dn, dd, dx⟩, en, er⟩ := r
  rw [hr0] at c1 c2 c4 hpre hin hfr hen hos hds'
  dsimp only [decV] at c1 c2 hen hds'
  have hpre2 : er ≠ 110 → 1 ≤ en ∧ ofS (s.extract 0 en) = (⟨dn, dd, dx⟩, er) := fun h => hpre.out h
  have hin2 : (er = 110 ∧ (⟨dn, dd, dx⟩ : Dec) = zeroD) ∨ (er = 111 ∧ (⟨dn, dd, dx⟩ : Dec) = zeroD) ∨ er = 0 := hin.out
  have hfr2 : er = 0 → frmS ⟨dd.toArray⟩ dx = true := fun h => hfr.out h
  have hos2 : (en = s.size → ofS s = (⟨dn, dd, dx⟩, er)) ∧ (en ≠ s.size → ofS s = (zeroD, 110)) := hos.out
  have c4' : ∀ w1, Calls Tryd.prog 10 #[.string (s.extract 0 en)] w1 fun e w' => e = .returned (.tuple #[decV (ofS (s.extract 0 en)).1, .int .i64 ((ofS (s.extract 0 en)).2 : Int)]) ∧ Below w1.heap.size w1 w' := fun w1 => c4.out w1
  have k4 := hid c4'
  have kpre := hid hpre2
  have kfr := hid hfr2
  have kos := hid hos2
  clear c4 c4' hpre hpre2 hin hfr hfr2 hos hos2 hr0 hds
  obtain ⟨TD, hTD⟩ : ∃ TD : ByteArray, (⟨dd.toArray⟩ : ByteArray) = TD := ⟨_, rfl⟩
  have hTDs := hid (show er = 0 → TD.size ≤ 4611686018427387904 from fun h => by rw [← hTD, Lib.size_mk]; exact hds'.out h)
  rw [hTD] at c1 c2 kfr
  have hTD' := hid hTD
  have hz' := hid hz
  have hza' := hid hza
  have hena : a.size + en ≤ 9223372036854775807 := by omega
  have he1 := eqDec dn TD dx
  have he0 := eqDec false ⟨#[]⟩ 0
  have ca := hid awake_calls
  clear hTD hds' hz hza
  go_enter Tryd.func7, Tryd.ntmps7
  go_wp2_with fail
  refine Calls.mono (ca.out _) ?_
  rintro e w0 ⟨rfl, hb⟩
  have B0 := hid hb
  clear ca hb
  go_wp2_with fail
  refine Calls.mono (c1.out _) ?_
  rintro e w1 ⟨rfl, hb⟩
  have B1 := hid (B0.out.trans (hb.mono B0.out.size))
  have D1 := hid (OwnD.fresh B1.out dn TD dx)
  clear c1 hb B0
  go_wp2_with fail
  refine Calls.mono (c2.out _) ?_
  rintro e w2 ⟨rfl, hb⟩
  have D2 := hid (D1.out.kept hb)
  have B2 := hid D2.out.2.2
  generalize w1.heap.size = b1 at D2 ⊢
  have E2 := hid (OwnD.fresh B2.out dn TD dx)
  replace D2 := hid (D2.out.more (.cells #[.bool dn, .string TD, .int .i64 dx] 23))
  clear c2 hb D1 B1
  go_upto_region 5 with fail
  generalize w2.heap.size = b2 at E2 ⊢
  generalize w2.alloc (.cells #[.bool dn, .string TD, .int .i64 dx] 23) = w3 at D2 E2 ⊢
  clear B2
  obtain ⟨⟨p0, p1, p2⟩, -, -, -⟩ := D2.out.facts
  obtain ⟨⟨q0, q1, q2⟩, -, -, -⟩ := E2.out.facts
  -- what Of answers of the whole
  obtain ⟨on, OT, ox, oe, hof, hof1, hof2⟩ : ∃ (on : Bool) (OT : ByteArray) (ox : Int) (oe : Nat), (.tuple #[decV (ofS s).1, .int .i64 ((ofS s).2 : Int)] : Value) = .tuple #[.agg #[.bool on, .string OT, .int .i64 ox], .int .i64 (oe : Int)] ∧ (en = s.size → on = dn ∧ OT = TD ∧ ox = dx ∧ oe = er) ∧ (en ≠ s.size → on = false ∧ OT = ⟨#[]⟩ ∧ ox = 0 ∧ oe = 110) := by
    by_cases h : en = s.size
    · have := kos.out.1 h
      rw [this]
      exact ⟨dn, TD, dx, er, by rw [← hTD'.out]; rfl, fun _ => ⟨rfl, rfl, rfl, rfl⟩, fun h' => absurd h h'⟩
    · have := kos.out.2 h
      rw [this]
      exact ⟨false, ⟨#[]⟩, 0, 110, rfl, fun h' => absurd h' h, fun _ => ⟨rfl, rfl, rfl, rfl⟩⟩
  rw [hof] at c3
  have g1 := hid hof1
  have g2 := hid hof2
  clear hof hof1 hof2 kos
  go_wp2_with fail
  refine Calls.mono (c3.out _) ?_
  rintro e w4 ⟨rfl, hb⟩
  have D4 := hid (D2.out.kept hb)
  have E4 := hid D4.out.2.2
  have O4 := hid (OwnD.fresh E4.out on OT ox)
  replace D4 := hid (D4.out.more (.cells #[.bool on, .string OT, .int .i64 ox] 23))
  clear c3 hb D2 E2 p0 p1 p2 q0 q1 q2
  go_upto_region 8 with fail
  generalize w4.heap.size = b4 at O4 ⊢
  generalize w4.alloc (.cells #[.bool on, .string OT, .int .i64 ox] 23) = w5 at D4 O4 ⊢
  clear E4
  obtain ⟨⟨p0, p1, p2⟩, -, -, -⟩ := D4.out.facts
  obtain ⟨⟨q0, q1, q2⟩, -, -, -⟩ := O4.out.facts
  rcases hin2 with ⟨rfl, hze⟩ | hrest
  · injection hze with z1 z2 z3
    subst z1 z2 z3
    obtain rfl : (⟨#[]⟩ : ByteArray) = TD := hTD'.out
    have ho : on = false ∧ OT = ⟨#[]⟩ ∧ ox = 0 ∧ oe = 110 := by
      by_cases h : en = s.size
      · exact g1.out h
      · exact g2.out h
    obtain ⟨rfl, rfl, rfl, rfl⟩ := ho
    clear g1 g2 kpre kfr k4 hTDs hTD'
    go_wp2
    go_ret
    exact ⟨by first | rfl | simp, O4.out.2.2⟩
  · have hne : er ≠ 110 := by rcases hrest with ⟨h, -⟩ | h <;> omega
    obtain ⟨hen1, hof4⟩ := kpre.out hne
    rw [hof4] at k4
    dsimp only [decV] at k4
    rw [hTD'.out] at k4
    have n110 : ((er : Int) == 110) = false := beq_eq_false_iff_ne.2 (by omega)
    have hen2 : decide ((en : Int) < 1) = false := by simp; omega
    have hen3 : decide ((s.size : Int) < (en : Int)) = false := by simp; omega
    have hrest' := hid hrest
    clear hof4 kpre hrest hne
    have third : Hid ((er = 111 ∧ dn = false ∧ TD = ⟨#[]⟩ ∧ dx = 0) ∨ er = 0) := by
      rcases hrest'.out with ⟨h, hze⟩ | h
      · injection hze with z1 z2 z3
        exact .inl ⟨h, z1, by rw [← hTD'.out, z2], z3⟩
      · exact .inr h
    clear hrest' hTD'
    rcases third.out with ⟨rfl, rfl, rfl, rfl⟩ | rfl
    · clear third kfr hTDs
      go_wp2_with fail
      refine Calls.mono (k4.out _) ?_
      rintro e w6 ⟨rfl, hb⟩
      have D6 := hid (D4.out.kept hb)
      have O6 := hid (O4.out.kept hb)
      have P6 := hid (OwnD.fresh D6.out.2.2 false ⟨#[]⟩ 0)
      replace D6 := hid (D6.out.more (.cells #[.bool false, .string ⟨#[]⟩, .int .i64 0] 23))
      replace O6 := hid (O6.out.more (.cells #[.bool false, .string ⟨#[]⟩, .int .i64 0] 23))
      clear k4 hb D4 O4 p0 p1 p2 q0 q1 q2
      go_upto_region 13 with fail
      generalize w6.heap.size = b6 at P6 ⊢
      generalize w6.alloc (.cells #[.bool false, .string ⟨#[]⟩, .int .i64 0] 23) = w7 at D6 O6 P6 ⊢
      obtain ⟨⟨p0, p1, p2⟩, -, -, -⟩ := D6.out.facts
      obtain ⟨⟨q0, q1, q2⟩, -, -, -⟩ := O6.out.facts
      obtain ⟨⟨r0, r1, r2⟩, -, -, -⟩ := P6.out.facts
      by_cases h : en = s.size
      · obtain ⟨rfl, rfl, rfl, rfl⟩ := g1.out h
        have e9 : ((en : Int) == (s.size : Int)) = true := by simp [h]
        clear g1 g2 h
        go_wp2
        go_ret
        exact ⟨by first | rfl | simp, O6.out.2.2⟩
      · obtain ⟨rfl, rfl, rfl, rfl⟩ := g2.out h
        have e9 : ((en : Int) == (s.size : Int)) = false := beq_eq_false_iff_ne.2 (by omega)
        clear g1 g2 h
        go_wp2
        go_ret
        exact ⟨by first | rfl | simp, O6.out.2.2⟩
    · have kf := hid (fun w1 => formed_calls dn TD dx (hTDs.out rfl) true (kfr.out rfl) w1)
      clear third kfr hTDs
      go_wp2_with fail
      refine Calls.mono (k4.out _) ?_
      rintro e w6 ⟨rfl, hb⟩
      have D6 := hid (D4.out.kept hb)
      have O6 := hid (O4.out.kept hb)
      have P6 := hid (OwnD.fresh D6.out.2.2 dn TD dx)
      replace D6 := hid (D6.out.more (.cells #[.bool dn, .string TD, .int .i64 dx] 23))
      replace O6 := hid (O6.out.more (.cells #[.bool dn, .string TD, .int .i64 dx] 23))
      clear k4 hb D4 O4 p0 p1 p2 q0 q1 q2
      go_upto_region 13 with fail
      generalize w6.heap.size = b6 at P6 ⊢
      generalize w6.alloc (.cells #[.bool dn, .string TD, .int .i64 dx] 23) = w7 at D6 O6 P6 ⊢
      obtain ⟨⟨p0, p1, p2⟩, -, -, -⟩ := D6.out.facts
      obtain ⟨⟨r0, r1, r2⟩, -, -, -⟩ := P6.out.facts
      go_wp2_with fail
      refine Calls.mono (kf.out _) ?_
      rintro e w8 ⟨rfl, hb⟩
      have D8 := hid (D6.out.kept hb)
      have O8 := hid (O6.out.kept hb)
      clear kf hb D6 O6 P6 p0 p1 p2 r0 r1 r2
      obtain ⟨⟨p0, p1, p2⟩, -, -, -⟩ := D8.out.facts
      obtain ⟨⟨q0, q1, q2⟩, -, -, -⟩ := O8.out.facts
      by_cases h : en = s.size
      · obtain ⟨rfl, rfl, rfl, rfl⟩ := g1.out h
        have e9 : ((en : Int) == (s.size : Int)) = true := by simp [h]
        clear g1 g2 h
        go_wp2
        go_ret
        exact ⟨by first | rfl | simp, O8.out.2.2⟩
      · obtain ⟨rfl, rfl, rfl, rfl⟩ := g2.out h
        have e9 : ((en : Int) == (s.size : Int)) = false := beq_eq_false_iff_ne.2 (by omega)
        clear g1 g2 h
        go_wp2
        go_ret
        exact ⟨by first | rfl | simp, O8.out.2.2⟩
end Go.Proofs.YteaambonlohcgaaDoor
