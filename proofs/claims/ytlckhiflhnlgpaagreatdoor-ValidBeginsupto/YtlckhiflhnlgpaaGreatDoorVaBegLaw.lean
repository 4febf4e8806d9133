/-
  ValidBegins: where a text is no document, its first bytes up to the place that is told can still become one, and those with one more can't.
-/
import Derived.Test.YtlckhiflhnlgpaaGreatDoorVaAwk
import Derived.Test.YtlckhiflhnlgpaaGreatDoorKitA
import Derived.Test.YtlckhiflhnlgpaaGreatDoorRefVaF
namespace Go.Proofs.YtlckhiflhnlgpaaGreatDoor
open Go.RowKit Go.Shelf

theorem shuts_lt {l : List Nat} (h : ∀ x ∈ l, x = 91 ∨ x = 123) : ∀ x ∈ shutsL l, x < 256 := by
  intro x hx
  unfold shutsL at hx
  simp only [List.mem_map, List.mem_reverse] at hx
  obtain ⟨y, hy, rfl⟩ := hx
  have := h y hy
  omega
theorem text_lt {m : Mc} (hlo : m.lo < 256) : ∀ x ∈ textE m, x < 256 := by
  intro x hx
  unfold textE at hx
  simp only [List.mem_append] at hx
  rcases hx with (hx | hx) | hx
  · split at hx <;> simp at hx; omega
  · split at hx
    · rw [List.mem_replicate] at hx; omega
    · split at hx
      · simp at hx
      · simp only [List.mem_cons, List.mem_replicate] at hx
        omega
  · split at hx
    · simp at hx; omega
    · simp at hx; omega
theorem fin_lt {m : Mc} (f : Fit m) (g : Fit2 m) (hlo : m.lo < 256) : ∀ x ∈ finM m, x < 256 := by
  have h1 := shuts_lt g.op
  have h2 : ∀ x ∈ shutsL m.op.dropLast, x < 256 := shuts_lt fun x hx => g.op x (List.dropLast_subset _ hx)
  have h3 := text_lt hlo
  intro x hx
  unfold finM at hx
  repeat' split at hx
  all_goals first
    | exact h1 x hx
    | (rw [List.mem_append] at hx
       rcases hx with hx | hx
       · first
           | (simp at hx; omega)
           | (have := f.wd x hx; omega)
           | exact h3 x hx
       · first
           | exact h1 x hx
           | exact h2 x hx)
theorem text_len {m : Mc} (hlf : m.lf ≤ 4) : (textE m).length ≤ 9 := by
  unfold textE
  simp only [List.length_append]
  have h1 : (if m.st = 7 then [110] else []).length ≤ 1 := by split <;> simp
  have h2 : (if m.st = 8 then List.replicate m.lf 48 else if m.lf = 0 then [] else m.lo :: List.replicate (m.lf - 1) 128).length ≤ 4 := by
    split
    · simp; exact hlf
    · split
      · simp
      · simp; omega
  have h3 : (if m.nm = true then [34, 58, 48] else [34]).length ≤ 3 := by split <;> simp
  omega
theorem fin_len {m : Mc} (hlf : m.lf ≤ 4) (hwd : m.wd.length ≤ 4) : (finM m).length ≤ m.op.length + 9 := by
  have h1 := shuts_len m.op
  have h2 := shuts_len m.op.dropLast
  have h3 := text_len hlf
  rw [List.length_dropLast] at h2
  unfold finM
  repeat' split
  all_goals first
    | omega
    | (rw [List.length_append]; simp only [List.length_cons, List.length_nil]; omega)
    | (rw [List.length_append]; omega)
/-- What is known where a text is none. -/
theorem begin_facts {s : ByteArray} {A : Nat} {E : Int} (h : IsChk s 1024 2 A E) : E = 0 ∧ A ≤ s.size ∧
    (mkS (finM (runM mc0 (byts (s.extract 0 A))).2)).size ≤ A + 9 ∧ docM (byts (s.extract 0 A ++ mkS (finM (runM mc0 (byts (s.extract 0 A))).2))) ∧
    (A < s.size → ∀ t : ByteArray, IsChk (s.extract 0 (A + 1) ++ t) 1 2 A 0) := by
  rcases h with ⟨-, h, -⟩ | ⟨-, hE, k, m, hr, h⟩
  · omega
  · have hA : A = k := by
      rcases h with ⟨-, -, h⟩ | ⟨-, -, ⟨i, -, -, -, h, -⟩ | ⟨-, h, -⟩⟩
      · exact h
      · omega
      · omega
    subst hA
    have hA1 : (runM mc0 (byts s)).1 = A := by rw [hr]
    have hm : (runM mc0 (byts s)).2 = m := by rw [hr]
    have hle : A ≤ s.size := by rw [← hA1, ← byts_length]; exact (run_take mc0 (byts s)).2.2
    have hb : byts (s.extract 0 A) = (byts s).take A := by rw [byts_extract]; simp
    have htk : takeM mc0 ((byts s).take A) = some m := by rw [← hA1, ← hm]; exact run_parts mc0 (byts s)
    have hr2 : (runM mc0 (byts (s.extract 0 A))).2 = m := by rw [hb, run_all _ _ _ htk]
    have hok := (run_ok (byts s)).1
    rw [hm] at hok
    have hfl := fin_lt (take_fit fit0 htk) (take_fit2 fit20 fit0 htk) (by rw [← hm]; exact run_lo (byts s))
    have hop : m.op.length ≤ A := by
      have h1 := take_ok _ 0 mc0 m runOk0 htk
      have h2 := h1.op
      rw [List.length_take, byts_length] at h2
      omega
    refine ⟨hE, hle, ?_, ?_, fun hlt t => ?_⟩
    · rw [hr2, mkS_size]
      have := fin_len hok.lf (by rw [← hm]; exact run_wd (byts s))
      omega
    · rw [byts_append, hr2, byts_mkS hfl, hb]
      have := begins_doc (byts s)
      rw [hA1, hm] at this
      exact this
    · have hb2 : byts (s.extract 0 (A + 1) ++ t) = (byts s).take (A + 1) ++ byts t := by rw [byts_append, byts_extract]; simp
      have hst := run_stop mc0 (byts s) (byts t) (by rw [hA1, byts_length]; exact hlt)
      rw [hA1, ← hb2] at hst
      refine .inr ⟨⟨by decide, by decide⟩, rfl, A, _, Prod.ext hst rfl, .inl ⟨.inl ?_, rfl, rfl⟩⟩
      rw [← byts_length, hb2, List.length_append, List.length_take, byts_length]
      omega
set_option maxRecDepth 10000 in
set_option maxHeartbeats 4000000 in
theorem validBegins_walk (a0 : ByteArray) (h0 : a0.size ≤ 1048576) (a1 : ByteArray) (h1 : a1.size ≤ 1048576) (w : World) (h16 : Ok16 w) :
    Calls Tryz.prog 7 #[.string a0, .string a1] w fun e w' => e = .returned (.bool true) ∧ Below w.heap.size w w' := by
  have hEq := eqVer
  have h16' := hid h16
  obtain ⟨C, A, E, hC⟩ := chk_ex a0 1024
  have hC' := hid hC
  obtain ⟨rfl, hcs⟩ := chk_codes hC
  clear h16 hC
  go_enter Tryz.func7, Tryz.ntmps7
  go_wp2_with fail
  refine Calls.mono (awake16_calls _ h16'.out) ?_
  rintro e w1 ⟨rfl, hb1⟩
  have B1 := hid hb1
  clear hb1
  go_wp2_with fail
  refine Calls.mono (ck_calls a0 (by omega) 1024 (by decide) _ (h16'.out.below B1.out)) ?_
  rintro e w2 ⟨C', A', E', rfl, hI, hb2⟩
  obtain ⟨rfl, rfl, rfl⟩ := hI.uniq hC'.out
  rcases hcs with h | ⟨h, hA⟩ | ⟨h, hA⟩
  · subst h
    have k1 := At.new w2 #[.int .i64 2, .int .i64 (A' : Int)] 23
    have c0 := k1.cell 0
    have c1 := k1.cell 1
    simp only [List.getElem?_toArray, List.getElem?_cons_zero, List.getElem?_cons_succ] at c0 c1
    have K1 := hid k1
    have B2 := hid ((B1.out.trans (hb2.mono B1.out.size)).alloc (Nat.le_trans B1.out.size hb2.size) (.cells #[.int .i64 2, .int .i64 (A' : Int)] 23))
    obtain ⟨p, hp⟩ : ∃ x, w2.heap.size = x := ⟨_, rfl⟩
    obtain ⟨W2, hW2⟩ : ∃ x, w2.alloc (.cells #[.int .i64 2, .int .i64 (A' : Int)] 23) = x := ⟨_, rfl⟩
    rw [hW2] at B2
    rw [hW2, hp] at c0 c1 K1
    clear hI hb2 k1
    obtain ⟨-, hA, hFs, hdoc, hstop⟩ := begin_facts hC'.out
    obtain ⟨F, hF⟩ : ∃ F, Hid (mkS (finM (runM mc0 (byts (a0.extract 0 A'))).2) = F) := ⟨_, rfl⟩
    obtain ⟨q, hq⟩ : ∃ q, a0.extract 0 A' = q := ⟨_, rfl⟩
    have hqs : Hid (q.size = A') := by show _ = _; rw [← hq]; simp [hA]
    have hfin := hid (fun u : World => fin16_calls q (by have := hqs.out; omega) u)
    rw [← hq, hF.out, hq] at hfin
    rw [hF.out] at hFs hdoc
    rw [hq] at hdoc
    obtain ⟨X, hX⟩ : ∃ X, q ++ F = X := ⟨_, rfl⟩
    rw [hX] at hdoc
    have hXs : Hid (X.size ≤ 2097161) := by show _ ≤ _; rw [← hX, ByteArray.size_append]; have := hqs.out; omega
    have hadd : ∀ u : World, (Op.stringOp .add q F).run Tryz.prog u = .ok (.string X) u := fun u => by rw [run_string_add_sum u q F (by have := hqs.out; omega), hX]
    obtain ⟨C2, A2, E2, hC2⟩ := chk_ex X 1024
    have hC2n := doc_code hC2 hdoc
    have hC2i : ((C2 : Int) == 2) = false := by simp; omega
    have hcod := hid (fun (u : World) (g : Ok16 u) => code16_calls X (by have := hXs.out; omega) C2 A2 E2 (hid hC2) u g)
    have hAi : (A' : Int) ≤ (a0.size : Int) := by omega
    have hs0 : (a0.size : Int) ≤ 1048576 := by omega
    have hstop' := hid hstop
    clear hstop hdoc hFs hC2 hC2n hX
    go_wp2_with fail
    clear hW2 hp
    refine wp_region_quiet (C := (fun w' => w'.cell? ⟨p, 1, none⟩ = some (.int .i64 (A' : Int)) ∧ Below W2.heap.size W2 w')) (by kernel_rfl) (by kernel_rfl) (⟨c1, (Below.refl _ _).drew⟩) ?_
    dsimp only
    repeat (first
      | (refine wpQuiet_skip (by rfl) ?_; simp only [Act.put, List.setIfInBounds_toArray, List.set_cons_zero, List.set_cons_succ])
      | (refine' wpQuiet_take (by rfl) ?_ ?_
         rotate_left
         · (intro wq hq; (try dsimp only at hq); go_simp
            first
              | done
              | with_reducible rfl
              | (go_at_call 20; have hzz := hfin.out wq; with_reducible refine hzz.mono ?_; clear hzz; rintro e wz ⟨rfl, hb⟩; exact ⟨rfl, cellK16 hq.1 hb, Below.trans hq.2 (Below.mono hb hq.2.size)⟩)
              | (go_at_call 19; have hzz := hcod.out wq (h16'.out.below (B2.out.trans (hq.2.mono B2.out.size))); with_reducible refine hzz.mono ?_; clear hzz; rintro e wz ⟨rfl, hb⟩; exact ⟨rfl, cellK16 hq.1 hb, Below.trans hq.2 (Below.mono hb hq.2.size)⟩)
           )
         simp only [Act.put, List.setIfInBounds_toArray, List.set_cons_zero, List.set_cons_succ]))
    refine wpQuiet_nil ?_
    intro w3 hw3
    have k3 := K1.out.keptAll hw3.2
    have K3 := hid k3
    have B3 := hid (B2.out.trans (hw3.2.mono B2.out.size))
    have d1 := k3.cell 1
    simp only [List.getElem?_toArray, List.getElem?_cons_zero, List.getElem?_cons_succ] at d1
    clear hw3 k3 K1 c0 c1 hfin hcod hadd
    by_cases hlt : A' = a0.size
    · have hAe : ((A' : Int) == (a0.size : Int)) = true := by simp; omega
      clear hq hlt
      go_wp2
      go_ret
      exact ⟨rfl, B3.out⟩
    · have hAe : ((A' : Int) == (a0.size : Int)) = false := by simp; omega
      have hAl : A' < a0.size := by omega
      have hAj : (A' : Int) + 1 ≤ (a0.size : Int) := by omega
      obtain ⟨r, hr⟩ : ∃ r, a0.extract 0 (A' + 1) = r := ⟨_, rfl⟩
      have hrs : Hid (r.size = A' + 1) := by show _ = _; rw [← hr]; simp; omega
      obtain ⟨Y, hY⟩ : ∃ Y, r ++ a1 = Y := ⟨_, rfl⟩
      have hYs : Hid (Y.size ≤ 2097153) := by show _ ≤ _; rw [← hY, ByteArray.size_append]; have := hrs.out; omega
      have hadd : ∀ u : World, (Op.stringOp .add r a1).run Tryz.prog u = .ok (.string Y) u := fun u => by rw [run_string_add_sum u r a1 (by have := hrs.out; omega), hY]
      have hchk : Hid (IsChk Y 1 2 A' 0) := by
        have := hstop'.out hAl a1
        rw [hr, hY] at this
        exact this
      have htn : ((A' : Int) + 1).toNat = A' + 1 := by omega
      clear hq hlt hY
      go_wp2_with fail
      refine Calls.mono (ck_calls Y (by have := hYs.out; omega) 1 (by decide) _ (h16'.out.below B3.out)) ?_
      rintro e w4 ⟨C', A2', E', rfl, hI, hb4⟩
      obtain ⟨rfl, rfl, rfl⟩ := hI.uniq hchk.out
      have k5 := (K3.out.keptAll hb4).alloc (.cells #[.int .i64 2, .int .i64 (A2' : Int)] 23)
      have k6 := At.new w4 #[.int .i64 2, .int .i64 (A2' : Int)] 23
      have e0 := k5.cell 0
      have e1 := k5.cell 1
      have f0 := k6.cell 0
      have f1 := k6.cell 1
      simp only [List.getElem?_toArray, List.getElem?_cons_zero, List.getElem?_cons_succ] at e0 e1 f0 f1
      have B4 := hid ((B3.out.trans (hb4.mono B3.out.size)).alloc (Nat.le_trans B3.out.size hb4.size) (.cells #[.int .i64 2, .int .i64 (A2' : Int)] 23))
      clear hI hb4 K3 k5 k6 d1
      go_wp2
      go_ret
      exact ⟨rfl, B4.out⟩
  · subst h hA
    have k1 := At.new w2 #[.int .i64 1, .int .i64 (a0.size : Int)] 23
    have c0 := k1.cell 0
    have c1 := k1.cell 1
    simp only [List.getElem?_toArray, List.getElem?_cons_zero, List.getElem?_cons_succ] at c0 c1
    have K1 := hid k1
    have B2 := hid ((B1.out.trans (hb2.mono B1.out.size)).alloc (Nat.le_trans B1.out.size hb2.size) (.cells #[.int .i64 1, .int .i64 (a0.size : Int)] 23))
    obtain ⟨p, hp⟩ : ∃ x, w2.heap.size = x := ⟨_, rfl⟩
    obtain ⟨W2, hW2⟩ : ∃ x, w2.alloc (.cells #[.int .i64 1, .int .i64 (a0.size : Int)] 23) = x := ⟨_, rfl⟩
    rw [hW2] at B2
    rw [hW2, hp] at c0 c1 K1
    clear hI hb2 k1
    go_wp2
    go_ret
    exact ⟨rfl, B2.out⟩
  · subst h
    have k1 := At.new w2 #[.int .i64 3, .int .i64 (A' : Int)] 23
    have c0 := k1.cell 0
    have c1 := k1.cell 1
    simp only [List.getElem?_toArray, List.getElem?_cons_zero, List.getElem?_cons_succ] at c0 c1
    have K1 := hid k1
    have B2 := hid ((B1.out.trans (hb2.mono B1.out.size)).alloc (Nat.le_trans B1.out.size hb2.size) (.cells #[.int .i64 3, .int .i64 (A' : Int)] 23))
    obtain ⟨p, hp⟩ : ∃ x, w2.heap.size = x := ⟨_, rfl⟩
    obtain ⟨W2, hW2⟩ : ∃ x, w2.alloc (.cells #[.int .i64 3, .int .i64 (A' : Int)] 23) = x := ⟨_, rfl⟩
    rw [hW2] at B2
    rw [hW2, hp] at c0 c1 K1
    clear hI hb2 k1
    have hAi : (A' : Int) ≤ (a0.size : Int) := by omega
    go_wp2
    go_ret
    exact ⟨rfl, B2.out⟩
end Go.Proofs.YtlckhiflhnlgpaaGreatDoor
