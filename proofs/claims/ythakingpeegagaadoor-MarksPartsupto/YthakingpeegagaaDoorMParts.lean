/-
  The walk of quarrylaw08.MarksParts.
-/
import Derived.Test.YthakingpeegagaaDoorMPartA
namespace Go.Proofs.YthakingpeegagaaDoor
open Go.RowKit Go.Shelf

attribute [local go_sem] Oper.semAt_some

set_option maxRecDepth 100000 in
set_option maxHeartbeats 8000000 in
theorem mparts_in (s : ByteArray) (hs : s.size ≤ 1048576) (w : World) (hT : Tab w) (hM : TabM w) (hw0 : 1 < w.heap.size) :
    CallsIn Fence.wide 4 Tryd.prog 3 #[.string s] w fun e w' => e = .returned (.bool true) ∧ Below w.heap.size w w' := by
  have hnf : ∀ (f : Fn) (a b : Array Value) (w : World), Sem.run Tryd.prog (binOp BinOp.eql 31 (.func f a b) .nilFunc) w = .ok (.bool false) w := fun _ _ _ _ => by rfl
  have hTb := hid (fun (W : World) (hb : Below w.heap.size w W) => hT.below hb (by omega))
  have hMb := hid (fun (W : World) (hb : Below w.heap.size w W) => hM.below hb hw0)
  have hz := hid (fun (W : World) (hb : Below w.heap.size w W) => (show 1 < W.heap.size by have := hb.size; omega))
  have haw := hid (fun (W : World) (hb : Below w.heap.size w W) => awake8_calls W (hT.below hb (by omega)) (hM.below hb hw0) (by have := hb.size; omega))
  clear hT hM
  refine callsIn_of_wp_marks Tryd.func3 rfl trivial ?_ rfl
  simp only [Tryd.ntmps3, List.size_toArray, List.length_cons, List.length_nil, Nat.reduceAdd, Nat.reduceSub, Array.replicate_succ, Array.replicate_zero, List.push_toArray, List.append_toArray, List.nil_append, List.cons_append]
  refine wpIn_wide.2 ?_
  go_wp2_with fail
  have hA0 : At ((w.alloc (.cells #[.string s] 9)).alloc (.cells #[.bool false] 4)) w.heap.size #[.string s] 9 := (At.new w _ _).alloc _
  have hA1 : At ((w.alloc (.cells #[.string s] 9)).alloc (.cells #[.bool false] 4)) (w.heap.size + 1) #[.bool false] 4 := by
    have := At.new (w.alloc (.cells #[.string s] 9)) #[.bool false] 4
    simpa using this
  have hB0 : Below w.heap.size w ((w.alloc (.cells #[.string s] 9)).alloc (.cells #[.bool false] 4)) := by repeat (first | with_reducible exact Below.refl _ _ | with_reducible refine Below.setCell ?_ (by first | (simp; done) | (simp; omega)) _ | with_reducible refine below_drewN ?_ _ | with_reducible refine Below.alloc ?_ (by first | (simp; done) | (simp; omega)) _ | with_reducible refine Below.drew ?_)
  have hz0 : ((w.alloc (.cells #[.string s] 9)).alloc (.cells #[.bool false] 4)).heap.size = w.heap.size + 2 := by simp
  refine Calls.mono (haw.out _ hB0) ?_
  rintro e w1 ⟨rfl, hb1⟩
  have hS1 := hid (show MpS w s w1 from ⟨hA0.keptAll hb1, hA1.keptAll hb1, hB0.trans (hb1.mono hB0.size), by have := hb1.size; omega⟩)
  clear hA0 hA1 hB0 hz0 hb1 haw
  go_wp2_with fail
  go_cut [3, 4, 5] from 20 to 25 (fun p3 p4 p5 wx => ∃ b3 b4 b5 g3 g4 g5, p3 = .pointer (some ⟨b3, 0, none⟩) ∧ p4 = .pointer (some ⟨b4, 0, none⟩) ∧ p5 = .pointer (some ⟨b5, 0, none⟩) ∧ MpB w s b3 b4 b5 g3 g4 g5 wx)
  case first => as_aux_lemma =>
    rename_i Jm Km hJm hKm
    have hmk := hid (fun (u : World) (hb : Below w.heap.size w u) => marksQ_calls s (by omega) u (hTb.out u hb) (Nat.lt_trans (by decide) (hz.out u hb)))
    have hin := hid (fun (u : World) (hb : Below w.heap.size w u) => insideQ_calls s (by omega) u (hTb.out u hb) (Nat.lt_trans (by decide) (hz.out u hb)))
    have hbl := hid (fun (u : World) (hb : Below w.heap.size w u) => blanks8_calls s (by omega) u (hTb.out u hb) (hMb.out u hb) (hz.out u hb))
    refine wp_region_held_only (S := fun W' => MpS w s W') (by kernel_rfl) (hS1.out.kept (Below.refl _ _).drew) (fun hHeld => ?_)
    (refine' wpAnyH_take (i := 0) (v := .string s) rfl (by kernel_rfl) (by kernel_rfl) (by kernel_rfl) (fun _ _ _ h => h) (Or.inl ⟨by rfl, ?_⟩) hHeld ?_; (· (intro wq hq; have c0 := hq.1.cell 0; simp only [List.getElem?_toArray, List.getElem?_cons_zero] at c0; go_simp; first | done | with_reducible rfl)); simp only [Act.put, List.getElem_toArray, List.getElem_cons_zero, List.setIfInBounds_toArray, List.set_cons_zero, List.set_cons_succ])
    (refine' wpAnyH_take (i := 2) (v := .string s) rfl (by kernel_rfl) (by kernel_rfl) (by kernel_rfl) (fun _ _ _ h => h) (Or.inl ⟨by rfl, ?_⟩) hHeld ?_; (· (intro wq hq; have c0 := hq.1.cell 0; simp only [List.getElem?_toArray, List.getElem?_cons_zero] at c0; go_simp; first | done | with_reducible rfl)); simp only [Act.put, List.getElem_toArray, List.getElem_cons_zero, List.getElem_cons_succ, List.setIfInBounds_toArray, List.set_cons_zero, List.set_cons_succ])
    (refine' wpAnyH_take (i := 4) (v := .string s) rfl (by kernel_rfl) (by kernel_rfl) (by kernel_rfl) (fun _ _ _ h => h) (Or.inl ⟨by rfl, ?_⟩) hHeld ?_; (· (intro wq hq; have c0 := hq.1.cell 0; simp only [List.getElem?_toArray, List.getElem?_cons_zero] at c0; go_simp; first | done | with_reducible rfl)); simp only [Act.put, List.getElem_toArray, List.getElem_cons_zero, List.getElem_cons_succ, List.setIfInBounds_toArray, List.set_cons_zero, List.set_cons_succ])
    refine three_rel_go (fuel := 3) (w.heap.size + 2) 25 #[.int .i64 0, .slice none 0 0] 21 23 25 3 4 5 (RowR (w.heap.size + 2) s.size (markS s)) (RowR (w.heap.size + 2) s.size (inS s)) (RowR (w.heap.size + 2) s.size (blankS s))
      (fun n b4 b5 b6 => #[true, decide (1 ≤ n), true, decide (2 ≤ n), true, decide (3 ≤ n), b4, b5, b6, false, false, false]) 1 3 5 6 7 8 undef undef undef (by decide) rfl rfl ?ready ?l1 ?l2 ?l3 ?m4 ?m5 ?m6
      (fun _ _ h hb => MpS.kept h hb) (rowR_kept) (rowR_kept) (rowR_kept) (fun _ h => h.2.2.2) hHeld ?c1 ?c2 ?c3 ?a4 ?a5 ?a6 ?tail
    case ready =>
      intro n b4 b5 b6 hn ht
      have : n = 0 ∨ n = 1 ∨ n = 2 ∨ n = 3 := by omega
      rcases this with rfl | rfl | rfl | rfl <;> cases b4 <;> cases b5 <;> cases b6 <;> first | exact absurd rfl ht | (show (_ : List Nat) = _; kernel_rfl)
    case l1 => intro b4 b5 b6; cases b4 <;> cases b5 <;> cases b6 <;> rfl
    case l2 => intro b4 b5 b6; cases b4 <;> cases b5 <;> cases b6 <;> rfl
    case l3 => intro b4 b5 b6; cases b4 <;> cases b5 <;> cases b6 <;> rfl
    case m4 => intro n b5 b6 _; rfl
    case m5 => intro n b4 b6 _; rfl
    case m6 => intro n b4 b5 _; rfl
    case c1 =>
      intro v1 v2 v3 x4 x5 x6 wx hx K' hK'
      refine wpOp_step rfl (fun K2 hK2 => ?_)
      have hK3 := fun r wz hb hr => hK2 _ _ (hK' r wz hb hr)
      clear hK2 hK'
      rw [fput_0]
      simp only [Act.put, List.setIfInBounds_toArray, List.set_cons_zero, List.set_cons_succ] at ⊢
      go_simp
      (go_at_call 7; refine (hmk.out _ hx.2.2.1).mono ?_; rintro e wz ⟨g, hg, rfl, hA, hb⟩; (try dsimp only))
      have := hK3 _ wz hb ⟨g, rfl, Nat.le_trans hx.2.2.2 hg, hA⟩
      rw [fput_1] at this
      simp only [Act.put, List.setIfInBounds_toArray, List.set_cons_zero, List.set_cons_succ] at this
      exact this
    case c2 =>
      intro v1 v2 v3 x4 x5 x6 wx hx K' hK'
      refine wpOp_step rfl (fun K2 hK2 => ?_)
      have hK3 := fun r wz hb hr => hK2 _ _ (hK' r wz hb hr)
      clear hK2 hK'
      rw [fput_1]
      simp only [Act.put, List.setIfInBounds_toArray, List.set_cons_zero, List.set_cons_succ] at ⊢
      go_simp
      (go_at_call 8; refine (hin.out _ hx.2.2.1).mono ?_; rintro e wz ⟨g, hg, rfl, hA, hb⟩; (try dsimp only))
      have := hK3 _ wz hb ⟨g, rfl, Nat.le_trans hx.2.2.2 hg, hA⟩
      rw [fput_2] at this
      simp only [Act.put, List.setIfInBounds_toArray, List.set_cons_zero, List.set_cons_succ] at this
      exact this
    case c3 =>
      intro v1 v2 v3 x4 x5 x6 wx hx K' hK'
      refine wpOp_step rfl (fun K2 hK2 => ?_)
      have hK3 := fun r wz hb hr => hK2 _ _ (hK' r wz hb hr)
      clear hK2 hK'
      rw [fput_2]
      simp only [Act.put, List.setIfInBounds_toArray, List.set_cons_zero, List.set_cons_succ] at ⊢
      go_simp
      (go_at_call 9; refine (hbl.out _ hx.2.2.1).mono ?_; rintro e wz ⟨g, hg, rfl, hA, hb⟩; (try dsimp only))
      have := hK3 _ wz hb ⟨g, rfl, Nat.le_trans hx.2.2.2 hg, hA⟩
      rw [fput_3] at this
      simp only [Act.put, List.setIfInBounds_toArray, List.set_cons_zero, List.set_cons_succ] at this
      exact this
    case a4 =>
      intro b wx K' hK'
      refine wpOp_step rfl (fun K2 hK2 => ?_)
      have hK3 := hK2 _ _ hK'
      clear hK2 hK'
      go_simp
      exact hK3
    case a5 =>
      intro b wx K' hK'
      refine wpOp_step rfl (fun K2 hK2 => ?_)
      have hK3 := hK2 _ _ hK'
      clear hK2 hK'
      go_simp
      exact hK3
    case a6 =>
      intro b wx K' hK'
      refine wpOp_step rfl (fun K2 hK2 => ?_)
      have hK3 := hK2 _ _ hK'
      clear hK2 hK'
      go_simp
      exact hK3
    case tail =>
      rintro w4 v1 v2 v3 d4 d5 d6 hS4 ⟨p1, rfl, l1, r1⟩ ⟨p2, rfl, l2, r2⟩ ⟨p3, rfl, l3, r3⟩ h4 h5 h6 n45 n46 n56 l4 l5 l6
      rw [fput_3]
      simp only [Act.put, List.setIfInBounds_toArray, List.set_cons_zero, List.set_cons_succ]
      obtain ⟨k, hk⟩ : ∃ k, need s.size = k := ⟨_, rfl⟩
      rw [hk] at r1 r2 r3 ⊢
      have t14 := at_apart8 r1 h4 (by decide)
      have t15 := at_apart8 r1 h5 (by decide)
      have t16 := at_apart8 r1 h6 (by decide)
      have t24 := at_apart8 r2 h4 (by decide)
      have t25 := at_apart8 r2 h5 (by decide)
      have t26 := at_apart8 r2 h6 (by decide)
      have t34 := at_apart8 r3 h4 (by decide)
      have t35 := at_apart8 r3 h5 (by decide)
      have t36 := at_apart8 r3 h6 (by decide)
      obtain ⟨q0, q1, f0, f1⟩ := h4.facts
      refine wpAnyH_ready (rs := [9]) (by kernel_rfl) (by simp) ?_
      refine AllReadyH.cons rfl (fun K hK => ?_) ?_
      · go_simp
        have hS5 := (hS4.put l4 0 (.int .i64 (s.size : Int))).put l4 1 (.slice (some ⟨p1, 0, none⟩) k k)
        have x4 := h4.two (x' := .int .i64 (s.size : Int)) (y' := .slice (some ⟨p1, 0, none⟩) k k)
        have x5 := at_two8 h5 (Ne.symm n45) (.int .i64 (s.size : Int)) (.slice (some ⟨p1, 0, none⟩) k k)
        have x6 := at_two8 h6 (Ne.symm n46) (.int .i64 (s.size : Int)) (.slice (some ⟨p1, 0, none⟩) k k)
        have y1 := at_two8 r1 t14 (.int .i64 (s.size : Int)) (.slice (some ⟨p1, 0, none⟩) k k)
        have y2 := at_two8 r2 t24 (.int .i64 (s.size : Int)) (.slice (some ⟨p1, 0, none⟩) k k)
        have y3 := at_two8 r3 t34 (.int .i64 (s.size : Int)) (.slice (some ⟨p1, 0, none⟩) k k)
        refine hK.out _ _ hS5 (fun _ => ?_)
        clear hK K h4 h5 h6 r1 r2 r3 hS4 q0 q1 f0 f1
        generalize (w4.setCell ⟨d4, 0, none⟩ (.int .i64 (s.size : Int))).setCell ⟨d4, 1, none⟩ (.slice (some ⟨p1, 0, none⟩) k k) = w5 at *
        obtain ⟨q0, q1, f0, f1⟩ := x5.facts
        refine wpAnyH_ready (rs := [10]) (by kernel_rfl) (by simp) ?_
        refine AllReadyH.cons rfl (fun K hK => ?_) ?_
        · go_simp
          have hS6 := (hS5.put l5 0 (.int .i64 (s.size : Int))).put l5 1 (.slice (some ⟨p2, 0, none⟩) k k)
          have z4 := at_two8 x4 n45 (.int .i64 (s.size : Int)) (.slice (some ⟨p2, 0, none⟩) k k)
          have z5 := x5.two (x' := .int .i64 (s.size : Int)) (y' := .slice (some ⟨p2, 0, none⟩) k k)
          have z6 := at_two8 x6 (Ne.symm n56) (.int .i64 (s.size : Int)) (.slice (some ⟨p2, 0, none⟩) k k)
          have o1 := at_two8 y1 t15 (.int .i64 (s.size : Int)) (.slice (some ⟨p2, 0, none⟩) k k)
          have o2 := at_two8 y2 t25 (.int .i64 (s.size : Int)) (.slice (some ⟨p2, 0, none⟩) k k)
          have o3 := at_two8 y3 t35 (.int .i64 (s.size : Int)) (.slice (some ⟨p2, 0, none⟩) k k)
          refine hK.out _ _ hS6 (fun _ => ?_)
          clear hK K x4 x5 x6 y1 y2 y3 hS5 q0 q1 f0 f1
          generalize (w5.setCell ⟨d5, 0, none⟩ (.int .i64 (s.size : Int))).setCell ⟨d5, 1, none⟩ (.slice (some ⟨p2, 0, none⟩) k k) = w6 at *
          obtain ⟨q0, q1, f0, f1⟩ := z6.facts
          refine wpAnyH_ready (rs := [11]) (by kernel_rfl) (by simp) ?_
          refine AllReadyH.cons rfl (fun K hK => ?_) ?_
          · go_simp
            have hS7 := (hS6.put l6 0 (.int .i64 (s.size : Int))).put l6 1 (.slice (some ⟨p3, 0, none⟩) k k)
            have i4 := at_two8 z4 n46 (.int .i64 (s.size : Int)) (.slice (some ⟨p3, 0, none⟩) k k)
            have i5 := at_two8 z5 n56 (.int .i64 (s.size : Int)) (.slice (some ⟨p3, 0, none⟩) k k)
            have i6 := z6.two (x' := .int .i64 (s.size : Int)) (y' := .slice (some ⟨p3, 0, none⟩) k k)
            have j1 := at_two8 o1 t16 (.int .i64 (s.size : Int)) (.slice (some ⟨p3, 0, none⟩) k k)
            have j2 := at_two8 o2 t26 (.int .i64 (s.size : Int)) (.slice (some ⟨p3, 0, none⟩) k k)
            have j3 := at_two8 o3 t36 (.int .i64 (s.size : Int)) (.slice (some ⟨p3, 0, none⟩) k k)
            refine hK.out _ _ hS7 (fun _ => ?_)
            clear hK K
            subst hk
            refine wpAnyH_done (by kernel_rfl) ?_ _
            refine hKm _ _ ?_
            refine hJm _ _ ?_
            exact ⟨_, _, _, _, _, _, _, _, _, ⟨_, _, _, _, _, _, rfl, rfl, rfl, mpB_fin hS7 j1 j2 j3 i4 i5 i6 ⟨l4, l5, l6, l1, l2, l3⟩⟩, rfl⟩
          exact AllReadyH.nil
        exact AllReadyH.nil
      exact AllReadyH.nil
  case rest => as_aux_lemma =>
    obtain ⟨b3, b4, b5, g3, g4, g5, rfl, rfl, rfl, hMp⟩ := hcut
    have hMp' := hid hMp
    obtain ⟨m0, m1⟩ := hMp.1.facts
    obtain ⟨m2, m3⟩ := hMp.2.1.facts
    obtain ⟨m4, m5⟩ := hMp.2.2.1.facts
    have s0 := hMp.txt.cell 0
    have s0' := ((hMp.txt.alloc (.cells (boolCells s.size (fun _ => false)) 4)).alloc (.cells #[.slice (some ⟨wc.heap.size, 0, none⟩) s.size s.size] 29)).cell 0
    simp only [List.getElem?_toArray, List.getElem?_cons_zero] at s0 s0'
    have hmk := fun u => make_bools47 s.size (by omega) u
    have hsi : (s.size : Int) ≤ 1048576 := by omega
    clear hS1 hMp
    go_wp2_with fail
    obtain ⟨gc, hgc⟩ : ∃ gc, wc.heap.size = gc := ⟨_, rfl⟩
    obtain ⟨Y, hY⟩ : ∃ Y, (wc.alloc (.cells (boolCells s.size (fun _ => false)) 4)).alloc (.cells #[.slice (some ⟨wc.heap.size, 0, none⟩) s.size s.size] 29) = Y := ⟨_, rfl⟩
    have bY : Below wc.heap.size wc Y := by rw [← hY]; repeat (first | with_reducible exact Below.refl _ _ | with_reducible refine Below.setCell ?_ (by first | (simp; done) | (simp; omega)) _ | with_reducible refine below_drewN ?_ _ | with_reducible refine Below.alloc ?_ (by first | (simp; done) | (simp; omega)) _ | with_reducible refine Below.drew ?_)
    have aY : At Y gc (boolCells s.size (fun _ => false)) 4 := by rw [← hY, ← hgc]; exact (At.new wc _ _).alloc _
    have vY : At Y (gc + 1) #[.slice (some ⟨gc, 0, none⟩) s.size s.size] 29 := by
      rw [← hY, ← hgc]
      have h := At.new (wc.alloc (.cells (boolCells s.size (fun _ => false)) 4)) #[.slice (some ⟨wc.heap.size, 0, none⟩) s.size s.size] 29
      simpa using h
    have mY := hid (hMp'.out.kept bY)
    have lY := hid (show b3 < gc ∧ b4 < gc ∧ b5 < gc ∧ g3 < gc ∧ g4 < gc ∧ g5 < gc ∧ w.heap.size + 1 < gc from hgc ▸ hMp'.out.lts)
    have aY' := hid aY
    have vY' := hid vY
    rw [hY, hgc]
    clear hY bY aY vY hMp' m0 m1 m2 m3 m4 m5 s0 s0' hmk
    refine Calls.mono (words8_calls s (by omega) Y (hTb.out _ mY.out.b) (hMb.out _ mY.out.b) (hz.out _ mY.out.b)) ?_
    rintro e w8 ⟨Bl, g8, cp, cur, rfl, hg8, hP8, hb8⟩
    have a8 := hid (aY'.out.keptAll hb8)
    have v8 := hid (vY'.out.keptAll hb8)
    have m8 := hid (mY.out.kept hb8)
    have hP8' := hid hP8
    have hg8' := hid (show gc + 1 < g8 from Nat.lt_of_lt_of_le vY'.out.lt hg8)
    clear aY' vY' mY hb8 hP8 hg8
    go_wp2_with fail
    have B8 := m8.out.b
    have gl8 := hP8'.out.2.1.lt
    have vl8 := v8.out.lt
    have lY' := lY.out
    have hg8i := hg8'.out
    have z8 := hid B8.size
    have hI0 : MpI w s b3 b4 b5 g3 g4 g5 gc 0 w8 := ⟨m8.out, by rw [boolCells_congr (fun k _ => cov_zero s k)]; exact a8.out, v8.out⟩
    refine (wpIn_wide (n := 4)).1 ?_
    refine range_tellF (n := 4) (by decide) (gf := 32) (lb := #[.pointer (some ⟨Bl, 0, none⟩)]) rfl (enters_of Tryd.func32 (by kernel_rfl) rfl)
      (words_tellF (4 - 1) (by decide) Bl w.heap.size g8 cp s (by omega) cur w8 hP8'.out (hTb.out _ B8) (by omega) B8.size) (Below.refl _ _) (fun _ => rfl) HeldS.trans (fun W l r r' h1 h2 h3 => heldT_put (by have := z8.out; omega) h2 (by omega) h3)
      (MpI w s b3 b4 b5 g3 g4 g5 gc) (fun _ _ _ => False) (mpI_free lY' (by omega)) (fun _ _ _ _ _ h _ _ => h) hI0
      (JnA (gc + 1) s (fun gx A C => { tmps := #[Value.string s, Value.pointer (some ⟨w.heap.size, 0, none⟩), Value.pointer (some ⟨w.heap.size + 1, 0, none⟩), Value.pointer (some ⟨b3, 0, none⟩), Value.pointer (some ⟨b4, 0, none⟩), Value.pointer (some ⟨b5, 0, none⟩), Value.slice none 0 0, Value.slice none 0 0, Value.bool false, Value.pointer (some ⟨gc + 1, 0, none⟩), Value.func (.func 32) #[] #[Value.pointer (some ⟨Bl, 0, none⟩)], .pointer (some ⟨gx, 0, none⟩), undef, undef, undef, undef, undef, undef, Value.bool true, Value.bool false, u20, u21, u22, u23, u24, u25, Value.pointer (some ⟨b3, 0, none⟩), Value.int .i64 (s.size : Int), Value.string s, Value.int .i64 (s.size : Int), Value.bool false, Value.bool false, Value.pointer (some ⟨b4, 0, none⟩), Value.int .i64 (s.size : Int), Value.string s, Value.int .i64 (s.size : Int), Value.bool false, Value.bool false, Value.bool false, Value.pointer (some ⟨b5, 0, none⟩), Value.int .i64 (s.size : Int), Value.string s, Value.int .i64 (s.size : Int), Value.bool false, Value.bool false, Value.string s, Value.int .i64 (s.size : Int), Value.slice (some ⟨gc, 0, none⟩) s.size s.size, Value.string s, Value.func (.func 32) #[] #[Value.pointer (some ⟨Bl, 0, none⟩)], Value.func (.func 32) #[] #[Value.pointer (some ⟨Bl, 0, none⟩)], Value.bool false, Value.func (.func 32) #[] #[Value.pointer (some ⟨Bl, 0, none⟩)], .agg #[.int .i64 (A : Int), .int .i64 (C : Int)], undef, undef, undef, undef, undef, undef, undef, undef, undef, undef, undef, undef, undef, undef, undef, undef, undef, undef, undef, undef, undef, undef, undef, undef, undef, undef, undef, undef, undef, undef, undef, undef, undef, undef, undef, undef, undef, undef, undef, undef, undef, undef, undef, undef, undef, undef, undef, undef, undef, undef, undef, undef, undef, undef, undef, undef, undef, undef, undef, undef, undef, undef, undef, undef, undef, undef, undef, undef, undef, undef, undef, undef, undef, undef, undef, undef, undef, undef, undef, undef, undef, undef, undef, undef, undef, undef, undef, undef, undef, undef, undef, undef, undef, undef, undef, undef, undef, undef, undef, undef, undef, undef, undef, undef, undef, undef, undef, undef, undef, undef, undef, undef, undef, undef, undef, undef, undef, undef, undef, undef, undef, undef, undef, undef, undef, undef, undef, undef, undef, undef, undef, undef, undef, undef, undef, undef, undef, undef, undef, undef, undef, undef, undef, undef, undef, undef, undef, undef, undef, undef, undef, undef, undef, undef, undef, undef, undef, undef, undef, undef, undef, undef, undef, undef, undef, undef, undef, undef, undef, undef, undef, undef, undef], defers := [] }))
      (fun x a' _ X Z row ⟨gx, A, C, h1, h4, h5, h6⟩ hg hr => ⟨gx, A, C, h1, h4, h5.own hg (fun r e => (hr r e).2), h6⟩) ?assign ?body ?done ?stop
    case assign =>
      intro l x W KK hx hI hKK
      obtain ⟨⟨A, C⟩, hAC⟩ : ∃ y, Hid (((trT s).getD (2 * x) 0, (trT s).getD (2 * x + 1) 0) = y) := ⟨_, rfl⟩
      have e1 : (trT s).getD (2 * x) 0 = A := congrArg Prod.fst hAC.out
      have e2 : (trT s).getD (2 * x + 1) 0 = C := congrArg Prod.snd hAC.out
      rw [encW, e1, e2]
      have hb : Below W.heap.size W (W.alloc (.cells #[.int .i64 (A : Int), .int .i64 (C : Int)] 34)) := by repeat (first | with_reducible exact Below.refl _ _ | with_reducible refine Below.setCell ?_ (by first | (simp; done) | (simp; omega)) _ | with_reducible refine below_drewN ?_ _ | with_reducible refine Below.alloc ?_ (by first | (simp; done) | (simp; omega)) _ | with_reducible refine Below.drew ?_)
      have hgt : gc + 1 + 1 ≤ W.heap.size := hI.2.2.lt
      have hK2 := fun a' => hKK a' _ ((keeps_below hb).from _) (HeldT.of_below hb (by omega)) (mpI_kept hI hb)
      clear hKK hI hb e1 e2
      gi_wp2
      exact ⟨W.heap.size, A, C, hAC, hgt, At.new W _ _, rfl⟩
    case body =>
      rintro l r a' W hll ⟨rec, hrec⟩ hlt ⟨hMp, hcv, hvr⟩ ⟨gx, A, C, hAC, hgx, hAt, rfl⟩
      obtain ⟨hAl, hCl, hw, hbeg, hnot, hnext⟩ := trT_word hlt hAC.out
      have hkd : Hid (kindN s ((A : Nat) : Int) = 119) := (kind_w s A).2 ⟨by omega, hbeg, hw A (Nat.le_refl _) hAl⟩
      obtain ⟨Lk, hLk⟩ := looked_calls s hs A
      have hLk' := hid hLk
      have hkc := hid (fun (u : World) (hb : Below w.heap.size w u) => kind8_calls s (by omega) ((A : Nat) : Int) (by simp [Lit.wf, IntKind.min, IntKind.max, IntKind.bits, IntKind.signed]; omega) 119 hkd u (hTb.out _ hb) (hMb.out _ hb) (hz.out _ hb))
      have hJ0 := hid (show MpJ w s b3 b4 b5 g3 g4 g5 gc r A C gx W w8 g8 A W from ⟨hMp, by rw [boolCells_congr (G' := covS s r) (fun k _ => by by_cases h : A ≤ k <;> simp [h]; try omega)]; exact hcv, hvr, hAt, KeepsOthers.refl _, HeldT.refl _ _ _ _⟩)
      have hnot' := hid hnot
      have hnext' := hid hnext
      have n1 : decide ((C : Int) ≤ (A : Int)) = false := by rw [decide_eq_false]; omega
      have n1' : decide (C ≤ A) = false := by simp; omega
      have n2 : decide ((s.size : Int) < (C : Int)) = false := by rw [decide_eq_false]; omega
      have n2' : decide (s.size < C) = false := by simp; omega
      have x0 := hAt.cell 0
      have x1 := hAt.cell 1
      have cs := hMp.txt.cell 0
      simp only [List.getElem?_toArray, List.getElem?_cons_zero, List.getElem?_cons_succ] at x0 x1 cs
      clear hAC hbeg hw hnot hnext hLk hMp hcv hvr hAt hI0 a8 v8 m8 hkd
      gi_wp2_with fail
      refine ⟨trivial, ?_⟩
      refine (CallsIn.inRound l (callsIn_wide.2 (hLk'.out _))).mono ?_
      rintro e wy ⟨rfl, rfl⟩
      cases Lk with
      | false =>
        gi_wp2_with fail
        refine ⟨trivial, ?_⟩
        gi_wp2
        clear x0 x1 cs hLk' hkc
        gi_loopw [12] (fun ii wr => ∃ i : Nat, A ≤ i ∧ i ≤ C ∧ ii = .int .i64 (i : Int) ∧ Hid (MpJ w s b3 b4 b5 g3 g4 g5 gc r A C gx wy w8 g8 i wr)) (fun ii _ => C - (intOf ii).toNat)
        case atStart => exact ⟨A, Nat.le_refl _, Nat.le_of_lt hAl, rfl, hJ0⟩
        case round =>
          obtain ⟨i, hAi, hiC, rfl, hJi⟩ := hrel
          have y1 := hJi.out.2.2.2.1.cell 1
          simp only [List.getElem?_toArray, List.getElem?_cons_zero, List.getElem?_cons_succ] at y1
          by_cases hic : i < C
          · have hici : (i : Int) < (C : Int) := by omega
            have hisz : (i : Int) < (s.size : Int) := by omega
            have hisn : i < s.size := by omega
            have k0 := hJi.out.2.1.cell i
            rw [boolCells_get _ hisn, hnot'.out i hAi hic, decide_eq_false (Nat.lt_irrefl i), Bool.and_false, Bool.or_false] at k0
            have f0 := hJi.out.2.1.frozen i
            have v0 := hJi.out.2.2.1.cell 0
            simp only [List.getElem?_toArray, List.getElem?_cons_zero] at v0
            have hJn := hid (mpJ_next hJi.out lY.out (by omega) (by omega) (by omega) hAi)
            clear hJi
            gi_wp2
            go_roundw
            case rel => exact ⟨i + 1, by omega, hic, by go_num, hJn⟩
            case measure => simp [intOf]; omega
          · obtain rfl : i = C := by omega
            have hfin := hid (mpJ_end (B := w8.heap.size) hJi.out hnext'.out)
            clear hJi
            gi_wp2
            exact hfin.out
      | true =>
        gi_wp2_with fail
        refine ⟨trivial, ?_⟩
        refine (CallsIn.inRound l (callsIn_wide.2 (hkc.out _ hJ0.out.1.b))).mono ?_
        rintro e wz ⟨rfl, hbz⟩
        have hJz := hid (show MpJ w s b3 b4 b5 g3 g4 g5 gc r A C gx wy w8 g8 A wz from ⟨hJ0.out.1.kept hbz, hJ0.out.2.1.keptAll hbz, hJ0.out.2.2.1.keptAll hbz, hJ0.out.2.2.2.1.keptAll hbz, hJ0.out.2.2.2.2.1.trans (keeps_below hbz), hJ0.out.2.2.2.2.2.trans (HeldT.of_below hbz (by have := hJ0.out.1.b.size; omega))⟩)
        have z0 := hJz.out.2.2.2.1.cell 0
        have z1 := hJz.out.2.2.2.1.cell 1
        simp only [List.getElem?_toArray, List.getElem?_cons_zero, List.getElem?_cons_succ] at z0 z1
        clear x0 x1 cs hLk' hkc hJ0 hbz
        gi_wp2
        clear z0 z1
        gi_loopw [12] (fun ii wr => ∃ i : Nat, A ≤ i ∧ i ≤ C ∧ ii = .int .i64 (i : Int) ∧ Hid (MpJ w s b3 b4 b5 g3 g4 g5 gc r A C gx wy w8 g8 i wr)) (fun ii _ => C - (intOf ii).toNat)
        case atStart => exact ⟨A, Nat.le_refl _, Nat.le_of_lt hAl, rfl, hJz⟩
        case round =>
          obtain ⟨i, hAi, hiC, rfl, hJi⟩ := hrel
          have y1 := hJi.out.2.2.2.1.cell 1
          simp only [List.getElem?_toArray, List.getElem?_cons_zero, List.getElem?_cons_succ] at y1
          by_cases hic : i < C
          · have hici : (i : Int) < (C : Int) := by omega
            have hisz : (i : Int) < (s.size : Int) := by omega
            have hisn : i < s.size := by omega
            have k0 := hJi.out.2.1.cell i
            rw [boolCells_get _ hisn, hnot'.out i hAi hic, decide_eq_false (Nat.lt_irrefl i), Bool.and_false, Bool.or_false] at k0
            have f0 := hJi.out.2.1.frozen i
            have v0 := hJi.out.2.2.1.cell 0
            simp only [List.getElem?_toArray, List.getElem?_cons_zero] at v0
            have hJn := hid (mpJ_next hJi.out lY.out (by omega) (by omega) (by omega) hAi)
            clear hJi
            gi_wp2
            go_roundw
            case rel => exact ⟨i + 1, by omega, hic, by go_num, hJn⟩
            case measure => simp [intOf]; omega
          · obtain rfl : i = C := by omega
            have hfin := hid (mpJ_end (B := w8.heap.size) hJi.out hnext'.out)
            clear hJi
            gi_wp2
            exact hfin.out
    case done =>
      rintro D W hD ⟨hMp, hcv, hvr⟩ hKD
      rename_i Kz hKz
      have hcw : At W gc (boolCells s.size (wordS s)) 4 := by rw [← boolCells_congr (fun k hk => cov_all hk)]; exact hcv
      have hL0 := hid (show MpL w s b3 b4 b5 g3 g4 g5 gc D W 0 0 (.slice none 0 0) (.slice none 0 0) W from ⟨hMp, hcw, hvr, hKD, Nat.le_refl _, World.ownsRow_nil _ _ _ _, World.ownsRow_nil _ _ _ _⟩)
      have lW := hid hMp.lts
      have lC := hid (show gc + 1 < W.heap.size from hvr.lt)
      clear hMp hcv hvr hKD hcw hI0 a8 v8 m8 hP8'
      refine hKz _ _ ?_
      clear hKz
      go_wp2
      go_loopw [6, 7, 8, 13, 14, 15, 16, 17] (fun v6 v7 p8 p13 _ _ _ _ wr => ∃ i : Nat, i ≤ s.size ∧ p13 = .int .i64 (i : Int) ∧ p8 = .bool (decide (0 < i) && wordS s (i - 1)) ∧ Hid (MpL w s b3 b4 b5 g3 g4 g5 gc D W i i v6 v7 wr)) (fun _ _ _ p13 _ _ _ _ _ => s.size - (intOf p13).toNat)
      case atStart => exact ⟨0, Nat.zero_le _, rfl, rfl, hL0⟩
      case round =>
        obtain ⟨i, hi, rfl, rfl, hL⟩ := hrel
        by_cases hlt : i < s.size
        · have hli : (i : Int) < (s.size : Int) := by omega
          obtain ⟨x, hx⟩ : ∃ x, s[i].toNat = x := ⟨_, rfl⟩
          have hxb : Hid (byteAt s i = x) := by show _ = _; rw [← hx]; exact (byteAt_eq s i hlt).symm
          obtain ⟨M, hMk⟩ : ∃ b, Hid (markS s i = b) := ⟨_, rfl⟩
          obtain ⟨I, hIn⟩ : ∃ b, Hid (inS s i = b) := ⟨_, rfl⟩
          obtain ⟨O, hO⟩ : ∃ b, Hid ((!M && !I) = b) := ⟨_, rfl⟩
          have hoS : Hid (outS s i = O) := by show _ = _; rw [word_was s i hlt M I hMk.out hIn.out, hO.out]
          obtain ⟨Bk, hBk⟩ : ∃ b, Hid ((O && (x == 32 || x == 9 || x == 10 || x == 13)) = b) := ⟨_, rfl⟩
          have hbS : Hid (blankS s i = Bk) := by show _ = _; unfold blankS blkB; rw [hoS.out, hxb.out, hBk.out]
          obtain ⟨Sg, hSg⟩ : ∃ b, Hid (sgnN x = b) := ⟨_, rfl⟩
          obtain ⟨Wd, hWd⟩ : ∃ b, Hid ((O && !Bk && !Sg) = b) := ⟨_, rfl⟩
          have hsgn : sgnB s i = Sg := by unfold sgnB; rw [hxb.out, ← hSg.out]; rfl
          have hwS : Hid (wordS s i = Wd) := by
            show _ = _
            unfold wordS
            rw [hoS.out, hsgn, ← hWd.out, ← hBk.out, show blkB s i = (x == 32 || x == 9 || x == 10 || x == 13) by unfold blkB; rw [hxb.out]]
            cases O <;> cases Sg <;> cases (x == 32 || x == 9 || x == 10 || x == 13) <;> rfl
          obtain ⟨Was, hWas⟩ : ∃ b, Hid ((decide (0 < i) && wordS s (i - 1)) = b) := ⟨_, rfl⟩
          obtain ⟨Bg, hBg⟩ : ∃ b, Hid ((O && Sg || (M && I || (Wd && !Was))) = b) := ⟨_, rfl⟩
          have hbg : Hid (begS s i = Bg) := by
            show _ = _
            unfold begS strS
            rw [hoS.out, hsgn, hMk.out, hIn.out, hwS.out, hWas.out, ← hBg.out]
          have hg3 := hid (fun (u : World) (h : MpB w s b3 b4 b5 g3 g4 g5 u) => getI (G := markS s) (by omega) (i : Int) (by omega) (by omega) M (by show _ = _; rw [getB_nat hlt, rowOf_bit, decide_eq_true hlt, hMk.out]; rfl) (some ⟨g3, 0, none⟩) (need s.size) u h.1.wds)
          have hg4 := hid (fun (u : World) (h : MpB w s b3 b4 b5 g3 g4 g5 u) => getI (G := inS s) (by omega) (i : Int) (by omega) (by omega) I (by show _ = _; rw [getB_nat hlt, rowOf_bit, decide_eq_true hlt, hIn.out]; rfl) (some ⟨g4, 0, none⟩) (need s.size) u h.2.1.wds)
          have hg5 := hid (fun (u : World) (h : MpB w s b3 b4 b5 g3 g4 g5 u) => getI (G := blankS s) (by omega) (i : Int) (by omega) (by omega) Bk (by show _ = _; rw [getB_nat hlt, rowOf_bit, decide_eq_true hlt, hbS.out]; rfl) (some ⟨g5, 0, none⟩) (need s.size) u h.2.2.1.wds)
          have hsg := hid (fun (u : World) => sign_calls x Sg hSg u)
          rw [hWas.out]
          clear hsgn hoS
          -- outside
          have s0 := hL.out.1.txt.cell 0
          simp only [List.getElem?_toArray, List.getElem?_cons_zero] at s0
          go_upto_region 26 with fail
          go_cut [14] from 99 to 215 (fun p wx => p = .bool O ∧ Below wr.heap.size wr wx)
          case first => as_aux_lemma =>
            obtain ⟨m0, m1⟩ := hL.out.1.1.facts
            go_wp2_with fail
            refine Calls.mono (hg3.out _ hL.out.1) ?_
            rintro e wa ⟨rfl, ha⟩
            cases M with
            | true =>
              obtain rfl : false = O := hO.out
              go_wp2
              go_meet
              case rel => exact ⟨rfl, ha⟩
            | false =>
              obtain ⟨m2, m3⟩ := (hL.out.1.kept ha).2.1.facts
              obtain rfl : (!I) = O := by have := hO.out; simpa using this
              clear m0 m1
              go_wp2_with fail
              refine Calls.mono (hg4.out _ (hL.out.1.kept ha)) ?_
              rintro e wb ⟨rfl, hb⟩
              clear m2 m3
              go_wp2
              go_meet
              case rel => exact ⟨rfl, ha.trans (hb.mono ha.size)⟩
          case rest => as_aux_lemma =>
            obtain ⟨rfl, hba⟩ := hcut
            have hLa := hid (hL.out.kept hba)
            clear hL hba s0
            have s0 := hLa.out.1.txt.cell 0
            simp only [List.getElem?_toArray, List.getElem?_cons_zero] at s0
            -- blank
            go_upto_region 27 with fail
            go_cut [15] from 99 to 215 (fun p wx => p = .bool Bk ∧ wx = wc)
            case first => as_aux_lemma =>
              cases O with
              | false =>
                obtain rfl : false = Bk := hBk.out
                go_wp2
                go_meet
                case rel => exact ⟨rfl, rfl⟩
              | true =>
                by_cases x32 : x = 32
                · have e1 : ((x : Int) == 32) = true := by rw [x32]; rfl
                  obtain rfl : true = Bk := by rw [← hBk.out, x32]; rfl
                  clear x32
                  go_wp2
                  go_meet
                  case rel => exact ⟨rfl, rfl⟩
                · have e1 : ((x : Int) == 32) = false := by simp; omega
                  by_cases x9 : x = 9
                  · have e2 : ((x : Int) == 9) = true := by rw [x9]; rfl
                    obtain rfl : true = Bk := by rw [← hBk.out, x9]; rfl
                    clear x32 x9
                    go_wp2
                    go_meet
                    case rel => exact ⟨rfl, rfl⟩
                  · have e2 : ((x : Int) == 9) = false := by simp; omega
                    by_cases x10 : x = 10
                    · have e3 : ((x : Int) == 10) = true := by rw [x10]; rfl
                      obtain rfl : true = Bk := by rw [← hBk.out, x10]; rfl
                      clear x32 x9 x10
                      go_wp2
                      go_meet
                      case rel => exact ⟨rfl, rfl⟩
                    · have e3 : ((x : Int) == 10) = false := by simp; omega
                      by_cases x13 : x = 13
                      · have e4 : ((x : Int) == 13) = true := by rw [x13]; rfl
                        obtain rfl : true = Bk := by rw [← hBk.out, x13]; rfl
                        clear x32 x9 x10 x13
                        go_wp2
                        go_meet
                        case rel => exact ⟨rfl, rfl⟩
                      · have e4 : ((x : Int) == 13) = false := by simp; omega
                        obtain rfl : false = Bk := by rw [← hBk.out]; simp [x32, x9, x10, x13]
                        clear x32 x9 x10 x13
                        go_wp2
                        go_meet
                        case rel => exact ⟨rfl, rfl⟩
            case rest => as_aux_lemma =>
              obtain ⟨rfl, hwc⟩ := hcut
              subst hwc
              go_upto_region 29 with fail
              -- word
              go_cut [8] from 99 to 215 (fun p wx => p = .bool Wd ∧ wx = wc)
              case first => as_aux_lemma =>
                cases O with
                | false =>
                  obtain rfl : false = Wd := hWd.out
                  go_wp2
                  go_meet
                  case rel => exact ⟨rfl, rfl⟩
                | true =>
                  cases Bk with
                  | true =>
                    obtain rfl : false = Wd := hWd.out
                    go_wp2
                    go_meet
                    case rel => exact ⟨rfl, rfl⟩
                  | false =>
                    obtain rfl : (!Sg) = Wd := by have := hWd.out; simpa using this
                    go_wp2_with fail
                    refine Calls.mono (hsg.out _) ?_
                    rintro e wq ⟨rfl, hwq⟩
                    obtain rfl := hwq.symm
                    go_wp2
                    go_meet
                    case rel => exact ⟨rfl, rfl⟩
              case rest => as_aux_lemma =>
                obtain ⟨rfl, hwc⟩ := hcut
                subst hwc
                -- begins
                go_upto_region 30 with fail
                go_cut [17] from 99 to 215 (fun p wx => p = .bool Bg ∧ Below wc.heap.size wc wx)
                case first => as_aux_lemma =>
                  cases O with
                  | true =>
                    obtain ⟨rfl, rfl⟩ : M = false ∧ I = false := by have := hO.out; cases M <;> cases I <;> simp at this ⊢
                    go_wp2_with fail
                    refine Calls.mono (hsg.out _) ?_
                    rintro e wq ⟨rfl, hwq⟩
                    obtain rfl := hwq.symm
                    cases Sg with
                    | true =>
                      obtain rfl : true = Bg := hBg.out
                      go_wp2
                      go_meet
                      case rel => exact ⟨rfl, Below.refl _ _⟩
                    | false =>
                      obtain ⟨m0, m1⟩ := hLa.out.1.1.facts
                      go_wp2_with fail
                      refine Calls.mono (hg3.out _ hLa.out.1) ?_
                      rintro e wq ⟨rfl, hq⟩
                      obtain rfl : (Wd && !Was) = Bg := by have := hBg.out; simpa using this
                      clear m0 m1
                      cases Wd with
                      | true =>
                        go_wp2
                        go_meet
                        case rel => exact ⟨rfl, hq⟩
                      | false =>
                        go_wp2
                        go_meet
                        case rel => exact ⟨rfl, hq⟩
                  | false =>
                    obtain rfl : false = Wd := hWd.out
                    obtain ⟨m0, m1⟩ := hLa.out.1.1.facts
                    go_wp2_with fail
                    refine Calls.mono (hg3.out _ hLa.out.1) ?_
                    rintro e wq ⟨rfl, hq⟩
                    clear m0 m1
                    cases M with
                    | true =>
                      obtain ⟨m2, m3⟩ := (hLa.out.1.kept hq).2.1.facts
                      obtain rfl : I = Bg := by have := hBg.out; simpa using this
                      go_wp2_with fail
                      refine Calls.mono (hg4.out _ (hLa.out.1.kept hq)) ?_
                      rintro e wz ⟨rfl, hz2⟩
                      clear m2 m3
                      cases I with
                      | true =>
                        go_wp2
                        go_meet
                        case rel => exact ⟨rfl, hq.trans (hz2.mono hq.size)⟩
                      | false =>
                        go_wp2
                        go_meet
                        case rel => exact ⟨rfl, hq.trans (hz2.mono hq.size)⟩
                    | false =>
                      obtain rfl : false = Bg := hBg.out
                      go_wp2
                      go_meet
                      case rel => exact ⟨rfl, hq⟩
                case rest => as_aux_lemma =>
                  obtain ⟨rfl, hbb⟩ := hcut
                  have hLb := hid (hLa.out.kept hbb)
                  clear hLa hbb s0 hg3 hg4 hsg
                  have hlen6 := hid (idxTo_len s i)
                  have hlen7 := hid (show (minL s i).length ≤ i by rw [minL_len]; exact jS_le s i)
                  obtain ⟨i0, hi0, hz0, hz1, hz2⟩ := info_parts infoI8
                  obtain ⟨j0, hj0, hy0, hy1, hy2⟩ := info_parts infoY8
                  go_upto_if 177 with fail
                  -- index
                  go_cut [6] from 99 to 215 (fun p wx => ∃ v, v = p ∧ Hid (MpL w s b3 b4 b5 g3 g4 g5 gc D W (i + 1) i v u7 wx))
                  case first => as_aux_lemma =>
                    cases Bg with
                    | true =>
                      go_wp2_with (first
                        | (at_builtin; refine wpList_append_own _ rfl _ _ 27 rfl W.heap.size 3 i0 (.int .i64 0) 1 8 Tryd.underlying27 hi0 hz0 hz1 hz2 rfl (by decide) _ _ _ rfl (World.ownsRow.alloc hLb.out.2.2.2.2.2.1 _) ⟨wc.heap.size, 0, none⟩ 1 1 [.int .i64 (i : Int)] rfl rfl (fun j u hj => by match j, hj with | 0, hj => simp at hj; subst hj; simp [Addr.add]) (fun u hu => by simp at hu; subst hu; rfl) (by have := hlen6.out; unfold maxLen; omega) (by have := hlen6.out; omega) (by have := hLb.out.2.2.2.2.1; simp; omega) ?_)
                        | go_in)
                      intro v' wn hown1 hgrow _
                      have hk := mpL_grow hLb.out lW.out lC.out hgrow (own_cells hLb.out.2.2.2.2.2.1)
                      have hr7 := (World.ownsRow.alloc hLb.out.2.2.2.2.2.2 (.cells #[.int .i64 (i : Int)] 3)).kept hgrow (rows_apart8 hLb.out.2.2.2.2.2.1 hLb.out.2.2.2.2.2.2 (by decide))
                      have hfin := hid (show MpL w s b3 b4 b5 g3 g4 g5 gc D W (i + 1) i v' u7 wn from ⟨hk.1, hk.2.1, hk.2.2.1, hk.2.2.2.1, hk.2.2.2.2, by rw [idxTo_t hbg.out, List.length_append, ints_snoc]; exact hown1, hr7⟩)
                      clear hgrow hown1 hk hr7
                      go_wp2
                      go_meet
                      case rel => exact ⟨_, rfl, hfin⟩
                    | false =>
                      have hfin := hid (show MpL w s b3 b4 b5 g3 g4 g5 gc D W (i + 1) i u6 u7 wc from ⟨hLb.out.1, hLb.out.2.1, hLb.out.2.2.1, hLb.out.2.2.2.1, hLb.out.2.2.2.2.1, by rw [idxTo_f hbg.out]; exact hLb.out.2.2.2.2.2.1, hLb.out.2.2.2.2.2.2⟩)
                      go_wp2
                      go_meet
                      case rel => exact ⟨_, rfl, hfin⟩
                  case rest => as_aux_lemma =>
                    obtain ⟨v6, hv6, hLc⟩ := hcut
                    subst hv6
                    clear hLb
                    have s0 := hLc.out.1.txt.cell 0
                    simp only [List.getElem?_toArray, List.getElem?_cons_zero] at s0
                    go_upto_if 183 with fail
                    -- less
                    go_cut [7] from 99 to 215 (fun p wx => ∃ v, v = p ∧ Hid (MpL w s b3 b4 b5 g3 g4 g5 gc D W (i + 1) (i + 1) v6 v wx))
                    case first => as_aux_lemma =>
                      cases Bk with
                      | true =>
                        have hfin := hid (show MpL w s b3 b4 b5 g3 g4 g5 gc D W (i + 1) (i + 1) v6 u7 wc from ⟨hLc.out.1, hLc.out.2.1, hLc.out.2.2.1, hLc.out.2.2.2.1, hLc.out.2.2.2.2.1, hLc.out.2.2.2.2.2.1, by rw [minL_t hbS.out]; exact hLc.out.2.2.2.2.2.2⟩)
                        go_wp2
                        go_meet
                        case rel => exact ⟨_, rfl, hfin⟩
                      | false =>
                        have hxs := hid hx
                        have hmn : Hid (minL s (i + 1) = minL s i ++ [s[i]]) := by
                          show _ = _
                          rw [minL_f hbS.out, Array.getElem?_eq_getElem (show i < s.data.size from hlt)]
                          rfl
                        go_wp2_with (first
                          | (at_builtin; refine wpList_append_own _ rfl _ _ 28 rfl W.heap.size 5 j0 (.int .u8 0) 1 1 Tryd.underlying28 hj0 hy0 hy1 hy2 rfl (by decide) _ _ _ rfl (World.ownsRow.alloc hLc.out.2.2.2.2.2.2 _) ⟨wc.heap.size, 0, none⟩ 1 1 [.int .u8 (x : Int)] rfl rfl (fun j u hj => by match j, hj with | 0, hj => simp at hj; subst hj; simp [Addr.add]) (fun u hu => by simp at hu; subst hu; rfl) (by have := hlen7.out; unfold maxLen; omega) (by have := hlen7.out; omega) (by have := hLc.out.2.2.2.2.1; simp; omega) ?_)
                          | go_in)
                        intro v' wn hown1 hgrow _
                        have hk := mpL_grow hLc.out lW.out lC.out hgrow (own_cells hLc.out.2.2.2.2.2.2)
                        have hr6 := (World.ownsRow.alloc hLc.out.2.2.2.2.2.1 (.cells #[.int .u8 (x : Int)] 5)).kept hgrow (rows_apart8 hLc.out.2.2.2.2.2.2 hLc.out.2.2.2.2.2.1 (by decide))
                        have hfin := hid (show MpL w s b3 b4 b5 g3 g4 g5 gc D W (i + 1) (i + 1) v6 v' wn from ⟨hk.1, hk.2.1, hk.2.2.1, hk.2.2.2.1, hk.2.2.2.2, hr6, by rw [hmn.out, by8_snoc, List.length_append, hxs.out]; exact hown1⟩)
                        clear hgrow hown1 hk hr6
                        go_wp2
                        go_meet
                        case rel => exact ⟨_, rfl, hfin⟩
                    case rest => as_aux_lemma =>
                      obtain ⟨v7, hv7, hLd⟩ := hcut
                      subst hv7
                      clear hLc s0
                      obtain ⟨m4, m5⟩ := hLd.out.1.2.2.1.facts
                      go_wp2_with fail
                      refine Calls.mono (hg5.out _ hLd.out.1) ?_
                      rintro e we ⟨rfl, he⟩
                      have hLe := hid (hLd.out.kept he)
                      clear hLd he m4 m5 hg5
                      have s0 := hLe.out.1.txt.cell 0
                      have v0 := hLe.out.2.2.1.cell 0
                      have k0 := hLe.out.2.1.cell i
                      rw [boolCells_get _ hlt, hwS.out] at k0
                      simp only [List.getElem?_toArray, List.getElem?_cons_zero] at s0 v0
                      obtain ⟨Lk, hLk⟩ := looked_calls s hs i
                      have hLk' := hid hLk
                      clear hLk
                      go_wp2_with fail
                      refine Calls.mono (hLk'.out _) ?_
                      rintro e wq ⟨rfl, hwq⟩
                      obtain rfl := hwq.symm
                      clear hLk'
                      cases Lk with
                      | false =>
                        go_wp2
                        go_roundw
                        case rel => exact ⟨i + 1, hlt, by go_num, by simp [hwS.out], hLe⟩
                        case measure => simp [intOf]; omega
                      | true =>
                        obtain ⟨kk, hkk⟩ : ∃ k, Hid (kindN s ((i : Nat) : Int) = k) := ⟨_, rfl⟩
                        have hkb : ((kk : Int) != 0) = Bg := by
                          rw [← hbg.out, Bool.eq_iff_iff, bne_iff_ne, ← kind_nz s i hlt, hkk.out]
                          omega
                        have hkc := hid (kind8_calls s (by omega) ((i : Nat) : Int) (by simp [Lit.wf, IntKind.min, IntKind.max, IntKind.bits, IntKind.signed]; omega) kk hkk we (hTb.out _ hLe.out.1.b) (hMb.out _ hLe.out.1.b) (hz.out _ hLe.out.1.b))
                        clear v0 k0
                        go_wp2_with fail
                        refine Calls.mono hkc.out ?_
                        rintro e wk ⟨rfl, hk⟩
                        have hLf := hid (hLe.out.kept hk)
                        clear hkc hk hLe s0
                        go_wp2
                        go_roundw
                        case rel => exact ⟨i + 1, hlt, by go_num, by simp [hwS.out], hLf⟩
                        case measure => simp [intOf]; omega
        · obtain rfl : i = s.size := by omega
          have s0 := hL.out.1.txt.cell 0
          simp only [List.getElem?_toArray, List.getElem?_cons_zero] at s0
          obtain ⟨ao6, cap6, rfl, hI6⟩ := ints_row hL.out.2.2.2.2.2.1
          have hix := hid (fun (u : World) (hb : Below w.heap.size w u) => index8_calls s (by omega) u (hTb.out u hb) (hMb.out u hb) (hz.out u hb))
          have hmn := hid (fun (u : World) (hb : Below w.heap.size w u) => minify8_calls s (by omega) u (hTb.out u hb) (hMb.out u hb) (hz.out u hb))
          have hLh := hid (show MpZ w s D W _ u7 wr from ⟨hL.out.1.txt, ⟨_, hL.out.1.2.2.2.1.2.1⟩, hL.out.1.b, hL.out.2.2.2.1, lW.out.2.2.2.2.2.2, hL.out.2.2.2.2.2.1, hL.out.2.2.2.2.2.2⟩)
          have hDn : D ≠ w.heap.size + 1 := by have := lW.out.2.2.2.2.2.2; omega
          clear hL hI6
          go_wp2_with fail
          rename_i Kw hKw
          refine wp_region_held_only (S := fun W' => MpZ w s D W (.slice ao6 (idxTo s s.size).length cap6) u7 W') (by kernel_rfl) (hLh.out.kept (Below.refl _ _).drew) (fun hHeld => ?_)
          obtain ⟨v0, hv0⟩ : ∃ v, World.drew wr = v := ⟨_, rfl⟩
          rw [hv0] at hHeld ⊢
          clear hv0 hLh s0
          (refine' wpAnyH_take (i := 0) (v := .string s) rfl (by kernel_rfl) (by kernel_rfl) (by kernel_rfl) (fun _ _ _ h => h) (Or.inl ⟨by rfl, ?_⟩) hHeld ?_; (· (intro wq hq; have c0 := hq.1.cell 0; simp only [List.getElem?_toArray, List.getElem?_cons_zero] at c0; go_simp; first | done | with_reducible rfl)); simp only [Act.put, List.getElem_toArray, List.getElem_cons_zero, List.setIfInBounds_toArray, List.set_cons_zero, List.set_cons_succ])
          (refine' wpAnyH_take (i := 2) (v := .slice ao6 (idxTo s s.size).length cap6) rfl (by kernel_rfl) (by kernel_rfl) (by kernel_rfl) (fun _ _ _ h => h) (Or.inl ⟨by rfl, ?_⟩) hHeld ?_; (· (intro wq hq; go_simp; first | done | with_reducible rfl)); simp only [Act.put, List.getElem_toArray, List.getElem_cons_zero, List.getElem_cons_succ, List.setIfInBounds_toArray, List.set_cons_zero, List.set_cons_succ])
          refine wpAnyH_ready (rs := [1]) (by kernel_rfl) (by simp) ?_
          refine AllReadyH.cons rfl (fun K hK => ?_) ?_
          · rw [if_pos (by rfl)]
            go_simp
            refine (hix.out _ hHeld.2.2.1).mono ?_
            rintro e v1 ⟨vI, rfl, hrI, hb1⟩
            have hH1 := hHeld.kept hb1
            obtain ⟨aoI, capI, rfl, hII⟩ := ints_row hrI
            refine hK.out _ _ hH1 (fun _ => ?_)
            clear hK K hHeld hix hrI hb1
            obtain ⟨ao', cap', e', hI6⟩ := ints_row hH1.2.2.2.2.2.1
            obtain ⟨rfl, rfl⟩ : ao6 = ao' ∧ cap6 = cap' := by simpa using e'
            clear e'
            have hHeld := hH1
            refine wpAnyH_ready (rs := [3]) (by kernel_rfl) (by simp) ?_
            refine AllReadyH.cons rfl (fun K hK => ?_) ?_
            · rw [if_pos (by rfl)]
              go_simp
              refine (sameI_calls (idxTo s s.size) _ rfl (by have := idxTo_len s s.size; omega) aoI ao6 capI cap6 v1 hII hI6).mono ?_
              rintro e v2 ⟨rfl, hb2⟩
              have hH2 := hH1.kept hb2
              refine hK.out _ _ hH2 (fun _ => ?_)
              clear hK K hHeld hH1 hII hI6 hb2
              have hHeld := hH2
              (refine' wpAnyH_take (i := 4) (v := .bool true) rfl (by kernel_rfl) (by kernel_rfl) (by kernel_rfl) (fun _ _ _ h => h) (Or.inl ⟨by rfl, ?_⟩) hHeld ?_; (· (intro wq hq; go_simp; first | done | with_reducible rfl)); simp only [Act.put, List.getElem_toArray, List.getElem_cons_zero, List.getElem_cons_succ, List.setIfInBounds_toArray, List.set_cons_zero, List.set_cons_succ])
              (refine' wpAnyH_take (i := 5) (v := .string s) rfl (by kernel_rfl) (by kernel_rfl) (by kernel_rfl) (fun _ _ _ h => h) (Or.inl ⟨by rfl, ?_⟩) hHeld ?_; (· (intro wq hq; have c0 := hq.1.cell 0; simp only [List.getElem?_toArray, List.getElem?_cons_zero] at c0; go_simp; first | done | with_reducible rfl)); simp only [Act.put, List.getElem_toArray, List.getElem_cons_zero, List.getElem_cons_succ, List.setIfInBounds_toArray, List.set_cons_zero, List.set_cons_succ])
              (refine' wpAnyH_take (i := 7) (v := u7) rfl (by kernel_rfl) (by kernel_rfl) (by kernel_rfl) (fun _ _ _ h => h) (Or.inl ⟨by rfl, ?_⟩) hHeld ?_; (· (intro wq hq; go_simp; first | done | with_reducible rfl)); simp only [Act.put, List.getElem_toArray, List.getElem_cons_zero, List.getElem_cons_succ, List.setIfInBounds_toArray, List.set_cons_zero, List.set_cons_succ])
              (refine' wpAnyH_take (i := 8) (v := .string (minS s)) rfl (by kernel_rfl) (by kernel_rfl) (by kernel_rfl) (fun _ _ _ h => h) (Or.inl ⟨by rfl, ?_⟩) hHeld ?_; (· (intro wq hq; have hcv := conv_row8 hq.2.2.2.2.2.2; go_simp; first | done | with_reducible rfl | rfl)); simp only [Act.put, List.getElem_toArray, List.getElem_cons_zero, List.getElem_cons_succ, List.setIfInBounds_toArray, List.set_cons_zero, List.set_cons_succ])
              refine wpAnyH_ready (rs := [6]) (by kernel_rfl) (by simp) ?_
              refine AllReadyH.cons rfl (fun K hK => ?_) ?_
              · rw [if_pos (by rfl)]
                go_simp
                refine (hmn.out _ hHeld.2.2.1).mono ?_
                rintro e v3 ⟨rfl, hb3⟩
                have hH3 := hH2.kept hb3
                refine hK.out _ _ hH3 (fun _ => ?_)
                clear hK K hHeld hH2 hmn hb3
                have hHeld := hH3
                (refine' wpAnyH_take (i := 9) (v := .bool true) rfl (by kernel_rfl) (by kernel_rfl) (by kernel_rfl) (fun _ _ _ h => h) (Or.inl ⟨by rfl, ?_⟩) hHeld ?_; (· (intro wq hq; go_simp; first | done | with_reducible rfl)); simp only [Act.put, List.getElem_toArray, List.getElem_cons_zero, List.getElem_cons_succ, List.setIfInBounds_toArray, List.set_cons_zero, List.set_cons_succ])
                (refine' wpAnyH_take (i := 10) (v := .bool true) rfl (by kernel_rfl) (by kernel_rfl) (by kernel_rfl) (fun _ _ _ h => h) (Or.inl ⟨by rfl, ?_⟩) hHeld ?_; (· (intro wq hq; go_simp; first | done | with_reducible rfl)); simp only [Act.put, List.getElem_toArray, List.getElem_cons_zero, List.getElem_cons_succ, List.setIfInBounds_toArray, List.set_cons_zero, List.set_cons_succ])
                obtain ⟨bb, r1⟩ := hH3.2.1
                have c5 := r1.cell 0
                have f5 := r1.frozen 0
                simp only [List.getElem?_toArray, List.getElem?_cons_zero] at c5
                have hF := hid (hH3.put hDn true)
                refine wpAnyH_ready (rs := [11]) (by kernel_rfl) (by simp) ?_
                refine AllReadyH.cons rfl (fun K hK => ?_) ?_
                · go_simp
                  refine hK.out _ _ hF.out (fun _ => ?_)
                  clear hK K
                  refine wpAnyH_done (by kernel_rfl) ?_ _
                  refine hKw _ _ ?_
                  clear hKw
                  have hKd := hF.out.2.2.2.1
                  have hB2 := hF.out.2.2.1
                  have hDw : w.heap.size ≤ D := by have := z8.out; omega
                  have hc5 := cell_kept (World.cell?_setCell_same' v3 ⟨w.heap.size + 1, 0, none⟩ (.bool true) (by rw [c5]; rfl)) (grownBy_putObj' _ D (.deferred none)) (fun r e => by cases e; exact ⟨_, hKd, rfl⟩)
                  clear hHeld hH3 r1 c5 f5 hF
                  go_wp2
                  refine ⟨by simp, .inl ⟨_, _, rfl, run_takeDeferred hKd, ?_⟩⟩
                  refine ⟨.bool true, ?_, rfl, hB2.trans (belowK_b (w := w) (Nat.le_refl _) _ D _ _ (by omega) hKd rfl rfl)⟩
                  simp [results, Tryd.f3, go_sem, hc5]
                exact AllReadyH.nil
              exact AllReadyH.nil
            exact AllReadyH.nil
          exact AllReadyH.nil
    case stop =>
      rintro D c r W _ _ h _
      exact h.elim
theorem marksParts_walk (s : ByteArray) (hs : s.size ≤ 1048576) (w : World) (hT : Tab w) (hM : TabM w) (h0 : 1 < w.heap.size) :
    Calls Tryd.prog 3 #[.string s] w fun e w' => e = .returned (.bool true) ∧ Below w.heap.size w w' := callsIn_wide.1 (mparts_in s hs w hT hM h0)
end Go.Proofs.YthakingpeegagaaDoor
