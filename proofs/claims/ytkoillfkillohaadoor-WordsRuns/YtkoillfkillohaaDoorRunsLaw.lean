/-
  The walk of quarrylaw03.WordsRuns.
-/
import Derived.Test.YtkoillfkillohaaDoorRunsKit
import Derived.Laws.EntriesVeiled
namespace Go.Proofs.YtkoillfkillohaaDoor
open Go.RowKit Go.Shelf

attribute [local go_sem] Oper.semAt_some

theorem starts_six : starts 6 = [1] ∧ (starts 6).map (runLen 6) = [2] := by decide +kernel
theorem lst_one {W : World} {g p : Nat} (h : At W g #[.int .i64 (p : Int)] 3) : Lst W (.slice (some ⟨g, 0, none⟩) 1 1) 0 W.heap.size [p] := by
  refine ⟨_, 1, rfl, fun j q hj => ⟨g, rfl, Nat.zero_le _, h.lt, ?_⟩⟩
  have hc := h.cell j
  match j, hj with
  | 0, hj => simp at hj; subst hj; simpa using hc

set_option maxRecDepth 100000 in
set_option maxHeartbeats 2000000 in
theorem runsLaw_in (x : Nat) (k : Int) (hx : x < 18446744073709551616) (w : World) (hT : Tab w) (h0 : 0 < w.heap.size) :
    CallsIn Fence.wide 3 Tryd.prog 6 #[.int .u64 (x : Int), .int .i64 k] w fun e w' => e = .returned (.bool true) ∧ Below w.heap.size w w' := by
  have hnf : ∀ (f : Fn) (a b : Array Value) (w : World), Sem.run Tryd.prog (binOp BinOp.eql 37 (.func f a b) .nilFunc) w = .ok (.bool false) w := fun _ _ _ _ => by rfl
  refine callsIn_of_wp_marks Tryd.func6 rfl trivial ?_ rfl
  simp only [Tryd.ntmps6, List.size_toArray, List.length_cons, List.length_nil, Nat.reduceAdd, Nat.reduceSub, Array.replicate_succ, Array.replicate_zero, List.push_toArray, List.append_toArray, List.nil_append, List.cons_append]
  gi_wp2_with fail
  refine ⟨trivial, ?_⟩
  refine (callsIn_wide.2 (refRuns_calls x hx _)).mono ?_
  rintro e w1 ⟨v, u, C, rfl, hR⟩
  have hb1 := hR.bl
  have b0 : At w1 w.heap.size #[.int .i64 k] 3 := ((At.new w _ _).alloc _).keptAll hb1
  have b1 : At w1 (w.heap.size + 1) #[.bool false] 4 := by
    have h := (At.new (w.alloc (.cells #[.int .i64 k] 3)) #[.bool false] 4).keptAll hb1
    simpa using h
  have hB1 : Below w.heap.size w w1 := by
    refine Below.trans ?_ (hb1.mono (by simp; omega))
    repeat (first | with_reducible exact Below.refl _ _ | with_reducible refine Below.setCell ?_ (by first | (simp; done) | (simp; omega)) _ | with_reducible refine below_drewN ?_ _ | with_reducible refine Below.alloc ?_ (by first | (simp; done) | (simp; omega)) _ | with_reducible refine Below.drew ?_)
  have hG : w.heap.size + 1 + 1 ≤ w1.heap.size := by have := hb1.size; simpa using this
  have l1 := lst_of_row (L := starts x) (by have := hR.ra; rw [← hR.la] at this; exact this)
  have m1 := lst_of_row (L := (starts x).map (runLen x)) (by have := hR.rm; rw [← hR.lm] at this; exact this)
  simp only [World.size_alloc] at l1 m1
  clear hR hb1
  obtain ⟨N, hN⟩ : ∃ N, Hid ((starts x).length = N) := ⟨_, rfl⟩
  have hNl : N ≤ 64 := hN.out ▸ starts_len_le x
  obtain ⟨ao, cap, hv⟩ : ∃ (ao : Option Addr) (cap : Nat), v = .slice ao N cap := by
    obtain ⟨ao, cap, h, _⟩ := l1
    exact ⟨ao, cap, by rw [h, hN.out]⟩
  obtain ⟨bo, cap2, hu⟩ : ∃ (bo : Option Addr) (cap2 : Nat), u = .slice bo N cap2 := by
    obtain ⟨bo, cap2, h, _⟩ := m1
    exact ⟨bo, cap2, by rw [h, List.length_map, hN.out]⟩
  subst hv hu
  gi_wp2_with fail
  refine ⟨trivial, ?_⟩
  refine (callsIn_wide.2 (runs_calls x _)).mono ?_
  rintro e w2 ⟨rfl, hw2⟩
  have hw1b : ((w1.alloc (.cells #[.slice ao N cap] 28)).alloc (.cells #[.slice bo N cap2] 28)).heap.size = w1.heap.size + 1 + 1 := by simp
  have hw2b : w2.heap.size = w1.heap.size + 1 + 1 + 1 := by rw [hw2]; simp
  obtain ⟨W3, hW3⟩ : ∃ W3, W3 = w2.alloc (.cells #[seqR (w1.heap.size + 1 + 1)] 37) := ⟨_, rfl⟩
  have hbe : Below w1.heap.size w1 W3 := by rw [hW3, hw2]; repeat (first | with_reducible exact Below.refl _ _ | with_reducible refine Below.setCell ?_ (by first | (simp; done) | (simp; omega)) _ | with_reducible refine below_drewN ?_ _ | with_reducible refine Below.alloc ?_ (by first | (simp; done) | (simp; omega)) _ | with_reducible refine Below.drew ?_)
  have s5 : At W3 w1.heap.size #[.slice ao N cap] 28 := by rw [hW3, hw2]; exact (((At.new w1 _ _).alloc _).alloc _).alloc _
  have s6 : At W3 (w1.heap.size + 1) #[.slice bo N cap2] 28 := by
    have h := ((At.new (w1.alloc (.cells #[.slice ao N cap] 28)) #[.slice bo N cap2] 28).alloc (.cells #[.int .u64 (x : Int)] 22)).alloc (.cells #[seqR (w1.heap.size + 1 + 1)] 37)
    rw [hW3, hw2]; simpa using h
  have sx : At W3 (w1.heap.size + 1 + 1) #[.int .u64 (x : Int)] 22 := by
    have h := (At.new ((w1.alloc (.cells #[.slice ao N cap] 28)).alloc (.cells #[.slice bo N cap2] 28)) #[.int .u64 (x : Int)] 22).alloc (.cells #[seqR (w1.heap.size + 1 + 1)] 37)
    rw [hW3, hw2]; simpa using h
  have s7 : At W3 (w1.heap.size + 1 + 1 + 1) #[seqR (w1.heap.size + 1 + 1)] 37 := by
    have h := At.new w2 #[seqR (w1.heap.size + 1 + 1)] 37
    rw [hw2b] at h; rw [hW3]; exact h
  have hz3 : W3.heap.size = w1.heap.size + 1 + 1 + 1 + 1 := by rw [hW3]; simp [hw2b]
  have t0 := b0.keptAll hbe
  have t1 := b1.keptAll hbe
  have l3 := l1.kept hbe (Nat.le_refl _)
  have m3 := m1.kept hbe (Nat.le_refl _)
  have hB3 := hB1.trans (hbe.mono hB1.size)
  have hT3 := hT.below hB3 h0
  rw [hw1b]
  have hw2h : Hid _ := hw2b
  have hW3h : Hid _ := hW3
  have hz3h : Hid _ := hz3
  clear hw2b hW3 hw2 hw1b hbe hz3
  gi_wp2_with fail
  rw [← hW3h.out, hw2h.out]
  clear hW3h hw2h
  refine ⟨trivial, ?_⟩
  refine (callsIn_wide.2 (runs_calls 6 _)).mono ?_
  rintro e w4 ⟨rfl, hw4⟩
  have hw4b : w4.heap.size = W3.heap.size + 1 := by rw [hw4]; simp
  obtain ⟨W5, hW5⟩ : ∃ W5, W5 = (w4.alloc (.cells #[.int .i64 1] 3)).alloc (.cells #[.int .i64 2] 3) := ⟨_, rfl⟩
  have hb5 : Below W3.heap.size W3 W5 := by rw [hW5, hw4]; repeat (first | with_reducible exact Below.refl _ _ | with_reducible refine Below.setCell ?_ (by first | (simp; done) | (simp; omega)) _ | with_reducible refine below_drewN ?_ _ | with_reducible refine Below.alloc ?_ (by first | (simp; done) | (simp; omega)) _ | with_reducible refine Below.drew ?_)
  have hz5 : W5.heap.size = W3.heap.size + 1 + 1 + 1 := by rw [hW5]; simp [hw4b]
  have q5 : At W5 W3.heap.size #[.int .u64 6] 22 := by rw [hW5, hw4]; exact ((At.new W3 _ _).alloc _).alloc _
  have r5 : At W5 w4.heap.size #[.int .i64 1] 3 := by rw [hW5]; exact (At.new w4 _ _).alloc _
  have r6 : At W5 (w4.heap.size + 1) #[.int .i64 2] 3 := by
    have h := At.new (w4.alloc (.cells #[.int .i64 1] 3)) #[.int .i64 2] 3
    rw [hW5]; simpa using h
  have hT5 := hT3.below hb5 (by have := hB3.size; omega)
  have l5 : Lst W5 (.slice (some ⟨w4.heap.size, 0, none⟩) 1 1) 0 W5.heap.size (starts 6) := by rw [starts_six.1]; exact lst_one r5
  have l6 : Lst W5 (.slice (some ⟨w4.heap.size + 1, 0, none⟩) 1 1) 0 W5.heap.size ((starts 6).map (runLen 6)) := by rw [starts_six.2]; exact lst_one r6
  have hW5h : Hid _ := hW5
  have hz5h : Hid _ := hz5
  have hwh : Hid _ := hw4b
  clear hw4b hw4 hW5 hz5
  gi_wp2_with fail
  refine ⟨trivial, ?_⟩
  rw [← hW5h.out]
  have hz3 := hz3h.out
  have hz5 := hz5h.out
  refine (callsIn_wide.2 (runs_told 6 W3.heap.size (by decide) _ _ 0 W5.heap.size 0 W5.heap.size W5 hT5 (by omega) (Nat.le_refl _) (Nat.le_refl _) q5 l5 l6)).mono ?_
  rintro e w6 ⟨rfl, hb6⟩
  have hb36 := hb5.trans (hb6.mono hb5.size)
  clear hwh hW5h l5 l6 r5 r6 q5 hb6 hT5
  have hz6 : W3.heap.size ≤ w6.heap.size := hb36.size
  have hS7 : RunsSt w x k (.slice ao N cap) (.slice bo N cap2) w1.heap.size w6.heap.size 0 (w6.alloc (.cells #[.int .i64 0] 3)) :=
    ⟨(t0.keptAll hb36).alloc _, (t1.keptAll hb36).alloc _, (s5.keptAll hb36).alloc _, (s6.keptAll hb36).alloc _, (sx.keptAll hb36).alloc _, (s7.keptAll hb36).alloc _, At.new w6 _ _,
      (l3.kept hb36 (by omega)).kept ((Below.refl w6.heap.size w6).alloc (Nat.le_refl _) _) (by omega), (m3.kept hb36 (by omega)).kept ((Below.refl w6.heap.size w6).alloc (Nat.le_refl _) _) (by omega), hT3.below (hb36.trans ((Below.refl _ w6).alloc (by omega) _)) (by omega), (hB3.trans (hb36.mono hB3.size)).alloc (by have := hB3.size; omega) _⟩
  have h8g : w1.heap.size + 1 + 1 + 1 < w6.heap.size := by omega
  have c7 := (s7.keptAll hb36).alloc (.cells #[.int .i64 0] 3)
  replace c7 := c7.cell 0
  simp only [List.getElem?_toArray, List.getElem?_cons_zero] at c7
  clear t0 t1 s5 s6 sx s7 l3 m3 l1 m1 hb5 hb36 hT3 hB3 b0 b1 hB1 hz3 hz5 hz3h hz5h hz6
  obtain ⟨W7, hW7⟩ : ∃ W7, Hid (W7 = w6.alloc (.cells #[.int .i64 0] 3)) := ⟨_, rfl⟩
  gi_wp2_with fail
  rw [← hW7.out]
  rw [← hW7.out] at hS7
  clear hW7 c7
  generalize w6.heap.size = b8 at *
  generalize (Value.func (.func 24) #[] #[.pointer (some ⟨W3.heap.size, 0, none⟩)]) = j23 at *
  generalize (Value.slice (some ⟨w4.heap.size, 0, none⟩) 1 1) = j24 at *
  generalize (Value.slice (some ⟨w4.heap.size + 1, 0, none⟩) 1 1) = j25 at *
  rename_i K hKr
  have rest : ∀ (D : Nat) (W : World) (n : Int), b8 < D → RunsSt w x k (.slice ao N cap) (.slice bo N cap2) w1.heap.size b8 n W → (n = k ∨ n = (N : Int)) → W.heap[D]? = some (.deferred (some [])) → K { tmps := #[.int .u64 (x : Int), .int .i64 k, undef, .pointer (some ⟨w.heap.size, 0, none⟩), .pointer (some ⟨w.heap.size + 1, 0, none⟩), .pointer (some ⟨w1.heap.size, 0, none⟩), .pointer (some ⟨w1.heap.size + 1, 0, none⟩), .pointer (some ⟨w1.heap.size + 1 + 1 + 1, 0, none⟩), .pointer (some ⟨b8, 0, none⟩), undef, undef, undef, undef, .tuple #[.slice ao N cap, .slice bo N cap2], .int .u64 (x : Int), .tuple #[.slice ao N cap, .slice bo N cap2], .slice ao N cap, .slice bo N cap2, .int .u64 (x : Int), seqR (w1.heap.size + 1 + 1), seqR (w1.heap.size + 1 + 1), .bool false, .bool false, j23, j24, j25, .bool true, .bool false, .bool false, seqR (w1.heap.size + 1 + 1), undef, undef, undef, undef, undef, undef, undef, undef, undef, undef, undef, undef, undef, undef, undef, undef, undef, undef, undef, undef, undef, undef, undef, undef, undef, undef, undef, undef, undef, undef, undef, undef, undef, undef, undef, undef, undef, undef, undef, undef, undef, undef, undef, undef, undef, undef, undef, undef, undef, undef, undef, undef, undef, undef, undef, undef, undef, undef, undef, undef, undef, undef, undef, undef, undef, undef, undef, undef, undef, undef, undef, undef, undef, undef, undef, undef, undef, undef, undef, undef, undef, undef], defers := [{ target := .collected D, args := #[] }] } W := by
    intro D W n hD hS hn hK
    refine hKr _ _ ?_
    clear hKr
    have c0 := hS.a0.cell 0
    have c1 := hS.a1.cell 0
    have c5 := hS.a5.cell 0
    have c6 := hS.a6.cell 0
    have c7 := hS.a7.cell 0
    have c8 := hS.a8.cell 0
    have f1 := hS.a1.frozen 0
    have f8 := hS.a8.frozen 0
    simp only [List.getElem?_toArray, List.getElem?_cons_zero] at c0 c1 c5 c6 c7 c8
    have hS0 := hS.put h0 hG h8g 0
    have hKd : (W.setCell ⟨b8, 0, none⟩ (.int .i64 0)).heap[D]? = some (.deferred (some [])) := (Below.heap_setCell W ⟨b8, 0, none⟩ _ D (by show D ≠ b8; omega)).trans hK
    have c7' := hS0.a7.cell 0
    simp only [List.getElem?_toArray, List.getElem?_cons_zero] at c7'
    by_cases hnk : n = k
    · have hnk' : (n != k) = false := by simpa using hnk
      gi_wp2_with fail
      have hDl : D < W.heap.size := (Array.getElem?_eq_some_iff.1 hK).1
      have hDl0 : D < (W.setCell ⟨b8, 0, none⟩ (.int .i64 0)).heap.size := by simpa using hDl
      clear c0 c1 c5 c6 c7 c8 f1 f8 c7' hK hS hDl
      generalize W.setCell ⟨b8, 0, none⟩ (.int .i64 0) = W0 at *
      have hz : b8 < W0.heap.size := hS0.a8.lt
      refine range_held (n := 3) (by decide) (gf := 24) (lb := #[.pointer (some ⟨w1.heap.size + 1 + 1, 0, none⟩)]) rfl (enters_of Tryd.func24 (by kernel_rfl) rfl)
        (runs_held (3 - 1) (by decide) (w1.heap.size + 1 + 1) w.heap.size (W0.heap.size + 1 + 1) x hx h0 W0 hS0.bl.size (Nat.lt_of_lt_of_le h0 hS0.bl.size) (Nat.le_refl _) hS0.tb hS0.ax) (Below.refl _ _) (fun _ => rfl) Held.trans (fun W r r' h => Held.turn h (by omega) (by omega) (by omega))
        (fun pre W => RunsSt w x k (.slice ao N cap) (.slice bo N cap2) w1.heap.size b8 ((pre.length : Nat) : Int) W ∧ W.heap[D]? = some (.deferred (some [])))
        (fun c pre W => c = .ret ∧ ¬ pre <+: starts x)
        (fun _ X Y row h2 hg hr => ⟨h2.1.own h0 (by omega) hg hr, (hg.block D (Array.getElem?_eq_some_iff.1 h2.2).1 (fun e => by have := (hr D e.symm).1; omega)).trans h2.2⟩)
        (fun _ _ X Y row h hg hr => h)
        ⟨hS0, hKd⟩
        (fun p => { tmps := #[.int .u64 (x : Int), .int .i64 k, undef, .pointer (some ⟨w.heap.size, 0, none⟩), .pointer (some ⟨w.heap.size + 1, 0, none⟩), .pointer (some ⟨w1.heap.size, 0, none⟩), .pointer (some ⟨w1.heap.size + 1, 0, none⟩), .pointer (some ⟨w1.heap.size + 1 + 1 + 1, 0, none⟩), .pointer (some ⟨b8, 0, none⟩), undef, undef, .int .i64 ((p % 64 : Nat) : Int), .int .i64 ((runLen x (p % 64) : Nat) : Int), .tuple #[.slice ao N cap, .slice bo N cap2], .int .u64 (x : Int), .tuple #[.slice ao N cap, .slice bo N cap2], .slice ao N cap, .slice bo N cap2, .int .u64 (x : Int), seqR (w1.heap.size + 1 + 1), seqR (w1.heap.size + 1 + 1), .bool false, .bool false, j23, j24, j25, .bool true, .bool false, .bool false, seqR (w1.heap.size + 1 + 1), undef, undef, undef, undef, undef, undef, undef, undef, undef, undef, undef, undef, undef, undef, undef, undef, undef, undef, undef, undef, undef, undef, undef, undef, undef, undef, undef, .int .i64 k, .int .i64 k, .bool false, .bool false, undef, undef, undef, undef, .bool false, seqR (w1.heap.size + 1 + 1), .int .i64 ((p % 64 : Nat) : Int), .int .i64 ((runLen x (p % 64) : Nat) : Int), undef, undef, undef, undef, undef, undef, undef, undef, undef, undef, undef, undef, undef, undef, undef, undef, undef, undef, undef, undef, undef, undef, undef, undef, undef, undef, undef, undef, undef, undef, undef, undef, undef, undef, undef, undef, undef, undef, undef, undef, undef, undef, undef], defers := [] })
        ?assign ?body ?done ?stop
      case assign =>
        intro l p W K hK
        rw [encR]
        try dsimp only at hK
        generalize runLen x (p % 64) = r at *
        generalize p % 64 = q at *
        gi_wp2
        exact hK
      case body =>
        intro l pre p W hll ⟨hS, hKD⟩ hlt
        obtain ⟨g, ca, h, cb, P, hv, hu, hg, hh, cg, ch, hne⟩ := pair_at hS.ls hS.lm hlt
        obtain ⟨rfl, -, rfl⟩ : ao = some ⟨g, 0, none⟩ ∧ N = (starts x).length ∧ cap = ca := by simpa using hv
        obtain ⟨rfl, -, rfl⟩ : bo = some ⟨h, 0, none⟩ ∧ N = (starts x).length ∧ cap2 = cb := by simpa using hu
        have hlen : pre.length < N := hN.out ▸ hlt
        have hne' : Hid _ := hne p
        clear hne hv hu
        try dsimp only
        have c0 := hS.a0.cell 0
        have c1 := hS.a1.cell 0
        have c5 := hS.a5.cell 0
        have c6 := hS.a6.cell 0
        have c7 := hS.a7.cell 0
        have c8 := hS.a8.cell 0
        have f1 := hS.a1.frozen 0
        have f8 := hS.a8.frozen 0
        simp only [List.getElem?_toArray, List.getElem?_cons_zero] at c0 c1 c5 c6 c7 c8
        by_cases he : p % 64 = P
        · subst he
          generalize hrd : runLen x (p % 64) = r at *
          generalize p % 64 = q at *
          clear hrd hne'
          have ePl : ((((pre ++ [p]).length : Nat)) : Int) = (pre.length : Int) + 1 := by simp
          have ePh : Hid _ := ePl
          clear ePl
          by_cases h3 : pre.length < 3
          · have hgv : Hid (Calls Tryd.prog 18 #[seqR (w1.heap.size + 1 + 1), .slice (some ⟨g, 0, none⟩) N cap, .slice (some ⟨h, 0, none⟩) N cap2] W fun e w' => e = .returned (.bool true) ∧ Below W.heap.size W w') :=
              runs_told x (w1.heap.size + 1 + 1) hx _ _ _ _ _ _ W hS.tb (Nat.lt_of_lt_of_le h0 hS.bl.size) (Nat.le_of_lt hS.a5.lt) (Nat.le_of_lt hS.a5.lt) hS.ax hS.ls hS.lm
            gi_wp2_with fail
            refine ⟨trivial, ?_⟩
            refine (CallsIn.inRound l (callsIn_wide.2 hgv.out)).mono ?_
            rintro e W4 ⟨rfl, hb4⟩
            have hS4 := hS.kept h0 hb4
            have kf : KeepsFrom W0.heap.size W W4 := (keeps_below hb4).from _
            have hKD4 : W4.heap[D]? = some (.deferred (some [])) := (hb4.block D (Array.getElem?_eq_some_iff.1 hKD).1).trans hKD
            have hKD5 : (W4.setCell ⟨b8, 0, none⟩ (.int .i64 ((pre.length : Int) + 1))).heap[D]? = some (.deferred (some [])) := (Below.heap_setCell W4 ⟨b8, 0, none⟩ _ D (by show D ≠ b8; omega)).trans hKD4
            have hhl : Held w.heap.size (W0.heap.size + 1 + 1) (w1.heap.size + 1 + 1) W W4 := Held.below hS.bl.size hb4
            clear c0 c1 c5 c6 c7 c8 f1 f8 cg ch hgv hb4
            have c0 := hS4.a0.cell 0
            have c1 := hS4.a1.cell 0
            have c5 := hS4.a5.cell 0
            have c6 := hS4.a6.cell 0
            have c7 := hS4.a7.cell 0
            have c8 := hS4.a8.cell 0
            have f1 := hS4.a1.frozen 0
            have f8 := hS4.a8.frozen 0
            simp only [List.getElem?_toArray, List.getElem?_cons_zero] at c0 c1 c5 c6 c7 c8
            have hS5 := hS4.put h0 hG h8g ((pre.length : Int) + 1)
            gi_wp2
            refine ⟨kf.trans ((KeepsOthers.setCell _ _ _).from _), hhl.trans (Held.setCell (b := b8) _ _ (by omega) (by omega) (by omega)), ?_, hKD5⟩
            rw [ePh.out]
            exact hS5
          · have h3' : ¬ (pre.length : Int) < 3 := by omega
            have hS5 := hS.put h0 hG h8g ((pre.length : Int) + 1)
            have hKD5 : (W.setCell ⟨b8, 0, none⟩ (.int .i64 ((pre.length : Int) + 1))).heap[D]? = some (.deferred (some [])) := (Below.heap_setCell W ⟨b8, 0, none⟩ _ D (by show D ≠ b8; omega)).trans hKD
            gi_wp2_with fail
            all_goals (try (refine ⟨trivial, ?_⟩))
            all_goals (try gi_wp2)
            refine ⟨(KeepsOthers.setCell _ _ _).from _, Held.setCell (b := b8) _ _ (by omega) (by omega) (by omega), ?_, hKD5⟩
            rw [ePh.out]
            exact hS5
        · have hout : Hid _ := hne'.out he
          generalize runLen x (p % 64) = r at *
          generalize runLen x P = r' at *
          generalize p % 64 = q at *
          have he' : ((q : Int) != (P : Int)) = true := by simp; omega
          clear hne'
          gi_wp2_with fail
          all_goals (try (exfalso; exact undef_bool (by assumption)))
          all_goals (try (refine ⟨trivial, ?_⟩))
          all_goals (try gi_wp2)
          all_goals (try (exfalso; exact undef_bool (by assumption)))
          exact ⟨(KeepsOthers.setCell _ _ _).from _, Held.setCell (b := w.heap.size + 1) _ _ (by omega) (by omega) (by omega), rfl, hout.out⟩
      case done =>
        rintro D2 xs W hD2 hxs ⟨hS, hKD⟩ hK2
        rw [show xs.length = N by rw [hxs]; exact hN.out] at hS
        have hgv : Hid (Calls Tryd.prog 18 #[seqR (w1.heap.size + 1 + 1), .slice ao N cap, .slice bo N cap2] W fun e w' => e = .returned (.bool true) ∧ Below W.heap.size W w') :=
          runs_told x (w1.heap.size + 1 + 1) hx _ _ _ _ _ _ W hS.tb (Nat.lt_of_lt_of_le h0 hS.bl.size) (Nat.le_of_lt hS.a5.lt) (Nat.le_of_lt hS.a5.lt) hS.ax hS.ls hS.lm
        have c0 := hS.a0.cell 0
        have c1 := hS.a1.cell 0
        have c5 := hS.a5.cell 0
        have c6 := hS.a6.cell 0
        have c7 := hS.a7.cell 0
        have c8 := hS.a8.cell 0
        have f1 := hS.a1.frozen 0
        have f8 := hS.a8.frozen 0
        simp only [List.getElem?_toArray, List.getElem?_cons_zero] at c0 c1 c5 c6 c7 c8
        gi_wp2_with fail
        refine ⟨trivial, ?_⟩
        refine (callsIn_wide.2 hgv.out).mono ?_
        rintro e W4 ⟨rfl, hb4⟩
        have hS4 := hS.kept h0 hb4
        clear c0 c1 c5 c6 c7 c8 f1 f8 hgv
        have c0 := hS4.a0.cell 0
        have c1 := hS4.a1.cell 0
        have c5 := hS4.a5.cell 0
        have c6 := hS4.a6.cell 0
        have c7 := hS4.a7.cell 0
        have c8 := hS4.a8.cell 0
        have f1 := hS4.a1.frozen 0
        have f8 := hS4.a8.frozen 0
        simp only [List.getElem?_toArray, List.getElem?_cons_zero] at c0 c1 c5 c6 c7 c8
        have hk2 : W4.heap[D2]? = some (.deferred (some [])) := (hb4.block D2 (Array.getElem?_eq_some_iff.1 hK2).1).trans hK2
        have hk1 : W4.heap[D]? = some (.deferred (some [])) := (hb4.block D (Array.getElem?_eq_some_iff.1 hKD).1).trans hKD
        have k2 : (W4.setCell ⟨w.heap.size + 1, 0, none⟩ (.bool true)).heap[D2]? = some (.deferred (some [])) := (Below.heap_setCell W4 ⟨w.heap.size + 1, 0, none⟩ _ D2 (by show D2 ≠ w.heap.size + 1; omega)).trans hk2
        have k1 : (W4.setCell ⟨w.heap.size + 1, 0, none⟩ (.bool true)).heap[D]? = some (.deferred (some [])) := (Below.heap_setCell W4 ⟨w.heap.size + 1, 0, none⟩ _ D (by show D ≠ w.heap.size + 1; omega)).trans hk1
        have cr := World.cell?_setCell_same' W4 ⟨w.heap.size + 1, 0, none⟩ (.bool true) (by rw [c1]; rfl)
        have hBe := hS4.bl.setCell (p := ⟨w.heap.size + 1, 0, none⟩) (by show w.heap.size ≤ w.heap.size + 1; omega) (.bool true)
        have k1' : ((W4.setCell ⟨w.heap.size + 1, 0, none⟩ (.bool true)).putObj D2 (.deferred none)).heap[D]? = some (.deferred (some [])) := (World.putObj_heap_other (by omega)).trans k1
        have cr2 := cell_kept cr (grownBy_putObj' _ D2 (.deferred none)) (fun r e => by cases e; exact ⟨_, k2, rfl⟩)
        have cr3 := cell_kept cr2 (grownBy_putObj' _ D (.deferred none)) (fun r e => by cases e; exact ⟨_, k1', rfl⟩)
        have hBe2 := hBe.trans (belowK_b (w := w) (Nat.le_refl _) _ D2 _ (.deferred none) (by omega) k2 rfl rfl)
        have hBe3 := hBe2.trans (belowK_b (w := w) (Nat.le_refl _) _ D _ (.deferred none) (by omega) k1' rfl rfl)
        gi_wp2
        refine ⟨by simp, .inl ⟨_, _, rfl, run_takeDeferred k2, ?_⟩⟩
        refine ⟨by simp, .inl ⟨_, _, rfl, run_takeDeferred k1', ?_⟩⟩
        refine ⟨.bool true, ?_, rfl, hBe3⟩
        simp [results, Tryd.f6, go_sem, cr3]
      case stop =>
        rintro D2 c pre W hD2 hpre ⟨-, h⟩ hK2
        exact absurd hpre h
    · obtain rfl : n = (N : Int) := by omega
      have hnk' : ((N : Int) != k) = true := by simpa using hnk
      gi_wp2_with fail
      have hDl : D < W.heap.size := (Array.getElem?_eq_some_iff.1 hK).1
      have hDl0 : D < (W.setCell ⟨b8, 0, none⟩ (.int .i64 0)).heap.size := by simpa using hDl
      clear c0 c1 c5 c6 c7 c8 f1 f8 c7' hK hS hDl
      generalize W.setCell ⟨b8, 0, none⟩ (.int .i64 0) = W0 at *
      have hz : b8 < W0.heap.size := hS0.a8.lt
      refine range_held (n := 3) (by decide) (gf := 24) (lb := #[.pointer (some ⟨w1.heap.size + 1 + 1, 0, none⟩)]) rfl (enters_of Tryd.func24 (by kernel_rfl) rfl)
        (runs_held (3 - 1) (by decide) (w1.heap.size + 1 + 1) w.heap.size (W0.heap.size + 1 + 1) x hx h0 W0 hS0.bl.size (Nat.lt_of_lt_of_le h0 hS0.bl.size) (Nat.le_refl _) hS0.tb hS0.ax) (Below.refl _ _) (fun _ => rfl) Held.trans (fun W r r' h => Held.turn h (by omega) (by omega) (by omega))
        (fun pre W => RunsSt w x k (.slice ao N cap) (.slice bo N cap2) w1.heap.size b8 ((pre.length : Nat) : Int) W ∧ W.heap[D]? = some (.deferred (some [])))
        (fun c pre W => c = .ret ∧ ¬ pre <+: starts x)
        (fun _ X Y row h2 hg hr => ⟨h2.1.own h0 (by omega) hg hr, (hg.block D (Array.getElem?_eq_some_iff.1 h2.2).1 (fun e => by have := (hr D e.symm).1; omega)).trans h2.2⟩)
        (fun _ _ X Y row h hg hr => h)
        ⟨hS0, hKd⟩
        (fun p => { tmps := #[.int .u64 (x : Int), .int .i64 k, undef, .pointer (some ⟨w.heap.size, 0, none⟩), .pointer (some ⟨w.heap.size + 1, 0, none⟩), .pointer (some ⟨w1.heap.size, 0, none⟩), .pointer (some ⟨w1.heap.size + 1, 0, none⟩), .pointer (some ⟨w1.heap.size + 1 + 1 + 1, 0, none⟩), .pointer (some ⟨b8, 0, none⟩), undef, undef, .int .i64 ((p % 64 : Nat) : Int), .int .i64 ((runLen x (p % 64) : Nat) : Int), .tuple #[.slice ao N cap, .slice bo N cap2], .int .u64 (x : Int), .tuple #[.slice ao N cap, .slice bo N cap2], .slice ao N cap, .slice bo N cap2, .int .u64 (x : Int), seqR (w1.heap.size + 1 + 1), seqR (w1.heap.size + 1 + 1), .bool false, .bool false, j23, j24, j25, .bool true, .bool false, .bool false, seqR (w1.heap.size + 1 + 1), undef, undef, undef, undef, undef, undef, undef, undef, undef, undef, undef, undef, undef, undef, undef, undef, undef, undef, undef, undef, undef, undef, undef, undef, undef, undef, undef, .int .i64 (N : Int), .int .i64 k, .bool true, .bool true, .int .i64 (N : Int), .slice ao N cap, .int .i64 (N : Int), .bool false, .bool false, seqR (w1.heap.size + 1 + 1), .int .i64 ((p % 64 : Nat) : Int), .int .i64 ((runLen x (p % 64) : Nat) : Int), undef, undef, undef, undef, undef, undef, undef, undef, undef, undef, undef, undef, undef, undef, undef, undef, undef, undef, undef, undef, undef, undef, undef, undef, undef, undef, undef, undef, undef, undef, undef, undef, undef, undef, undef, undef, undef, undef, undef, undef, undef, undef, undef], defers := [] })
        ?assign ?body ?done ?stop
      case assign =>
        intro l p W K hK
        rw [encR]
        try dsimp only at hK
        generalize runLen x (p % 64) = r at *
        generalize p % 64 = q at *
        gi_wp2
        exact hK
      case body =>
        intro l pre p W hll ⟨hS, hKD⟩ hlt
        obtain ⟨g, ca, h, cb, P, hv, hu, hg, hh, cg, ch, hne⟩ := pair_at hS.ls hS.lm hlt
        obtain ⟨rfl, -, rfl⟩ : ao = some ⟨g, 0, none⟩ ∧ N = (starts x).length ∧ cap = ca := by simpa using hv
        obtain ⟨rfl, -, rfl⟩ : bo = some ⟨h, 0, none⟩ ∧ N = (starts x).length ∧ cap2 = cb := by simpa using hu
        have hlen : pre.length < N := hN.out ▸ hlt
        have hne' : Hid _ := hne p
        clear hne hv hu
        try dsimp only
        have c0 := hS.a0.cell 0
        have c1 := hS.a1.cell 0
        have c5 := hS.a5.cell 0
        have c6 := hS.a6.cell 0
        have c7 := hS.a7.cell 0
        have c8 := hS.a8.cell 0
        have f1 := hS.a1.frozen 0
        have f8 := hS.a8.frozen 0
        simp only [List.getElem?_toArray, List.getElem?_cons_zero] at c0 c1 c5 c6 c7 c8
        by_cases he : p % 64 = P
        · subst he
          generalize hrd : runLen x (p % 64) = r at *
          generalize p % 64 = q at *
          clear hrd hne'
          have ePl : ((((pre ++ [p]).length : Nat)) : Int) = (pre.length : Int) + 1 := by simp
          have ePh : Hid _ := ePl
          clear ePl
          by_cases h3 : pre.length < 3
          · have hgv : Hid (Calls Tryd.prog 18 #[seqR (w1.heap.size + 1 + 1), .slice (some ⟨g, 0, none⟩) N cap, .slice (some ⟨h, 0, none⟩) N cap2] W fun e w' => e = .returned (.bool true) ∧ Below W.heap.size W w') :=
              runs_told x (w1.heap.size + 1 + 1) hx _ _ _ _ _ _ W hS.tb (Nat.lt_of_lt_of_le h0 hS.bl.size) (Nat.le_of_lt hS.a5.lt) (Nat.le_of_lt hS.a5.lt) hS.ax hS.ls hS.lm
            gi_wp2_with fail
            refine ⟨trivial, ?_⟩
            refine (CallsIn.inRound l (callsIn_wide.2 hgv.out)).mono ?_
            rintro e W4 ⟨rfl, hb4⟩
            have hS4 := hS.kept h0 hb4
            have kf : KeepsFrom W0.heap.size W W4 := (keeps_below hb4).from _
            have hKD4 : W4.heap[D]? = some (.deferred (some [])) := (hb4.block D (Array.getElem?_eq_some_iff.1 hKD).1).trans hKD
            have hKD5 : (W4.setCell ⟨b8, 0, none⟩ (.int .i64 ((pre.length : Int) + 1))).heap[D]? = some (.deferred (some [])) := (Below.heap_setCell W4 ⟨b8, 0, none⟩ _ D (by show D ≠ b8; omega)).trans hKD4
            have hhl : Held w.heap.size (W0.heap.size + 1 + 1) (w1.heap.size + 1 + 1) W W4 := Held.below hS.bl.size hb4
            clear c0 c1 c5 c6 c7 c8 f1 f8 cg ch hgv hb4
            have c0 := hS4.a0.cell 0
            have c1 := hS4.a1.cell 0
            have c5 := hS4.a5.cell 0
            have c6 := hS4.a6.cell 0
            have c7 := hS4.a7.cell 0
            have c8 := hS4.a8.cell 0
            have f1 := hS4.a1.frozen 0
            have f8 := hS4.a8.frozen 0
            simp only [List.getElem?_toArray, List.getElem?_cons_zero] at c0 c1 c5 c6 c7 c8
            have hS5 := hS4.put h0 hG h8g ((pre.length : Int) + 1)
            gi_wp2
            refine ⟨kf.trans ((KeepsOthers.setCell _ _ _).from _), hhl.trans (Held.setCell (b := b8) _ _ (by omega) (by omega) (by omega)), ?_, hKD5⟩
            rw [ePh.out]
            exact hS5
          · have h3' : ¬ (pre.length : Int) < 3 := by omega
            have hS5 := hS.put h0 hG h8g ((pre.length : Int) + 1)
            have hKD5 : (W.setCell ⟨b8, 0, none⟩ (.int .i64 ((pre.length : Int) + 1))).heap[D]? = some (.deferred (some [])) := (Below.heap_setCell W ⟨b8, 0, none⟩ _ D (by show D ≠ b8; omega)).trans hKD
            gi_wp2_with fail
            all_goals (try (refine ⟨trivial, ?_⟩))
            all_goals (try gi_wp2)
            refine ⟨(KeepsOthers.setCell _ _ _).from _, Held.setCell (b := b8) _ _ (by omega) (by omega) (by omega), ?_, hKD5⟩
            rw [ePh.out]
            exact hS5
        · have hout : Hid _ := hne'.out he
          generalize runLen x (p % 64) = r at *
          generalize runLen x P = r' at *
          generalize p % 64 = q at *
          have he' : ((q : Int) != (P : Int)) = true := by simp; omega
          clear hne'
          gi_wp2_with fail
          all_goals (try (exfalso; exact undef_bool (by assumption)))
          all_goals (try (refine ⟨trivial, ?_⟩))
          all_goals (try gi_wp2)
          all_goals (try (exfalso; exact undef_bool (by assumption)))
          exact ⟨(KeepsOthers.setCell _ _ _).from _, Held.setCell (b := w.heap.size + 1) _ _ (by omega) (by omega) (by omega), rfl, hout.out⟩
      case done =>
        rintro D2 xs W hD2 hxs ⟨hS, hKD⟩ hK2
        rw [show xs.length = N by rw [hxs]; exact hN.out] at hS
        have hgv : Hid (Calls Tryd.prog 18 #[seqR (w1.heap.size + 1 + 1), .slice ao N cap, .slice bo N cap2] W fun e w' => e = .returned (.bool true) ∧ Below W.heap.size W w') :=
          runs_told x (w1.heap.size + 1 + 1) hx _ _ _ _ _ _ W hS.tb (Nat.lt_of_lt_of_le h0 hS.bl.size) (Nat.le_of_lt hS.a5.lt) (Nat.le_of_lt hS.a5.lt) hS.ax hS.ls hS.lm
        have c0 := hS.a0.cell 0
        have c1 := hS.a1.cell 0
        have c5 := hS.a5.cell 0
        have c6 := hS.a6.cell 0
        have c7 := hS.a7.cell 0
        have c8 := hS.a8.cell 0
        have f1 := hS.a1.frozen 0
        have f8 := hS.a8.frozen 0
        simp only [List.getElem?_toArray, List.getElem?_cons_zero] at c0 c1 c5 c6 c7 c8
        gi_wp2_with fail
        refine ⟨trivial, ?_⟩
        refine (callsIn_wide.2 hgv.out).mono ?_
        rintro e W4 ⟨rfl, hb4⟩
        have hS4 := hS.kept h0 hb4
        clear c0 c1 c5 c6 c7 c8 f1 f8 hgv
        have c0 := hS4.a0.cell 0
        have c1 := hS4.a1.cell 0
        have c5 := hS4.a5.cell 0
        have c6 := hS4.a6.cell 0
        have c7 := hS4.a7.cell 0
        have c8 := hS4.a8.cell 0
        have f1 := hS4.a1.frozen 0
        have f8 := hS4.a8.frozen 0
        simp only [List.getElem?_toArray, List.getElem?_cons_zero] at c0 c1 c5 c6 c7 c8
        have hk2 : W4.heap[D2]? = some (.deferred (some [])) := (hb4.block D2 (Array.getElem?_eq_some_iff.1 hK2).1).trans hK2
        have hk1 : W4.heap[D]? = some (.deferred (some [])) := (hb4.block D (Array.getElem?_eq_some_iff.1 hKD).1).trans hKD
        have k2 : (W4.setCell ⟨w.heap.size + 1, 0, none⟩ (.bool true)).heap[D2]? = some (.deferred (some [])) := (Below.heap_setCell W4 ⟨w.heap.size + 1, 0, none⟩ _ D2 (by show D2 ≠ w.heap.size + 1; omega)).trans hk2
        have k1 : (W4.setCell ⟨w.heap.size + 1, 0, none⟩ (.bool true)).heap[D]? = some (.deferred (some [])) := (Below.heap_setCell W4 ⟨w.heap.size + 1, 0, none⟩ _ D (by show D ≠ w.heap.size + 1; omega)).trans hk1
        have cr := World.cell?_setCell_same' W4 ⟨w.heap.size + 1, 0, none⟩ (.bool true) (by rw [c1]; rfl)
        have hBe := hS4.bl.setCell (p := ⟨w.heap.size + 1, 0, none⟩) (by show w.heap.size ≤ w.heap.size + 1; omega) (.bool true)
        have k1' : ((W4.setCell ⟨w.heap.size + 1, 0, none⟩ (.bool true)).putObj D2 (.deferred none)).heap[D]? = some (.deferred (some [])) := (World.putObj_heap_other (by omega)).trans k1
        have cr2 := cell_kept cr (grownBy_putObj' _ D2 (.deferred none)) (fun r e => by cases e; exact ⟨_, k2, rfl⟩)
        have cr3 := cell_kept cr2 (grownBy_putObj' _ D (.deferred none)) (fun r e => by cases e; exact ⟨_, k1', rfl⟩)
        have hBe2 := hBe.trans (belowK_b (w := w) (Nat.le_refl _) _ D2 _ (.deferred none) (by omega) k2 rfl rfl)
        have hBe3 := hBe2.trans (belowK_b (w := w) (Nat.le_refl _) _ D _ (.deferred none) (by omega) k1' rfl rfl)
        gi_wp2
        refine ⟨by simp, .inl ⟨_, _, rfl, run_takeDeferred k2, ?_⟩⟩
        refine ⟨by simp, .inl ⟨_, _, rfl, run_takeDeferred k1', ?_⟩⟩
        refine ⟨.bool true, ?_, rfl, hBe3⟩
        simp [results, Tryd.f6, go_sem, cr3]
      case stop =>
        rintro D2 c pre W hD2 hpre ⟨-, h⟩ hK2
        exact absurd hpre h
  have hz : b8 < W7.heap.size := hS7.a8.lt
  refine range_held (n := 3) (by decide) (gf := 24) (lb := #[.pointer (some ⟨w1.heap.size + 1 + 1, 0, none⟩)]) rfl (enters_of Tryd.func24 (by kernel_rfl) rfl)
    (runs_held (3 - 1) (by decide) (w1.heap.size + 1 + 1) w.heap.size (W7.heap.size + 1 + 1) x hx h0 W7 hS7.bl.size (Nat.lt_of_lt_of_le h0 hS7.bl.size) (Nat.le_refl _) hS7.tb hS7.ax) (Below.refl _ _) (fun _ => rfl) Held.trans (fun W r r' h => Held.turn h (by omega) (by omega) (by omega))
    (fun pre W => Hid (k < 0 ∨ (pre.length : Int) ≤ k) ∧ RunsSt w x k (.slice ao N cap) (.slice bo N cap2) w1.heap.size b8 ((pre.length : Nat) : Int) W)
    (fun c pre W => (c = .ret ∧ ¬ pre <+: starts x) ∨ (c = .exit 0 ∧ RunsSt w x k (.slice ao N cap) (.slice bo N cap2) w1.heap.size b8 k W))
    (fun _ X Y row ⟨h1, h2⟩ hg hr => ⟨h1, h2.own h0 (by omega) hg hr⟩)
    (fun _ _ X Y row h hg hr => by rcases h with h | h; exact .inl h; exact .inr ⟨h.1, h.2.own h0 (by omega) hg hr⟩)
    ⟨by show _ ∨ _; simp; omega, hS7⟩
    (fun p => { tmps := #[.int .u64 (x : Int), .int .i64 k, undef, .pointer (some ⟨w.heap.size, 0, none⟩), .pointer (some ⟨w.heap.size + 1, 0, none⟩), .pointer (some ⟨w1.heap.size, 0, none⟩), .pointer (some ⟨w1.heap.size + 1, 0, none⟩), .pointer (some ⟨w1.heap.size + 1 + 1 + 1, 0, none⟩), .pointer (some ⟨b8, 0, none⟩), .int .i64 ((p % 64 : Nat) : Int), .int .i64 ((runLen x (p % 64) : Nat) : Int), undef, undef, .tuple #[.slice ao N cap, .slice bo N cap2], .int .u64 (x : Int), .tuple #[.slice ao N cap, .slice bo N cap2], .slice ao N cap, .slice bo N cap2, .int .u64 (x : Int), seqR (w1.heap.size + 1 + 1), seqR (w1.heap.size + 1 + 1), .bool false, .bool false, j23, j24, j25, .bool true, .bool false, .bool false, seqR (w1.heap.size + 1 + 1), .int .i64 ((p % 64 : Nat) : Int), .int .i64 ((runLen x (p % 64) : Nat) : Int), undef, undef, undef, undef, undef, undef, undef, undef, undef, undef, undef, undef, undef, undef, undef, undef, undef, undef, undef, undef, undef, undef, undef, undef, undef, undef, undef, undef, undef, undef, undef, undef, undef, undef, undef, undef, undef, undef, undef, undef, undef, undef, undef, undef, undef, undef, undef, undef, undef, undef, undef, undef, undef, undef, undef, undef, undef, undef, undef, undef, undef, undef, undef, undef, undef, undef, undef, undef, undef, undef, undef, undef, undef, undef, undef, undef, undef, undef, undef, undef], defers := [] })
    ?assign ?body ?done ?stop
  case assign =>
    intro l p W K hK
    rw [encR]
    try dsimp only at hK
    generalize runLen x (p % 64) = r at *
    generalize p % 64 = q at *
    gi_wp2
    exact hK
  case body =>
    intro l pre p W hll ⟨hk, hS⟩ hlt
    obtain ⟨g, ca, h, cb, P, hv, hu, hg, hh, cg, ch, hne⟩ := pair_at hS.ls hS.lm hlt
    obtain ⟨rfl, -, rfl⟩ : ao = some ⟨g, 0, none⟩ ∧ N = (starts x).length ∧ cap = ca := by simpa using hv
    obtain ⟨rfl, -, rfl⟩ : bo = some ⟨h, 0, none⟩ ∧ N = (starts x).length ∧ cap2 = cb := by simpa using hu
    have hlen : pre.length < N := hN.out ▸ hlt
    have hne' : Hid _ := hne p
    clear hne hv hu
    try dsimp only
    have c0 := hS.a0.cell 0
    have c1 := hS.a1.cell 0
    have c5 := hS.a5.cell 0
    have c6 := hS.a6.cell 0
    have c7 := hS.a7.cell 0
    have c8 := hS.a8.cell 0
    have f1 := hS.a1.frozen 0
    have f8 := hS.a8.frozen 0
    simp only [List.getElem?_toArray, List.getElem?_cons_zero] at c0 c1 c5 c6 c7 c8
    by_cases he : p % 64 = P
    · subst he
      generalize hrd : runLen x (p % 64) = r at *
      generalize p % 64 = q at *
      clear hrd hne'
      by_cases hkk : (pre.length : Int) = k
      · have hS' : RunsSt w x k (.slice (some ⟨g, 0, none⟩) N cap) (.slice (some ⟨h, 0, none⟩) N cap2) w1.heap.size b8 k W := by rw [← hkk]; rw [← hkk] at hS; exact hS
        have hkk' : ((pre.length : Int) == k) = true := by simpa using hkk
        clear hkk hk
        gi_wp2
        exact ⟨KeepsFrom.refl _ _, Held.refl _ _ _ _, .inr ⟨rfl, hS'⟩⟩
      · have hkk' : ((pre.length : Int) == k) = false := by simpa using hkk
        have hk2 : Hid (k < 0 ∨ ((pre ++ [p]).length : Int) ≤ k) := by have := hk.out; show _ ∨ _; simp; omega
        have hS2 := hS.put h0 hG h8g (((pre ++ [p]).length : Nat) : Int)
        have ePl : ((((pre ++ [p]).length : Nat)) : Int) = (pre.length : Int) + 1 := by simp
        rw [ePl] at hS2
        have ePh : Hid _ := ePl
        clear hk ePl hkk
        gi_wp2
        refine ⟨(KeepsOthers.setCell _ _ _).from _, Held.setCell (b := b8) _ _ (by omega) (by omega) (by omega), hk2, ?_⟩
        rw [ePh.out]
        exact hS2
    · have hout : Hid _ := hne'.out he
      generalize runLen x (p % 64) = r at *
      generalize runLen x P = r' at *
      generalize p % 64 = q at *
      have he' : ((q : Int) != (P : Int)) = true := by simp; omega
      clear hne'
      clear hk
      gi_wp2
      all_goals (try (exfalso; exact undef_bool (by assumption)))
      exact ⟨(KeepsOthers.setCell _ _ _).from _, Held.setCell (b := w.heap.size + 1) _ _ (by omega) (by omega) (by omega), .inl ⟨rfl, hout.out⟩⟩
  case done =>
    rintro D xs W hD hxs ⟨hk, hS⟩ hK
    refine rest D W N (by omega) ?_ (.inr rfl) hK
    rw [show xs.length = N by rw [hxs]; exact hN.out] at hS
    exact hS
  case stop =>
    rintro D c pre W hD hpre hX hK
    rcases hX with ⟨-, h⟩ | ⟨rfl, hS⟩
    · exact absurd hpre h
    · gi_wp2
      exact rest D W k (by omega) hS (.inl rfl) hK

theorem wordsRuns_walk (x : Int) (hx : (Lit.int .u64 x).wf = true) (k : Int) (_ : (Lit.int .i64 k).wf = true) (w : World) (hT : Tab w) (h0 : 0 < w.heap.size) :
    Calls Tryd.prog 6 #[.int .u64 x, .int .i64 k] w fun e w' => e = .returned (.bool true) ∧ Below w.heap.size w w' := by
  obtain ⟨c0, c1⟩ := wf_u64 hx
  obtain ⟨X, rfl⟩ := Int.eq_ofNat_of_zero_le c0
  exact callsIn_wide.1 (runsLaw_in X k (by omega) w hT h0)
end Go.Proofs.YtkoillfkillohaaDoor
