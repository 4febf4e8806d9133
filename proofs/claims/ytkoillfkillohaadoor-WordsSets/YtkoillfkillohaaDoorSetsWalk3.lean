/-
  The walk of quarrylaw03.WordsSets.
-/
import Derived.Test.YtkoillfkillohaaDoorSetsKit
import Derived.Laws.EntriesVeiled
namespace Go.Proofs.YtkoillfkillohaaDoor
open Go.RowKit Go.Shelf

attribute [local go_sem] Oper.semAt_some

theorem undef_bool {b : Bool} (h : some undef = some (Value.bool b)) : False := by first | (cases h; done) | (simp [undef] at h)
theorem places_five : places 5 = [0, 2] := by decide +kernel

set_option maxRecDepth 100000 in
set_option maxHeartbeats 2000000 in
theorem sets_in (x : Nat) (k : Int) (hx : x < 18446744073709551616) (w : World) (hT : Tab w) (h0 : 0 < w.heap.size) :
    CallsIn Fence.wide 3 Tryd.prog 5 #[.int .u64 (x : Int), .int .i64 k] w fun e w' => e = .returned (.bool true) ∧ Below w.heap.size w w' := by
  have hnf : ∀ (f : Fn) (a b : Array Value) (w : World), Sem.run Tryd.prog (binOp BinOp.eql 31 (.func f a b) .nilFunc) w = .ok (.bool false) w := fun _ _ _ _ => by rfl
  refine callsIn_of_wp_marks Tryd.func5 rfl trivial ?_ rfl
  simp only [Tryd.ntmps5, List.size_toArray, List.length_cons, List.length_nil, Nat.reduceAdd, Nat.reduceSub, Array.replicate_succ, Array.replicate_zero, List.push_toArray, List.append_toArray, List.nil_append, List.cons_append]
  gi_wp2_with fail
  refine ⟨trivial, ?_⟩
  refine (callsIn_wide.2 (refEach_calls x hx _)).mono ?_
  rintro e w1 ⟨v, rfl, hrow, hb1⟩
  have b0 : At w1 w.heap.size #[.int .i64 k] 3 := ((At.new w _ _).alloc _).keptAll hb1
  have b1 : At w1 (w.heap.size + 1) #[.bool false] 4 := by
    have h := (At.new (w.alloc (.cells #[.int .i64 k] 3)) #[.bool false] 4).keptAll hb1
    simpa using h
  have hB1 : Below w.heap.size w w1 := by
    refine Below.trans ?_ (hb1.mono (by simp; omega))
    repeat (first | with_reducible exact Below.refl _ _ | with_reducible refine Below.setCell ?_ (by first | (simp; done) | (simp; omega)) _ | with_reducible refine below_drewN ?_ _ | with_reducible refine Below.alloc ?_ (by first | (simp; done) | (simp; omega)) _ | with_reducible refine Below.drew ?_)
  have hG : w.heap.size + 1 + 1 ≤ w1.heap.size := by have := hb1.size; simpa using this
  have l1 := lst_of_row hrow
  simp only [World.size_alloc] at l1
  clear hrow hb1
  obtain ⟨N, hN⟩ : ∃ N, Hid ((places x).length = N) := ⟨_, rfl⟩
  have hNl : N ≤ 64 := hN.out ▸ places_len_le x
  obtain ⟨ao, cap, hv, -⟩ : ∃ (ao : Option Addr) (cap : Nat), v = .slice ao N cap ∧ True := by
    obtain ⟨ao, cap, h, _⟩ := l1
    exact ⟨ao, cap, by rw [h, hN.out], trivial⟩
  subst hv
  gi_wp2_with fail
  refine ⟨trivial, ?_⟩
  refine (callsIn_wide.2 (each_calls x _)).mono ?_
  rintro e w2 ⟨rfl, hw2⟩
  obtain ⟨W3, hW3⟩ : ∃ W3, W3 = w2.alloc (.cells #[seqE (w1.heap.size + 1)] 31) := ⟨_, rfl⟩
  have hw1b : (w1.alloc (.cells #[.slice ao N cap] 28)).heap.size = w1.heap.size + 1 := by simp
  have hw2b : w2.heap.size = w1.heap.size + 1 + 1 := by rw [hw2]; simp
  have hbe : Below w1.heap.size w1 W3 := by rw [hW3, hw2]; repeat (first | with_reducible exact Below.refl _ _ | with_reducible refine Below.setCell ?_ (by first | (simp; done) | (simp; omega)) _ | with_reducible refine below_drewN ?_ _ | with_reducible refine Below.alloc ?_ (by first | (simp; done) | (simp; omega)) _ | with_reducible refine Below.drew ?_)
  have s5 : At W3 w1.heap.size #[.slice ao N cap] 28 := by rw [hW3, hw2]; exact ((At.new w1 _ _).alloc _).alloc _
  have sx : At W3 (w1.heap.size + 1) #[.int .u64 (x : Int)] 22 := by
    have h := (At.new (w1.alloc (.cells #[.slice ao N cap] 28)) #[.int .u64 (x : Int)] 22).alloc (.cells #[seqE (w1.heap.size + 1)] 31)
    rw [hW3, hw2]; simpa using h
  have s6 : At W3 (w1.heap.size + 1 + 1) #[seqE (w1.heap.size + 1)] 31 := by
    have h := At.new w2 #[seqE (w1.heap.size + 1)] 31
    rw [hw2b] at h; rw [hW3]; exact h
  have hz3 : W3.heap.size = w1.heap.size + 1 + 1 + 1 := by rw [hW3]; simp [hw2b]
  have t0 := b0.keptAll hbe
  have t1 := b1.keptAll hbe
  have l3 := l1.kept hbe (Nat.le_refl _)
  have hB3 := hB1.trans (hbe.mono hB1.size)
  have hT3 := hT.below hB3 h0
  rw [hw1b]
  have hw2h : Hid _ := hw2b
  have hW3h : Hid _ := hW3
  clear hw2b hW3 hw2 hw1b hbe
  gi_wp2_with fail
  rw [← hW3h.out, hw2h.out]
  clear hW3h hw2h
  refine ⟨trivial, ?_⟩
  refine (callsIn_wide.2 (each_calls 5 _)).mono ?_
  rintro e w4 ⟨rfl, hw4⟩
  have hw4b : w4.heap.size = W3.heap.size + 1 := by rw [hw4]; simp
  obtain ⟨W5, hW5⟩ : ∃ W5, W5 = w4.alloc (.cells #[.int .i64 0, .int .i64 2] 3) := ⟨_, rfl⟩
  have hb5 : Below W3.heap.size W3 W5 := by rw [hW5, hw4]; repeat (first | with_reducible exact Below.refl _ _ | with_reducible refine Below.setCell ?_ (by first | (simp; done) | (simp; omega)) _ | with_reducible refine below_drewN ?_ _ | with_reducible refine Below.alloc ?_ (by first | (simp; done) | (simp; omega)) _ | with_reducible refine Below.drew ?_)
  have hz5 : W5.heap.size = W3.heap.size + 1 + 1 := by rw [hW5]; simp [hw4b]
  have q5 : At W5 W3.heap.size #[.int .u64 5] 22 := by rw [hW5, hw4]; exact (At.new W3 _ _).alloc _
  have r5 : At W5 w4.heap.size #[.int .i64 0, .int .i64 2] 3 := by rw [hW5]; exact At.new w4 _ _
  have hT5 := hT3.below hb5 (by omega)
  have l5 : Lst W5 (.slice (some ⟨w4.heap.size, 0, none⟩) 2 2) 0 W5.heap.size (places 5) := by
    rw [places_five]
    refine ⟨_, 2, rfl, fun j p hj => ⟨w4.heap.size, rfl, Nat.zero_le _, r5.lt, ?_⟩⟩
    have hc := r5.cell j
    match j, hj with
    | 0, hj => simp at hj; subst hj; simpa using hc
    | 1, hj => simp at hj; subst hj; simpa using hc
  have hw4h : Hid _ := hw4b
  have hW5h : Hid _ := hW5
  have hz3h : Hid _ := hz3
  have hz5h : Hid _ := hz5
  have q5c := q5.cell 0
  simp only [List.getElem?_toArray, List.getElem?_cons_zero] at q5c
  clear hw4b hw4 hW5 hz3 hz5
  gi_wp2_with fail
  refine ⟨trivial, ?_⟩
  rw [← hW5h.out]
  have hz3 := hz3h.out
  have hz5 := hz5h.out
  refine (callsIn_wide.2 (gives_calls 5 W3.heap.size (by decide) _ 0 W5.heap.size W5 hT5 (by omega) (by omega) (Nat.le_refl _) q5c l5)).mono ?_
  rintro e w6 ⟨rfl, hb6⟩
  have hb36 := hb5.trans (hb6.mono hb5.size)
  clear hw4h hW5h l5 r5 q5 q5c hb6 hT5
  have hz6 : W3.heap.size ≤ w6.heap.size := hb36.size
  have hS7 : SetsAt w x k (.slice ao N cap) w1.heap.size w6.heap.size 0 (w6.alloc (.cells #[.int .i64 0] 3)) :=
    ⟨(t0.keptAll hb36).alloc _, (t1.keptAll hb36).alloc _, (s5.keptAll hb36).alloc _, (sx.keptAll hb36).alloc _, (s6.keptAll hb36).alloc _, At.new w6 _ _,
      (l3.kept hb36 (by omega)).kept ((Below.refl w6.heap.size w6).alloc (Nat.le_refl _) _) (by omega), hT3.below (hb36.trans ((Below.refl _ w6).alloc (by omega) _)) (by omega), (hB3.trans (hb36.mono hB3.size)).alloc (by have := hB3.size; omega) _⟩
  have hz7 : (w6.alloc (.cells #[.int .i64 0] 3)).heap.size = w6.heap.size + 1 := by simp
  have h7g : w1.heap.size + 1 + 1 < w6.heap.size := by omega
  have c6 := (s6.keptAll hb36).alloc (.cells #[.int .i64 0] 3)
  replace c6 := c6.cell 0
  simp only [List.getElem?_toArray, List.getElem?_cons_zero] at c6
  have hz7h : Hid _ := hz7
  clear t0 t1 s5 sx s6 l3 l1 hb5 hb36 hT3 hB3 b0 b1 hB1 hz3 hz5 hz3h hz5h hz6 hz7
  obtain ⟨W7, hW7⟩ : ∃ W7, Hid (W7 = w6.alloc (.cells #[.int .i64 0] 3)) := ⟨_, rfl⟩
  gi_wp2_with fail
  rw [← hW7.out]
  rw [← hW7.out] at hS7
  clear hz7h hW7 c6
  generalize w6.heap.size = b7 at *
  generalize (Value.func (.func 22) #[] #[.pointer (some ⟨W3.heap.size, 0, none⟩)]) = j17 at *
  generalize (Value.slice (some ⟨w4.heap.size, 0, none⟩) 2 2) = j18 at *
  rename_i K hKr
  have rest : ∀ (D : Nat) (W : World) (n : Int), b7 < D → SetsAt w x k (.slice ao N cap) w1.heap.size b7 n W → (n = k ∨ n = (N : Int)) → W.heap[D]? = some (.deferred (some [])) → K { tmps := #[.int .u64 (x : Int), .int .i64 k, undef, .pointer (some ⟨w.heap.size, 0, none⟩), .pointer (some ⟨w.heap.size + 1, 0, none⟩), .pointer (some ⟨w1.heap.size, 0, none⟩), .pointer (some ⟨w1.heap.size + 1 + 1, 0, none⟩), .pointer (some ⟨b7, 0, none⟩), undef, undef, .int .u64 (x : Int), .slice ao N cap, .int .u64 (x : Int), seqE (w1.heap.size + 1), seqE (w1.heap.size + 1), .bool false, .bool false, j17, j18, .bool true, .bool false, .bool false, seqE (w1.heap.size + 1), undef, undef, undef, undef, undef, undef, undef, undef, undef, undef, undef, undef, undef, undef, undef, undef, undef, undef, undef, undef, undef, undef, undef, undef, undef, undef, undef, undef, undef, undef, undef, undef, undef, undef, undef, undef, undef, undef, undef, undef, undef, undef, undef, undef, undef, undef, undef, undef, undef, undef, undef, undef, undef, undef, undef, undef, undef, undef, undef, undef, undef, undef], defers := [{ target := .collected D, args := #[] }] } W := by
    intro D W n hD hS hn hK
    refine hKr _ _ ?_
    clear hKr
    have c0 := hS.a0.cell 0
    have c1 := hS.a1.cell 0
    have c5 := hS.a5.cell 0
    have c6 := hS.a6.cell 0
    have c7 := hS.a7.cell 0
    have f1 := hS.a1.frozen 0
    have f7 := hS.a7.frozen 0
    simp only [List.getElem?_toArray, List.getElem?_cons_zero] at c0 c1 c5 c6 c7
    have hS0 := hS.put h0 hG h7g 0
    have hKd : (W.setCell ⟨b7, 0, none⟩ (.int .i64 0)).heap[D]? = some (.deferred (some [])) := (Below.heap_setCell W ⟨b7, 0, none⟩ _ D (by show D ≠ b7; omega)).trans hK
    have c6' := hS0.a6.cell 0
    simp only [List.getElem?_toArray, List.getElem?_cons_zero] at c6'
    by_cases hnk : n = k
    · have hnk' : (n != k) = false := by simpa using hnk
      gi_wp2_with fail
      have hDl : D < W.heap.size := (Array.getElem?_eq_some_iff.1 hK).1
      have hDl0 : D < (W.setCell ⟨b7, 0, none⟩ (.int .i64 0)).heap.size := by simpa using hDl
      clear c0 c1 c5 c6 c7 f1 f7 c6' hK hS hDl
      generalize W.setCell ⟨b7, 0, none⟩ (.int .i64 0) = W0 at *
      have hz : b7 < W0.heap.size := hS0.a7.lt
      refine wpIn_rangeFunc_ownH rfl (n := 3) (by decide) (gf := 22) (lb := #[.pointer (some ⟨w1.heap.size + 1, 0, none⟩)]) rfl trivial (enters_of Tryd.func22 (by kernel_rfl) rfl)
        (each_stops (3 - 1) (w1.heap.size + 1) w.heap.size x hx h0 W0 hS0.ax.lt (Nat.lt_of_lt_of_le h0 hS0.bl.size) hS0.tb (hS0.ax.cell 0)) belowK_t (belowK_b hS0.bl.size) (Below.refl _ _) (fun _ => rfl)
        (fun pre W => SetsAt w x k (.slice ao N cap) w1.heap.size b7 ((pre.length : Nat) : Int) W ∧ W.heap[D]? = some (.deferred (some [])))
        (fun c pre W => c = .ret ∧ ¬ pre <+: places x)
        (fun _ X Y row h2 hg hr => ⟨h2.1.own h0 (by omega) hg hr, (hg.block D (Array.getElem?_eq_some_iff.1 h2.2).1 (fun e => by have := (hr D e.symm).1; omega)).trans h2.2⟩)
        (fun _ _ X Y row h hg hr => h)
        ⟨hS0, hKd⟩
        (fun p a' _ => ∃ q : Nat, Hid (q = p % 64) ∧ a' = { tmps := #[.int .u64 (x : Int), .int .i64 k, undef, .pointer (some ⟨w.heap.size, 0, none⟩), .pointer (some ⟨w.heap.size + 1, 0, none⟩), .pointer (some ⟨w1.heap.size, 0, none⟩), .pointer (some ⟨w1.heap.size + 1 + 1, 0, none⟩), .pointer (some ⟨b7, 0, none⟩), undef, .int .i64 (q : Int), .int .u64 (x : Int), .slice ao N cap, .int .u64 (x : Int), seqE (w1.heap.size + 1), seqE (w1.heap.size + 1), .bool false, .bool false, j17, j18, .bool true, .bool false, .bool false, seqE (w1.heap.size + 1), undef, undef, undef, undef, undef, undef, undef, undef, undef, undef, undef, undef, undef, undef, undef, undef, undef, undef, .int .i64 k, .int .i64 k, .bool false, .bool false, undef, undef, undef, undef, .bool false, seqE (w1.heap.size + 1), .int .i64 (q : Int), undef, undef, undef, undef, undef, undef, undef, undef, undef, undef, undef, undef, undef, undef, undef, undef, undef, undef, undef, undef, undef, undef, undef, undef, undef, undef, undef, undef, undef, undef, undef, undef, undef], defers := [] })
        (fun _ _ _ _ _ _ hs _ _ => hs) ?assign ?body ?done ?stop
      case assign =>
        intro l pre p W K hI hK
        obtain ⟨q, hq⟩ : ∃ q, Hid (q = p % 64) := ⟨_, rfl⟩
        rw [encE, ← hq.out]
        have hK' := fun a' => hK a' W (KeepsFrom.refl _ _) (Below.refl _ _) hI
        clear hK
        gi_wp2
        exact ⟨q, hq, rfl⟩
      case body =>
        rintro l pre p a' W hll ⟨rec, hrec⟩ ⟨hS, hKD⟩ ⟨q, hq, rfl⟩ hlt
        obtain ⟨g, cap', P, hv, cg, hne⟩ := hS.num hlt
        obtain ⟨rfl, -, rfl⟩ : ao = some ⟨g, 0, none⟩ ∧ N = (places x).length ∧ cap = cap' := by simpa using hv
        have hne' : Hid (q ≠ P → ¬ pre ++ [p] <+: places x) := fun h => hne p (by rw [← hq.out]; exact h)
        have hlen : pre.length < N := hN.out ▸ hlt
        clear hne hv
        have c0 := hS.a0.cell 0
        have c1 := hS.a1.cell 0
        have c5 := hS.a5.cell 0
        have c6 := hS.a6.cell 0
        have c7 := hS.a7.cell 0
        have f1 := hS.a1.frozen 0
        have f7 := hS.a7.frozen 0
        simp only [List.getElem?_toArray, List.getElem?_cons_zero] at c0 c1 c5 c6 c7
        by_cases he : q = P
        · subst he
          have ePl : ((((pre ++ [p]).length : Nat)) : Int) = (pre.length : Int) + 1 := by simp
          have ePh : Hid _ := ePl
          clear ePl
          by_cases h3 : pre.length < 3
          · have hgv : Hid (Calls Tryd.prog 15 #[seqE (w1.heap.size + 1), .slice (some ⟨g, 0, none⟩) N cap] W fun e w' => e = .returned (.bool true) ∧ Below W.heap.size W w') :=
              gives_calls x (w1.heap.size + 1) hx _ _ _ W hS.tb (Nat.lt_of_lt_of_le h0 hS.bl.size) hS.ax.lt (Nat.le_of_lt hS.a5.lt) (hS.ax.cell 0) hS.ls
            gi_wp2_with fail
            refine ⟨trivial, ?_⟩
            refine (CallsIn.inRound l (callsIn_wide.2 hgv.out)).mono ?_
            rintro e W4 ⟨rfl, hb4⟩
            have hS4 := hS.kept h0 hb4
            have kf : KeepsFrom W0.heap.size W W4 := (keeps_below hb4).from _
            have hKD4 : W4.heap[D]? = some (.deferred (some [])) := (hb4.block D (Array.getElem?_eq_some_iff.1 hKD).1).trans hKD
            have hKD5 : (W4.setCell ⟨b7, 0, none⟩ (.int .i64 ((pre.length : Int) + 1))).heap[D]? = some (.deferred (some [])) := (Below.heap_setCell W4 ⟨b7, 0, none⟩ _ D (by show D ≠ b7; omega)).trans hKD4
            have hbl4 : Below w.heap.size W W4 := hb4.mono hS.bl.size
            clear c0 c1 c5 c6 c7 f1 f7 cg hgv hb4
            have c0 := hS4.a0.cell 0
            have c1 := hS4.a1.cell 0
            have c5 := hS4.a5.cell 0
            have c6 := hS4.a6.cell 0
            have c7 := hS4.a7.cell 0
            have f1 := hS4.a1.frozen 0
            have f7 := hS4.a7.frozen 0
            simp only [List.getElem?_toArray, List.getElem?_cons_zero] at c0 c1 c5 c6 c7
            have hS5 := hS4.put h0 hG h7g ((pre.length : Int) + 1)
            gi_wp2
            refine ⟨kf.trans ((KeepsOthers.setCell _ _ _).from _), hbl4.setCell (p := ⟨b7, 0, none⟩) (by show w.heap.size ≤ b7; omega) _, ?_, hKD5⟩
            rw [ePh.out]
            exact hS5
          · have h3' : ¬ (pre.length : Int) < 3 := by omega
            have hS5 := hS.put h0 hG h7g ((pre.length : Int) + 1)
            have hKD5 : (W.setCell ⟨b7, 0, none⟩ (.int .i64 ((pre.length : Int) + 1))).heap[D]? = some (.deferred (some [])) := (Below.heap_setCell W ⟨b7, 0, none⟩ _ D (by show D ≠ b7; omega)).trans hKD
            gi_wp2_with fail
            all_goals (try (refine ⟨trivial, ?_⟩))
            all_goals (try gi_wp2)
            refine ⟨(KeepsOthers.setCell _ _ _).from _, (Below.refl _ W).setCell (p := ⟨b7, 0, none⟩) (by show w.heap.size ≤ b7; omega) _, ?_, hKD5⟩
            rw [ePh.out]
            exact hS5
        · have he' : ((q : Int) != (P : Int)) = true := by simp; omega
          gi_wp2_with fail
          all_goals (try (exfalso; exact undef_bool (by assumption)))
          all_goals (try (refine ⟨trivial, ?_⟩))
          all_goals (try gi_wp2)
          exact ⟨(KeepsOthers.setCell _ _ _).from _, rfl, hne'.out he⟩
      case done =>
        rintro D2 xs W hD2 hxs ⟨hS, hKD⟩ hK2
        rw [show xs.length = N by rw [hxs]; exact hN.out] at hS
        have hgv : Hid (Calls Tryd.prog 15 #[seqE (w1.heap.size + 1), .slice ao N cap] W fun e w' => e = .returned (.bool true) ∧ Below W.heap.size W w') :=
          gives_calls x (w1.heap.size + 1) hx _ _ _ W hS.tb (Nat.lt_of_lt_of_le h0 hS.bl.size) hS.ax.lt (Nat.le_of_lt hS.a5.lt) (hS.ax.cell 0) hS.ls
        have c0 := hS.a0.cell 0
        have c1 := hS.a1.cell 0
        have c5 := hS.a5.cell 0
        have c6 := hS.a6.cell 0
        have c7 := hS.a7.cell 0
        have f1 := hS.a1.frozen 0
        have f7 := hS.a7.frozen 0
        simp only [List.getElem?_toArray, List.getElem?_cons_zero] at c0 c1 c5 c6 c7
        gi_wp2_with fail
        refine ⟨trivial, ?_⟩
        refine (callsIn_wide.2 hgv.out).mono ?_
        rintro e W4 ⟨rfl, hb4⟩
        have hS4 := hS.kept h0 hb4
        clear c0 c1 c5 c6 c7 f1 f7 hgv
        have c0 := hS4.a0.cell 0
        have c1 := hS4.a1.cell 0
        have c5 := hS4.a5.cell 0
        have c6 := hS4.a6.cell 0
        have c7 := hS4.a7.cell 0
        have f1 := hS4.a1.frozen 0
        have f7 := hS4.a7.frozen 0
        simp only [List.getElem?_toArray, List.getElem?_cons_zero] at c0 c1 c5 c6 c7
        have hk2 : W4.heap[D2]? = some (.deferred (some [])) := (hb4.block D2 (Array.getElem?_eq_some_iff.1 hK2).1).trans hK2
        have hk1 : W4.heap[D]? = some (.deferred (some [])) := (hb4.block D (Array.getElem?_eq_some_iff.1 hKD).1).trans hKD
        have k2 : (W4.setCell ⟨w.heap.size + 1, 0, none⟩ (.bool true)).heap[D2]? = some (.deferred (some [])) := (Below.heap_setCell W4 ⟨w.heap.size + 1, 0, none⟩ _ D2 (by show D2 ≠ w.heap.size + 1; omega)).trans hk2
        have k1 : (W4.setCell ⟨w.heap.size + 1, 0, none⟩ (.bool true)).heap[D]? = some (.deferred (some [])) := (Below.heap_setCell W4 ⟨w.heap.size + 1, 0, none⟩ _ D (by show D ≠ w.heap.size + 1; omega)).trans hk1
        have cr := World.cell?_setCell_same' W4 ⟨w.heap.size + 1, 0, none⟩ (.bool true) (by rw [c1]; rfl)
        have hBe := hS4.bl.setCell (p := ⟨w.heap.size + 1, 0, none⟩) (by show w.heap.size ≤ w.heap.size + 1; omega) (.bool true)
        have k1' : ((W4.setCell ⟨w.heap.size + 1, 0, none⟩ (.bool true)).putObj D2 (.deferred none)).heap[D]? = some (.deferred (some [])) := (World.putObj_heap_other (by omega)).trans k1
        have cr2 := cell_kept cr (grownBy_putObj' _ D2 (.deferred none)) (fun r e => by cases e; exact ⟨_, k2, rfl⟩)
        have cr3 := cell_kept cr2 (grownBy_putObj' _ D (.deferred none)) (fun r e => by cases e; exact ⟨_, k1', rfl⟩)
        have hBe2 := hBe.trans (belowK_b (w := w) (Nat.le_refl _) _ D2 _ (.deferred none) (by omega) k2 rfl rfl)
        have hBe3 := hBe2.trans (belowK_b (w := w) (Nat.le_refl _) _ D _ (.deferred none) (by omega) k1' rfl rfl)
        gi_wp2
        refine ⟨by simp, .inl ⟨_, _, rfl, run_takeDeferred k2, ?_⟩⟩
        refine ⟨by simp, .inl ⟨_, _, rfl, run_takeDeferred k1', ?_⟩⟩
        refine ⟨.bool true, ?_, rfl, hBe3⟩
        simp [results, Tryd.f5, go_sem, cr3]
      case stop =>
        rintro D2 c pre W hD2 hpre ⟨-, h⟩ hK2
        exact absurd hpre h
    · obtain rfl : n = (N : Int) := by omega
      have hnk' : ((N : Int) != k) = true := by simpa using hnk
      gi_wp2_with fail
      have hDl : D < W.heap.size := (Array.getElem?_eq_some_iff.1 hK).1
      have hDl0 : D < (W.setCell ⟨b7, 0, none⟩ (.int .i64 0)).heap.size := by simpa using hDl
      clear c0 c1 c5 c6 c7 f1 f7 c6' hK hS hDl
      generalize W.setCell ⟨b7, 0, none⟩ (.int .i64 0) = W0 at *
      have hz : b7 < W0.heap.size := hS0.a7.lt
      refine wpIn_rangeFunc_ownH rfl (n := 3) (by decide) (gf := 22) (lb := #[.pointer (some ⟨w1.heap.size + 1, 0, none⟩)]) rfl trivial (enters_of Tryd.func22 (by kernel_rfl) rfl)
        (each_stops (3 - 1) (w1.heap.size + 1) w.heap.size x hx h0 W0 hS0.ax.lt (Nat.lt_of_lt_of_le h0 hS0.bl.size) hS0.tb (hS0.ax.cell 0)) belowK_t (belowK_b hS0.bl.size) (Below.refl _ _) (fun _ => rfl)
        (fun pre W => SetsAt w x k (.slice ao N cap) w1.heap.size b7 ((pre.length : Nat) : Int) W ∧ W.heap[D]? = some (.deferred (some [])))
        (fun c pre W => c = .ret ∧ ¬ pre <+: places x)
        (fun _ X Y row h2 hg hr => ⟨h2.1.own h0 (by omega) hg hr, (hg.block D (Array.getElem?_eq_some_iff.1 h2.2).1 (fun e => by have := (hr D e.symm).1; omega)).trans h2.2⟩)
        (fun _ _ X Y row h hg hr => h)
        ⟨hS0, hKd⟩
        (fun p a' _ => ∃ q : Nat, Hid (q = p % 64) ∧ a' = { tmps := #[.int .u64 (x : Int), .int .i64 k, undef, .pointer (some ⟨w.heap.size, 0, none⟩), .pointer (some ⟨w.heap.size + 1, 0, none⟩), .pointer (some ⟨w1.heap.size, 0, none⟩), .pointer (some ⟨w1.heap.size + 1 + 1, 0, none⟩), .pointer (some ⟨b7, 0, none⟩), undef, .int .i64 (q : Int), .int .u64 (x : Int), .slice ao N cap, .int .u64 (x : Int), seqE (w1.heap.size + 1), seqE (w1.heap.size + 1), .bool false, .bool false, j17, j18, .bool true, .bool false, .bool false, seqE (w1.heap.size + 1), undef, undef, undef, undef, undef, undef, undef, undef, undef, undef, undef, undef, undef, undef, undef, undef, undef, undef, .int .i64 (N : Int), .int .i64 k, .bool true, .bool true, .int .i64 (N : Int), .slice ao N cap, .int .i64 (N : Int), .bool false, .bool false, seqE (w1.heap.size + 1), .int .i64 (q : Int), undef, undef, undef, undef, undef, undef, undef, undef, undef, undef, undef, undef, undef, undef, undef, undef, undef, undef, undef, undef, undef, undef, undef, undef, undef, undef, undef, undef, undef, undef, undef, undef, undef], defers := [] })
        (fun _ _ _ _ _ _ hs _ _ => hs) ?assign ?body ?done ?stop
      case assign =>
        intro l pre p W K hI hK
        obtain ⟨q, hq⟩ : ∃ q, Hid (q = p % 64) := ⟨_, rfl⟩
        rw [encE, ← hq.out]
        have hK' := fun a' => hK a' W (KeepsFrom.refl _ _) (Below.refl _ _) hI
        clear hK
        gi_wp2
        exact ⟨q, hq, rfl⟩
      case body =>
        rintro l pre p a' W hll ⟨rec, hrec⟩ ⟨hS, hKD⟩ ⟨q, hq, rfl⟩ hlt
        obtain ⟨g, cap', P, hv, cg, hne⟩ := hS.num hlt
        obtain ⟨rfl, -, rfl⟩ : ao = some ⟨g, 0, none⟩ ∧ N = (places x).length ∧ cap = cap' := by simpa using hv
        have hne' : Hid (q ≠ P → ¬ pre ++ [p] <+: places x) := fun h => hne p (by rw [← hq.out]; exact h)
        have hlen : pre.length < N := hN.out ▸ hlt
        clear hne hv
        have c0 := hS.a0.cell 0
        have c1 := hS.a1.cell 0
        have c5 := hS.a5.cell 0
        have c6 := hS.a6.cell 0
        have c7 := hS.a7.cell 0
        have f1 := hS.a1.frozen 0
        have f7 := hS.a7.frozen 0
        simp only [List.getElem?_toArray, List.getElem?_cons_zero] at c0 c1 c5 c6 c7
        by_cases he : q = P
        · subst he
          have ePl : ((((pre ++ [p]).length : Nat)) : Int) = (pre.length : Int) + 1 := by simp
          have ePh : Hid _ := ePl
          clear ePl
          by_cases h3 : pre.length < 3
          · have hgv : Hid (Calls Tryd.prog 15 #[seqE (w1.heap.size + 1), .slice (some ⟨g, 0, none⟩) N cap] W fun e w' => e = .returned (.bool true) ∧ Below W.heap.size W w') :=
              gives_calls x (w1.heap.size + 1) hx _ _ _ W hS.tb (Nat.lt_of_lt_of_le h0 hS.bl.size) hS.ax.lt (Nat.le_of_lt hS.a5.lt) (hS.ax.cell 0) hS.ls
            gi_wp2_with fail
            refine ⟨trivial, ?_⟩
            refine (CallsIn.inRound l (callsIn_wide.2 hgv.out)).mono ?_
            rintro e W4 ⟨rfl, hb4⟩
            have hS4 := hS.kept h0 hb4
            have kf : KeepsFrom W0.heap.size W W4 := (keeps_below hb4).from _
            have hKD4 : W4.heap[D]? = some (.deferred (some [])) := (hb4.block D (Array.getElem?_eq_some_iff.1 hKD).1).trans hKD
            have hKD5 : (W4.setCell ⟨b7, 0, none⟩ (.int .i64 ((pre.length : Int) + 1))).heap[D]? = some (.deferred (some [])) := (Below.heap_setCell W4 ⟨b7, 0, none⟩ _ D (by show D ≠ b7; omega)).trans hKD4
            have hbl4 : Below w.heap.size W W4 := hb4.mono hS.bl.size
            clear c0 c1 c5 c6 c7 f1 f7 cg hgv hb4
            have c0 := hS4.a0.cell 0
            have c1 := hS4.a1.cell 0
            have c5 := hS4.a5.cell 0
            have c6 := hS4.a6.cell 0
            have c7 := hS4.a7.cell 0
            have f1 := hS4.a1.frozen 0
            have f7 := hS4.a7.frozen 0
            simp only [List.getElem?_toArray, List.getElem?_cons_zero] at c0 c1 c5 c6 c7
            have hS5 := hS4.put h0 hG h7g ((pre.length : Int) + 1)
            gi_wp2
            refine ⟨kf.trans ((KeepsOthers.setCell _ _ _).from _), hbl4.setCell (p := ⟨b7, 0, none⟩) (by show w.heap.size ≤ b7; omega) _, ?_, hKD5⟩
            rw [ePh.out]
            exact hS5
          · have h3' : ¬ (pre.length : Int) < 3 := by omega
            have hS5 := hS.put h0 hG h7g ((pre.length : Int) + 1)
            have hKD5 : (W.setCell ⟨b7, 0, none⟩ (.int .i64 ((pre.length : Int) + 1))).heap[D]? = some (.deferred (some [])) := (Below.heap_setCell W ⟨b7, 0, none⟩ _ D (by show D ≠ b7; omega)).trans hKD
            gi_wp2_with fail
            all_goals (try (refine ⟨trivial, ?_⟩))
            all_goals (try gi_wp2)
            refine ⟨(KeepsOthers.setCell _ _ _).from _, (Below.refl _ W).setCell (p := ⟨b7, 0, none⟩) (by show w.heap.size ≤ b7; omega) _, ?_, hKD5⟩
            rw [ePh.out]
            exact hS5
        · have he' : ((q : Int) != (P : Int)) = true := by simp; omega
          gi_wp2_with fail
          all_goals (try (exfalso; exact undef_bool (by assumption)))
          all_goals (try (refine ⟨trivial, ?_⟩))
          all_goals (try gi_wp2)
          exact ⟨(KeepsOthers.setCell _ _ _).from _, rfl, hne'.out he⟩
      case done =>
        rintro D2 xs W hD2 hxs ⟨hS, hKD⟩ hK2
        rw [show xs.length = N by rw [hxs]; exact hN.out] at hS
        have hgv : Hid (Calls Tryd.prog 15 #[seqE (w1.heap.size + 1), .slice ao N cap] W fun e w' => e = .returned (.bool true) ∧ Below W.heap.size W w') :=
          gives_calls x (w1.heap.size + 1) hx _ _ _ W hS.tb (Nat.lt_of_lt_of_le h0 hS.bl.size) hS.ax.lt (Nat.le_of_lt hS.a5.lt) (hS.ax.cell 0) hS.ls
        have c0 := hS.a0.cell 0
        have c1 := hS.a1.cell 0
        have c5 := hS.a5.cell 0
        have c6 := hS.a6.cell 0
        have c7 := hS.a7.cell 0
        have f1 := hS.a1.frozen 0
        have f7 := hS.a7.frozen 0
        simp only [List.getElem?_toArray, List.getElem?_cons_zero] at c0 c1 c5 c6 c7
        gi_wp2_with fail
        refine ⟨trivial, ?_⟩
        refine (callsIn_wide.2 hgv.out).mono ?_
        rintro e W4 ⟨rfl, hb4⟩
        have hS4 := hS.kept h0 hb4
        clear c0 c1 c5 c6 c7 f1 f7 hgv
        have c0 := hS4.a0.cell 0
        have c1 := hS4.a1.cell 0
        have c5 := hS4.a5.cell 0
        have c6 := hS4.a6.cell 0
        have c7 := hS4.a7.cell 0
        have f1 := hS4.a1.frozen 0
        have f7 := hS4.a7.frozen 0
        simp only [List.getElem?_toArray, List.getElem?_cons_zero] at c0 c1 c5 c6 c7
        have hk2 : W4.heap[D2]? = some (.deferred (some [])) := (hb4.block D2 (Array.getElem?_eq_some_iff.1 hK2).1).trans hK2
        have hk1 : W4.heap[D]? = some (.deferred (some [])) := (hb4.block D (Array.getElem?_eq_some_iff.1 hKD).1).trans hKD
        have k2 : (W4.setCell ⟨w.heap.size + 1, 0, none⟩ (.bool true)).heap[D2]? = some (.deferred (some [])) := (Below.heap_setCell W4 ⟨w.heap.size + 1, 0, none⟩ _ D2 (by show D2 ≠ w.heap.size + 1; omega)).trans hk2
        have k1 : (W4.setCell ⟨w.heap.size + 1, 0, none⟩ (.bool true)).heap[D]? = some (.deferred (some [])) := (Below.heap_setCell W4 ⟨w.heap.size + 1, 0, none⟩ _ D (by show D ≠ w.heap.size + 1; omega)).trans hk1
        have cr := World.cell?_setCell_same' W4 ⟨w.heap.size + 1, 0, none⟩ (.bool true) (by rw [c1]; rfl)
        have hBe := hS4.bl.setCell (p := ⟨w.heap.size + 1, 0, none⟩) (by show w.heap.size ≤ w.heap.size + 1; omega) (.bool true)
        have k1' : ((W4.setCell ⟨w.heap.size + 1, 0, none⟩ (.bool true)).putObj D2 (.deferred none)).heap[D]? = some (.deferred (some [])) := (World.putObj_heap_other (by omega)).trans k1
        have cr2 := cell_kept cr (grownBy_putObj' _ D2 (.deferred none)) (fun r e => by cases e; exact ⟨_, k2, rfl⟩)
        have cr3 := cell_kept cr2 (grownBy_putObj' _ D (.deferred none)) (fun r e => by cases e; exact ⟨_, k1', rfl⟩)
        have hBe2 := hBe.trans (belowK_b (w := w) (Nat.le_refl _) _ D2 _ (.deferred none) (by omega) k2 rfl rfl)
        have hBe3 := hBe2.trans (belowK_b (w := w) (Nat.le_refl _) _ D _ (.deferred none) (by omega) k1' rfl rfl)
        gi_wp2
        refine ⟨by simp, .inl ⟨_, _, rfl, run_takeDeferred k2, ?_⟩⟩
        refine ⟨by simp, .inl ⟨_, _, rfl, run_takeDeferred k1', ?_⟩⟩
        refine ⟨.bool true, ?_, rfl, hBe3⟩
        simp [results, Tryd.f5, go_sem, cr3]
      case stop =>
        rintro D2 c pre W hD2 hpre ⟨-, h⟩ hK2
        exact absurd hpre h
  have hz : b7 < W7.heap.size := hS7.a7.lt
  refine wpIn_rangeFunc_ownH rfl (n := 3) (by decide) (gf := 22) (lb := #[.pointer (some ⟨w1.heap.size + 1, 0, none⟩)]) rfl trivial (enters_of Tryd.func22 (by kernel_rfl) rfl)
    (each_stops (3 - 1) (w1.heap.size + 1) w.heap.size x hx h0 W7 hS7.ax.lt (Nat.lt_of_lt_of_le h0 hS7.bl.size) hS7.tb (hS7.ax.cell 0)) belowK_t (belowK_b hS7.bl.size) (Below.refl _ _) (fun _ => rfl)
    (fun pre W => Hid (k < 0 ∨ (pre.length : Int) ≤ k) ∧ SetsAt w x k (.slice ao N cap) w1.heap.size b7 ((pre.length : Nat) : Int) W)
    (fun c pre W => (c = .ret ∧ ¬ pre <+: places x) ∨ (c = .exit 0 ∧ SetsAt w x k (.slice ao N cap) w1.heap.size b7 k W))
    (fun _ X Y row ⟨h1, h2⟩ hg hr => ⟨h1, h2.own h0 (by omega) hg hr⟩)
    (fun _ _ X Y row h hg hr => by rcases h with h | h; exact .inl h; exact .inr ⟨h.1, h.2.own h0 (by omega) hg hr⟩)
    ⟨by show _ ∨ _; simp; omega, hS7⟩
    (fun p a' _ => ∃ q : Nat, Hid (q = p % 64) ∧ a' = { tmps := #[.int .u64 (x : Int), .int .i64 k, undef, .pointer (some ⟨w.heap.size, 0, none⟩), .pointer (some ⟨w.heap.size + 1, 0, none⟩), .pointer (some ⟨w1.heap.size, 0, none⟩), .pointer (some ⟨w1.heap.size + 1 + 1, 0, none⟩), .pointer (some ⟨b7, 0, none⟩), .int .i64 (q : Int), undef, .int .u64 (x : Int), .slice ao N cap, .int .u64 (x : Int), seqE (w1.heap.size + 1), seqE (w1.heap.size + 1), .bool false, .bool false, j17, j18, .bool true, .bool false, .bool false, seqE (w1.heap.size + 1), .int .i64 (q : Int), undef, undef, undef, undef, undef, undef, undef, undef, undef, undef, undef, undef, undef, undef, undef, undef, undef, undef, undef, undef, undef, undef, undef, undef, undef, undef, undef, undef, undef, undef, undef, undef, undef, undef, undef, undef, undef, undef, undef, undef, undef, undef, undef, undef, undef, undef, undef, undef, undef, undef, undef, undef, undef, undef, undef, undef, undef, undef, undef, undef, undef], defers := [] })
    (fun _ _ _ _ _ _ hs _ _ => hs) ?assign ?body ?done ?stop
  case assign =>
    intro l pre p W K hI hK
    obtain ⟨q, hq⟩ : ∃ q, Hid (q = p % 64) := ⟨_, rfl⟩
    rw [encE, ← hq.out]
    have hK' := fun a' => hK a' W (KeepsFrom.refl _ _) (Below.refl _ _) hI
    clear hK
    gi_wp2
    exact ⟨q, hq, rfl⟩
  case body =>
    rintro l pre p a' W hll ⟨rec, hrec⟩ ⟨hk, hS⟩ ⟨q, hq, rfl⟩ hlt
    obtain ⟨g, cap', P, hv, cg, hne⟩ := hS.num hlt
    obtain ⟨rfl, -, rfl⟩ : ao = some ⟨g, 0, none⟩ ∧ N = (places x).length ∧ cap = cap' := by simpa using hv
    have hne' : Hid (q ≠ P → ¬ pre ++ [p] <+: places x) := fun h => hne p (by rw [← hq.out]; exact h)
    have hlen : pre.length < N := hN.out ▸ hlt
    clear hne hv
    have c0 := hS.a0.cell 0
    have c1 := hS.a1.cell 0
    have c5 := hS.a5.cell 0
    have c6 := hS.a6.cell 0
    have c7 := hS.a7.cell 0
    have f1 := hS.a1.frozen 0
    have f7 := hS.a7.frozen 0
    simp only [List.getElem?_toArray, List.getElem?_cons_zero] at c0 c1 c5 c6 c7
    by_cases he : q = P
    · subst he
      by_cases hkk : (pre.length : Int) = k
      · have hS' : SetsAt w x k (.slice (some ⟨g, 0, none⟩) N cap) w1.heap.size b7 k W := by rw [← hkk]; rw [← hkk] at hS; exact hS
        have hkk' : ((pre.length : Int) == k) = true := by simpa using hkk
        clear hkk hk
        gi_wp2
        exact ⟨KeepsFrom.refl _ _, .inr ⟨rfl, hS'⟩⟩
      · have hkk' : ((pre.length : Int) == k) = false := by simpa using hkk
        have hk2 : Hid (k < 0 ∨ ((pre ++ [p]).length : Int) ≤ k) := by have := hk.out; show _ ∨ _; simp; omega
        have hS2 := hS.put h0 hG h7g (((pre ++ [p]).length : Nat) : Int)
        have ePl : ((((pre ++ [p]).length : Nat)) : Int) = (pre.length : Int) + 1 := by simp
        rw [ePl] at hS2
        have ePh : Hid _ := ePl
        clear hk ePl hkk
        gi_wp2
        refine ⟨(KeepsOthers.setCell _ _ _).from _, (Below.refl _ W).setCell (p := ⟨b7, 0, none⟩) (by show w.heap.size ≤ b7; omega) _, hk2, ?_⟩
        rw [ePh.out]
        exact hS2
    · have he' : ((q : Int) != (P : Int)) = true := by simp; omega
      clear hk
      gi_wp2
      exact ⟨(KeepsOthers.setCell _ _ _).from _, .inl ⟨rfl, hne'.out he⟩⟩
  case done =>
    rintro D xs W hD hxs ⟨hk, hS⟩ hK
    refine rest D W N (by omega) ?_ (.inr rfl) hK
    rw [show xs.length = N by rw [hxs]; exact hN.out] at hS
    exact hS
  case stop =>
    rintro D c pre W hD hpre hX hK
    rcases hX with ⟨-, h⟩ | ⟨rfl, hS⟩
    · exact absurd hpre h
    · gi_wp2
      exact rest D W k (by omega) hS (.inl rfl) hK

theorem wordsSets_walk (x : Int) (hx : (Lit.int .u64 x).wf = true) (k : Int) (_ : (Lit.int .i64 k).wf = true) (w : World) (hT : Tab w) (h0 : 0 < w.heap.size) :
    Calls Tryd.prog 5 #[.int .u64 x, .int .i64 k] w fun e w' => e = .returned (.bool true) ∧ Below w.heap.size w w' := by
  obtain ⟨c0, c1⟩ := wf_u64 hx
  obtain ⟨X, rfl⟩ := Int.eq_ofNat_of_zero_le c0
  exact callsIn_wide.1 (sets_in X k (by omega) w hT h0)
end Go.Proofs.YtkoillfkillohaaDoor
