/-
  What quarryref09.Join answers.
-/
import Derived.Test.YtdmmofdlokgfmaaDoorRefT
namespace Go.Proofs.YtdmmofdlokgfmaaDoor
open Go.RowKit Go.Shelf

set_option maxRecDepth 10000 in
set_option maxHeartbeats 4000000 in
theorem refJoin_calls (a b : Bool) (x y : Int) (a' b' : Bool) (x' y' : Int) (J : Value) (hJ : Hid (joinV a b x y a' b' x' y' = J)) (w : World) :
    Calls Tryd.prog 17 #[.agg #[.bool a, .bool b, .int .i64 x, .int .i64 y], .agg #[.bool a', .bool b', .int .i64 x', .int .i64 y']] w fun e w' => e = .returned J ∧ Below w.heap.size w w' := by
  obtain ⟨F, hF⟩ : ∃ F, Hid (formB a b x y = F) := ⟨_, rfl⟩
  obtain ⟨G, hG⟩ : ∃ G, Hid (formB a' b' x' y' = G) := ⟨_, rfl⟩
  have hfc := hid (fun (w1 : World) => refForm_calls a b x y F hF w1)
  have hgc := hid (fun (w1 : World) => refForm_calls a' b' x' y' G hG w1)
  go_enter Tryd.func17, Tryd.ntmps17
  go_wp2_with fail
  refine Calls.mono (hfc.out _) ?_
  rintro e w1 ⟨rfl, hb1⟩
  obtain ⟨U, hU⟩ : ∃ U, (((w.alloc (.cells #[.bool a, .bool b, .int .i64 x, .int .i64 y] 33)).alloc (.cells #[.bool a', .bool b', .int .i64 x', .int .i64 y'] 33)).alloc (.cells #[.bool false, .bool false, .int .i64 0, .int .i64 0] 33)).alloc (.cells #[.bool false, .bool false, .int .i64 0, .int .i64 0] 33) = U := ⟨_, rfl⟩
  have p0 : At U w.heap.size #[.bool a, .bool b, .int .i64 x, .int .i64 y] 33 := by rw [← hU]; exact (((At.new w _ _).alloc _).alloc _).alloc _
  have q0 : At U (w.heap.size + 1) #[.bool a', .bool b', .int .i64 x', .int .i64 y'] 33 := by
    rw [← hU]
    have := ((At.new (w.alloc (.cells #[.bool a, .bool b, .int .i64 x, .int .i64 y] 33)) #[.bool a', .bool b', .int .i64 x', .int .i64 y'] 33).alloc (.cells #[.bool false, .bool false, .int .i64 0, .int .i64 0] 33)).alloc (.cells #[.bool false, .bool false, .int .i64 0, .int .i64 0] 33)
    simpa using this
  have r0 : At U (w.heap.size + 1 + 1) #[.bool false, .bool false, .int .i64 0, .int .i64 0] 33 := by
    rw [← hU]
    have := (At.new ((w.alloc (.cells #[.bool a, .bool b, .int .i64 x, .int .i64 y] 33)).alloc (.cells #[.bool a', .bool b', .int .i64 x', .int .i64 y'] 33)) #[.bool false, .bool false, .int .i64 0, .int .i64 0] 33).alloc (.cells #[.bool false, .bool false, .int .i64 0, .int .i64 0] 33)
    simpa using this
  have n0 : At U (w.heap.size + 1 + 1 + 1) #[.bool false, .bool false, .int .i64 0, .int .i64 0] 33 := by
    rw [← hU]
    have := At.new (((w.alloc (.cells #[.bool a, .bool b, .int .i64 x, .int .i64 y] 33)).alloc (.cells #[.bool a', .bool b', .int .i64 x', .int .i64 y'] 33)).alloc (.cells #[.bool false, .bool false, .int .i64 0, .int .i64 0] 33)) #[.bool false, .bool false, .int .i64 0, .int .i64 0] 33
    simpa using this
  have hBU : Below w.heap.size w U := by rw [← hU]; repeat (first | with_reducible exact Below.refl _ _ | with_reducible refine Below.setCell ?_ (by first | (simp; done) | (simp; omega)) _ | with_reducible refine below_drewN ?_ _ | with_reducible refine Below.alloc ?_ (by first | (simp; done) | (simp; omega)) _ | with_reducible refine Below.drew ?_)
  rw [hU] at hb1
  have p1 := hid (p0.keptAll hb1)
  have q1 := hid (q0.keptAll hb1)
  have r1 := hid (r0.keptAll hb1)
  have n1 := hid (n0.keptAll hb1)
  have hB1 := hid (hBU.trans (hb1.mono hBU.size))
  clear p0 q0 r0 n0 hBU hb1 hU
  obtain ⟨⟨c0, c1, c2, c3⟩, f0, f1, f2, f3⟩ := q1.out.facts9
  go_wp2_with fail
  refine Calls.mono (hgc.out _) ?_
  rintro e w2 ⟨rfl, hb2⟩
  clear c0 c1 c2 c3 f0 f1 f2 f3
  have p3 := hid (p1.out.keptAll hb2)
  have q3 := hid (q1.out.keptAll hb2)
  have r3 := hid (r1.out.keptAll hb2)
  have m0 := hid (n1.out.keptAll hb2)
  have hB3 := hid (hB1.out.trans (hb2.mono hB1.out.size))
  clear p1 q1 r1 n1 hB1 hb2
  obtain ⟨m, hm⟩ : ∃ m, w.heap.size + 1 + 1 + 1 = m := ⟨_, rfl⟩
  have hml := hid (show w.heap.size + 1 + 1 < m by omega)
  rw [hm] at m0 ⊢
  clear hm
  by_cases hFG : (F && G) = true
  · obtain ⟨rfl, rfl⟩ : F = true ∧ G = true := by simpa using hFG
    obtain ⟨hx, hy⟩ := formB_state hF.out
    have hz := hJ.out
    rw [joinV, hF.out, hG.out, Bool.and_self, if_pos rfl] at hz
    obtain ⟨u0, hu0⟩ : ∃ u, pickB x a' b' = u := ⟨_, rfl⟩
    obtain ⟨u1, hu1⟩ : ∃ u, pickB y a' b' = u := ⟨_, rfl⟩
    obtain ⟨s0, hs0⟩ : ∃ u, pickI x x' y' = u := ⟨_, rfl⟩
    obtain ⟨s1, hs1⟩ : ∃ u, pickI y x' y' = u := ⟨_, rfl⟩
    rw [hu0, hu1, hs0, hs1] at hz
    clear hJ hfc hgc hF hG hFG
    have hz' := hid hz
    clear hz
    rcases hx with rfl | rfl <;> rcases hy with rfl | rfl
    all_goals
      simp only [pickB, pickI, if_true, Int.one_ne_zero, if_false] at hu0 hu1 hs0 hs1
      subst hu0 hu1 hs0 hs1
      go_wp2
    · go_loopw [8] (fun  i wr => ∃ (k : Nat) (A : Array Value), i = .int .i64 (k : Int) ∧ Hid (At wr w.heap.size #[.bool a, .bool b, .int .i64 0, .int .i64 0] 33 ∧ At wr (w.heap.size + 1) #[.bool a', .bool b', .int .i64 x', .int .i64 y'] 33 ∧ At wr (w.heap.size + 1 + 1) #[.bool false, .bool false, .int .i64 0, .int .i64 0] 33 ∧ At wr m A 33 ∧ Below w.heap.size w wr) ∧ Hid (k = 0 ∧ A = #[.bool false, .bool false, .int .i64 0, .int .i64 0] ∨ k = 1 ∧ A = #[.bool (!(a == a')), .bool false, .int .i64 x', .int .i64 0] ∨ k = 2 ∧ A = #[.bool (!(a == a')), .bool (!(b == a')), .int .i64 x', .int .i64 x'])) (fun  i _ => 2 - (intOf i).toNat)
      case atStart => exact ⟨0, _, rfl, ⟨p3.out, q3.out, r3.out, m0.out, hB3.out⟩, .inl ⟨rfl, rfl⟩⟩
      case round =>
        obtain ⟨k, A, rfl, hW, hk⟩ := hrel
        rcases hk.out with ⟨rfl, rfl⟩ | ⟨rfl, rfl⟩ | ⟨rfl, rfl⟩
        · obtain ⟨⟨c0, c1, c2, c3⟩, -⟩ := hW.out.1.facts9
          obtain ⟨⟨d0, d1, d2, d3⟩, -⟩ := hW.out.2.1.facts9
          obtain ⟨⟨e0, e1, e2, e3⟩, f0, f1, f2, f3⟩ := hW.out.2.2.2.1.facts9
          clear hk
          go_wp2
          go_region
          all_goals
            go_wp2
            go_roundw
            case rel => exact ⟨1, _, by simp, ⟨(hW.out.1.other (p := ⟨m, 0, none⟩) (by have := hml.out; show w.heap.size ≠ m; omega) _).other (p := ⟨m, 2, none⟩) (by have := hml.out; show w.heap.size ≠ m; omega) _, (hW.out.2.1.other (p := ⟨m, 0, none⟩) (by have := hml.out; show w.heap.size + 1 ≠ m; omega) _).other (p := ⟨m, 2, none⟩) (by have := hml.out; show w.heap.size + 1 ≠ m; omega) _, (hW.out.2.2.1.other (p := ⟨m, 0, none⟩) (by have := hml.out; show w.heap.size + 1 + 1 ≠ m; omega) _).other (p := ⟨m, 2, none⟩) (by have := hml.out; show w.heap.size + 1 + 1 ≠ m; omega) _, (hW.out.2.2.2.1.set 0 _).set 2 _, ((show Below w.heap.size w _ from hW.out.2.2.2.2.drew).setCell (p := ⟨m, 0, none⟩) (by have := hml.out; show w.heap.size ≤ m; omega) _).setCell (p := ⟨m, 2, none⟩) (by have := hml.out; show w.heap.size ≤ m; omega) _⟩, .inr (.inl ⟨rfl, by simp⟩)⟩
            case measure => simp [intOf]
        · obtain ⟨⟨c0, c1, c2, c3⟩, -⟩ := hW.out.1.facts9
          obtain ⟨⟨d0, d1, d2, d3⟩, -⟩ := hW.out.2.1.facts9
          obtain ⟨⟨e0, e1, e2, e3⟩, f0, f1, f2, f3⟩ := hW.out.2.2.2.1.facts9
          clear hk
          go_wp2
          go_region
          all_goals
            go_wp2
            go_roundw
            case rel => exact ⟨2, _, by simp, ⟨(hW.out.1.other (p := ⟨m, 1, none⟩) (by have := hml.out; show w.heap.size ≠ m; omega) _).other (p := ⟨m, 3, none⟩) (by have := hml.out; show w.heap.size ≠ m; omega) _, (hW.out.2.1.other (p := ⟨m, 1, none⟩) (by have := hml.out; show w.heap.size + 1 ≠ m; omega) _).other (p := ⟨m, 3, none⟩) (by have := hml.out; show w.heap.size + 1 ≠ m; omega) _, (hW.out.2.2.1.other (p := ⟨m, 1, none⟩) (by have := hml.out; show w.heap.size + 1 + 1 ≠ m; omega) _).other (p := ⟨m, 3, none⟩) (by have := hml.out; show w.heap.size + 1 + 1 ≠ m; omega) _, (hW.out.2.2.2.1.set 1 _).set 3 _, ((show Below w.heap.size w _ from hW.out.2.2.2.2.drew).setCell (p := ⟨m, 1, none⟩) (by have := hml.out; show w.heap.size ≤ m; omega) _).setCell (p := ⟨m, 3, none⟩) (by have := hml.out; show w.heap.size ≤ m; omega) _⟩, .inr (.inr ⟨rfl, by simp⟩)⟩
            case measure => simp [intOf]
        · obtain ⟨⟨e0, e1, e2, e3⟩, -⟩ := hW.out.2.2.2.1.facts9
          obtain ⟨⟨d0, d1, d2, d3⟩, f0, f1, f2, f3⟩ := hW.out.2.2.1.facts9
          clear hk
          go_wp2
          refine ret_pt rfl rfl hW.out.2.2.1.four9 rfl ⟨?_, below_four hW.out.2.2.2.2 (by omega) _ _ _ _⟩
          rw [← hz'.out]
    · go_loopw [8] (fun  i wr => ∃ (k : Nat) (A : Array Value), i = .int .i64 (k : Int) ∧ Hid (At wr w.heap.size #[.bool a, .bool b, .int .i64 0, .int .i64 1] 33 ∧ At wr (w.heap.size + 1) #[.bool a', .bool b', .int .i64 x', .int .i64 y'] 33 ∧ At wr (w.heap.size + 1 + 1) #[.bool false, .bool false, .int .i64 0, .int .i64 0] 33 ∧ At wr m A 33 ∧ Below w.heap.size w wr) ∧ Hid (k = 0 ∧ A = #[.bool false, .bool false, .int .i64 0, .int .i64 0] ∨ k = 1 ∧ A = #[.bool (!(a == a')), .bool false, .int .i64 x', .int .i64 0] ∨ k = 2 ∧ A = #[.bool (!(a == a')), .bool (!(b == b')), .int .i64 x', .int .i64 y'])) (fun  i _ => 2 - (intOf i).toNat)
      case atStart => exact ⟨0, _, rfl, ⟨p3.out, q3.out, r3.out, m0.out, hB3.out⟩, .inl ⟨rfl, rfl⟩⟩
      case round =>
        obtain ⟨k, A, rfl, hW, hk⟩ := hrel
        rcases hk.out with ⟨rfl, rfl⟩ | ⟨rfl, rfl⟩ | ⟨rfl, rfl⟩
        · obtain ⟨⟨c0, c1, c2, c3⟩, -⟩ := hW.out.1.facts9
          obtain ⟨⟨d0, d1, d2, d3⟩, -⟩ := hW.out.2.1.facts9
          obtain ⟨⟨e0, e1, e2, e3⟩, f0, f1, f2, f3⟩ := hW.out.2.2.2.1.facts9
          clear hk
          go_wp2
          go_region
          all_goals
            go_wp2
            go_roundw
            case rel => exact ⟨1, _, by simp, ⟨(hW.out.1.other (p := ⟨m, 0, none⟩) (by have := hml.out; show w.heap.size ≠ m; omega) _).other (p := ⟨m, 2, none⟩) (by have := hml.out; show w.heap.size ≠ m; omega) _, (hW.out.2.1.other (p := ⟨m, 0, none⟩) (by have := hml.out; show w.heap.size + 1 ≠ m; omega) _).other (p := ⟨m, 2, none⟩) (by have := hml.out; show w.heap.size + 1 ≠ m; omega) _, (hW.out.2.2.1.other (p := ⟨m, 0, none⟩) (by have := hml.out; show w.heap.size + 1 + 1 ≠ m; omega) _).other (p := ⟨m, 2, none⟩) (by have := hml.out; show w.heap.size + 1 + 1 ≠ m; omega) _, (hW.out.2.2.2.1.set 0 _).set 2 _, ((show Below w.heap.size w _ from hW.out.2.2.2.2.drew).setCell (p := ⟨m, 0, none⟩) (by have := hml.out; show w.heap.size ≤ m; omega) _).setCell (p := ⟨m, 2, none⟩) (by have := hml.out; show w.heap.size ≤ m; omega) _⟩, .inr (.inl ⟨rfl, by simp⟩)⟩
            case measure => simp [intOf]
        · obtain ⟨⟨c0, c1, c2, c3⟩, -⟩ := hW.out.1.facts9
          obtain ⟨⟨d0, d1, d2, d3⟩, -⟩ := hW.out.2.1.facts9
          obtain ⟨⟨e0, e1, e2, e3⟩, f0, f1, f2, f3⟩ := hW.out.2.2.2.1.facts9
          clear hk
          go_wp2
          go_region
          all_goals
            go_wp2
            go_roundw
            case rel => exact ⟨2, _, by simp, ⟨(hW.out.1.other (p := ⟨m, 1, none⟩) (by have := hml.out; show w.heap.size ≠ m; omega) _).other (p := ⟨m, 3, none⟩) (by have := hml.out; show w.heap.size ≠ m; omega) _, (hW.out.2.1.other (p := ⟨m, 1, none⟩) (by have := hml.out; show w.heap.size + 1 ≠ m; omega) _).other (p := ⟨m, 3, none⟩) (by have := hml.out; show w.heap.size + 1 ≠ m; omega) _, (hW.out.2.2.1.other (p := ⟨m, 1, none⟩) (by have := hml.out; show w.heap.size + 1 + 1 ≠ m; omega) _).other (p := ⟨m, 3, none⟩) (by have := hml.out; show w.heap.size + 1 + 1 ≠ m; omega) _, (hW.out.2.2.2.1.set 1 _).set 3 _, ((show Below w.heap.size w _ from hW.out.2.2.2.2.drew).setCell (p := ⟨m, 1, none⟩) (by have := hml.out; show w.heap.size ≤ m; omega) _).setCell (p := ⟨m, 3, none⟩) (by have := hml.out; show w.heap.size ≤ m; omega) _⟩, .inr (.inr ⟨rfl, by simp⟩)⟩
            case measure => simp [intOf]
        · obtain ⟨⟨e0, e1, e2, e3⟩, -⟩ := hW.out.2.2.2.1.facts9
          obtain ⟨⟨d0, d1, d2, d3⟩, f0, f1, f2, f3⟩ := hW.out.2.2.1.facts9
          clear hk
          go_wp2
          refine ret_pt rfl rfl hW.out.2.2.1.four9 rfl ⟨?_, below_four hW.out.2.2.2.2 (by omega) _ _ _ _⟩
          rw [← hz'.out]
    · go_loopw [8] (fun  i wr => ∃ (k : Nat) (A : Array Value), i = .int .i64 (k : Int) ∧ Hid (At wr w.heap.size #[.bool a, .bool b, .int .i64 1, .int .i64 0] 33 ∧ At wr (w.heap.size + 1) #[.bool a', .bool b', .int .i64 x', .int .i64 y'] 33 ∧ At wr (w.heap.size + 1 + 1) #[.bool false, .bool false, .int .i64 0, .int .i64 0] 33 ∧ At wr m A 33 ∧ Below w.heap.size w wr) ∧ Hid (k = 0 ∧ A = #[.bool false, .bool false, .int .i64 0, .int .i64 0] ∨ k = 1 ∧ A = #[.bool (!(a == b')), .bool false, .int .i64 y', .int .i64 0] ∨ k = 2 ∧ A = #[.bool (!(a == b')), .bool (!(b == a')), .int .i64 y', .int .i64 x'])) (fun  i _ => 2 - (intOf i).toNat)
      case atStart => exact ⟨0, _, rfl, ⟨p3.out, q3.out, r3.out, m0.out, hB3.out⟩, .inl ⟨rfl, rfl⟩⟩
      case round =>
        obtain ⟨k, A, rfl, hW, hk⟩ := hrel
        rcases hk.out with ⟨rfl, rfl⟩ | ⟨rfl, rfl⟩ | ⟨rfl, rfl⟩
        · obtain ⟨⟨c0, c1, c2, c3⟩, -⟩ := hW.out.1.facts9
          obtain ⟨⟨d0, d1, d2, d3⟩, -⟩ := hW.out.2.1.facts9
          obtain ⟨⟨e0, e1, e2, e3⟩, f0, f1, f2, f3⟩ := hW.out.2.2.2.1.facts9
          clear hk
          go_wp2
          go_region
          all_goals
            go_wp2
            go_roundw
            case rel => exact ⟨1, _, by simp, ⟨(hW.out.1.other (p := ⟨m, 0, none⟩) (by have := hml.out; show w.heap.size ≠ m; omega) _).other (p := ⟨m, 2, none⟩) (by have := hml.out; show w.heap.size ≠ m; omega) _, (hW.out.2.1.other (p := ⟨m, 0, none⟩) (by have := hml.out; show w.heap.size + 1 ≠ m; omega) _).other (p := ⟨m, 2, none⟩) (by have := hml.out; show w.heap.size + 1 ≠ m; omega) _, (hW.out.2.2.1.other (p := ⟨m, 0, none⟩) (by have := hml.out; show w.heap.size + 1 + 1 ≠ m; omega) _).other (p := ⟨m, 2, none⟩) (by have := hml.out; show w.heap.size + 1 + 1 ≠ m; omega) _, (hW.out.2.2.2.1.set 0 _).set 2 _, ((show Below w.heap.size w _ from hW.out.2.2.2.2.drew).setCell (p := ⟨m, 0, none⟩) (by have := hml.out; show w.heap.size ≤ m; omega) _).setCell (p := ⟨m, 2, none⟩) (by have := hml.out; show w.heap.size ≤ m; omega) _⟩, .inr (.inl ⟨rfl, by simp⟩)⟩
            case measure => simp [intOf]
        · obtain ⟨⟨c0, c1, c2, c3⟩, -⟩ := hW.out.1.facts9
          obtain ⟨⟨d0, d1, d2, d3⟩, -⟩ := hW.out.2.1.facts9
          obtain ⟨⟨e0, e1, e2, e3⟩, f0, f1, f2, f3⟩ := hW.out.2.2.2.1.facts9
          clear hk
          go_wp2
          go_region
          all_goals
            go_wp2
            go_roundw
            case rel => exact ⟨2, _, by simp, ⟨(hW.out.1.other (p := ⟨m, 1, none⟩) (by have := hml.out; show w.heap.size ≠ m; omega) _).other (p := ⟨m, 3, none⟩) (by have := hml.out; show w.heap.size ≠ m; omega) _, (hW.out.2.1.other (p := ⟨m, 1, none⟩) (by have := hml.out; show w.heap.size + 1 ≠ m; omega) _).other (p := ⟨m, 3, none⟩) (by have := hml.out; show w.heap.size + 1 ≠ m; omega) _, (hW.out.2.2.1.other (p := ⟨m, 1, none⟩) (by have := hml.out; show w.heap.size + 1 + 1 ≠ m; omega) _).other (p := ⟨m, 3, none⟩) (by have := hml.out; show w.heap.size + 1 + 1 ≠ m; omega) _, (hW.out.2.2.2.1.set 1 _).set 3 _, ((show Below w.heap.size w _ from hW.out.2.2.2.2.drew).setCell (p := ⟨m, 1, none⟩) (by have := hml.out; show w.heap.size ≤ m; omega) _).setCell (p := ⟨m, 3, none⟩) (by have := hml.out; show w.heap.size ≤ m; omega) _⟩, .inr (.inr ⟨rfl, by simp⟩)⟩
            case measure => simp [intOf]
        · obtain ⟨⟨e0, e1, e2, e3⟩, -⟩ := hW.out.2.2.2.1.facts9
          obtain ⟨⟨d0, d1, d2, d3⟩, f0, f1, f2, f3⟩ := hW.out.2.2.1.facts9
          clear hk
          go_wp2
          refine ret_pt rfl rfl hW.out.2.2.1.four9 rfl ⟨?_, below_four hW.out.2.2.2.2 (by omega) _ _ _ _⟩
          rw [← hz'.out]
    · go_loopw [8] (fun  i wr => ∃ (k : Nat) (A : Array Value), i = .int .i64 (k : Int) ∧ Hid (At wr w.heap.size #[.bool a, .bool b, .int .i64 1, .int .i64 1] 33 ∧ At wr (w.heap.size + 1) #[.bool a', .bool b', .int .i64 x', .int .i64 y'] 33 ∧ At wr (w.heap.size + 1 + 1) #[.bool false, .bool false, .int .i64 0, .int .i64 0] 33 ∧ At wr m A 33 ∧ Below w.heap.size w wr) ∧ Hid (k = 0 ∧ A = #[.bool false, .bool false, .int .i64 0, .int .i64 0] ∨ k = 1 ∧ A = #[.bool (!(a == b')), .bool false, .int .i64 y', .int .i64 0] ∨ k = 2 ∧ A = #[.bool (!(a == b')), .bool (!(b == b')), .int .i64 y', .int .i64 y'])) (fun  i _ => 2 - (intOf i).toNat)
      case atStart => exact ⟨0, _, rfl, ⟨p3.out, q3.out, r3.out, m0.out, hB3.out⟩, .inl ⟨rfl, rfl⟩⟩
      case round =>
        obtain ⟨k, A, rfl, hW, hk⟩ := hrel
        rcases hk.out with ⟨rfl, rfl⟩ | ⟨rfl, rfl⟩ | ⟨rfl, rfl⟩
        · obtain ⟨⟨c0, c1, c2, c3⟩, -⟩ := hW.out.1.facts9
          obtain ⟨⟨d0, d1, d2, d3⟩, -⟩ := hW.out.2.1.facts9
          obtain ⟨⟨e0, e1, e2, e3⟩, f0, f1, f2, f3⟩ := hW.out.2.2.2.1.facts9
          clear hk
          go_wp2
          go_region
          all_goals
            go_wp2
            go_roundw
            case rel => exact ⟨1, _, by simp, ⟨(hW.out.1.other (p := ⟨m, 0, none⟩) (by have := hml.out; show w.heap.size ≠ m; omega) _).other (p := ⟨m, 2, none⟩) (by have := hml.out; show w.heap.size ≠ m; omega) _, (hW.out.2.1.other (p := ⟨m, 0, none⟩) (by have := hml.out; show w.heap.size + 1 ≠ m; omega) _).other (p := ⟨m, 2, none⟩) (by have := hml.out; show w.heap.size + 1 ≠ m; omega) _, (hW.out.2.2.1.other (p := ⟨m, 0, none⟩) (by have := hml.out; show w.heap.size + 1 + 1 ≠ m; omega) _).other (p := ⟨m, 2, none⟩) (by have := hml.out; show w.heap.size + 1 + 1 ≠ m; omega) _, (hW.out.2.2.2.1.set 0 _).set 2 _, ((show Below w.heap.size w _ from hW.out.2.2.2.2.drew).setCell (p := ⟨m, 0, none⟩) (by have := hml.out; show w.heap.size ≤ m; omega) _).setCell (p := ⟨m, 2, none⟩) (by have := hml.out; show w.heap.size ≤ m; omega) _⟩, .inr (.inl ⟨rfl, by simp⟩)⟩
            case measure => simp [intOf]
        · obtain ⟨⟨c0, c1, c2, c3⟩, -⟩ := hW.out.1.facts9
          obtain ⟨⟨d0, d1, d2, d3⟩, -⟩ := hW.out.2.1.facts9
          obtain ⟨⟨e0, e1, e2, e3⟩, f0, f1, f2, f3⟩ := hW.out.2.2.2.1.facts9
          clear hk
          go_wp2
          go_region
          all_goals
            go_wp2
            go_roundw
            case rel => exact ⟨2, _, by simp, ⟨(hW.out.1.other (p := ⟨m, 1, none⟩) (by have := hml.out; show w.heap.size ≠ m; omega) _).other (p := ⟨m, 3, none⟩) (by have := hml.out; show w.heap.size ≠ m; omega) _, (hW.out.2.1.other (p := ⟨m, 1, none⟩) (by have := hml.out; show w.heap.size + 1 ≠ m; omega) _).other (p := ⟨m, 3, none⟩) (by have := hml.out; show w.heap.size + 1 ≠ m; omega) _, (hW.out.2.2.1.other (p := ⟨m, 1, none⟩) (by have := hml.out; show w.heap.size + 1 + 1 ≠ m; omega) _).other (p := ⟨m, 3, none⟩) (by have := hml.out; show w.heap.size + 1 + 1 ≠ m; omega) _, (hW.out.2.2.2.1.set 1 _).set 3 _, ((show Below w.heap.size w _ from hW.out.2.2.2.2.drew).setCell (p := ⟨m, 1, none⟩) (by have := hml.out; show w.heap.size ≤ m; omega) _).setCell (p := ⟨m, 3, none⟩) (by have := hml.out; show w.heap.size ≤ m; omega) _⟩, .inr (.inr ⟨rfl, by simp⟩)⟩
            case measure => simp [intOf]
        · obtain ⟨⟨e0, e1, e2, e3⟩, -⟩ := hW.out.2.2.2.1.facts9
          obtain ⟨⟨d0, d1, d2, d3⟩, f0, f1, f2, f3⟩ := hW.out.2.2.1.facts9
          clear hk
          go_wp2
          refine ret_pt rfl rfl hW.out.2.2.1.four9 rfl ⟨?_, below_four hW.out.2.2.2.2 (by omega) _ _ _ _⟩
          rw [← hz'.out]
  · have hz : J = .agg #[.bool false, .bool false, .int .i64 0, .int .i64 0] := by rw [← hJ.out, joinV, hF.out, hG.out, if_neg hFG]
    obtain ⟨⟨c0, c1, c2, c3⟩, f0, f1, f2, f3⟩ := r3.out.facts9
    obtain ⟨⟨d0, d1, d2, d3⟩, -⟩ := m0.out.facts9
    clear hJ hfc hgc hF hG
    cases F with
    | false =>
      go_wp2
      refine ret_pt rfl rfl r3.out.four9 rfl ⟨?_, below_four hB3.out (by omega) _ _ _ _⟩
      rw [hz]
    | true =>
      obtain rfl : G = false := by simpa using hFG
      go_wp2
      refine ret_pt rfl rfl r3.out.four9 rfl ⟨?_, below_four hB3.out (by omega) _ _ _ _⟩
      rw [hz]
end Go.Proofs.YtdmmofdlokgfmaaDoor
