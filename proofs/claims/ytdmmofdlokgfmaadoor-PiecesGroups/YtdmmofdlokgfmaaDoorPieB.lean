/-
  What pieces.Formed and pieces.Join answer.
-/
import Derived.Test.YtdmmofdlokgfmaaDoorPieA
namespace Go.Proofs.YtdmmofdlokgfmaaDoor
open Go.RowKit Go.Shelf

theorem eqB2 (d : Nat) (a b c e : Bool) (u : World) : (Op.equalIn (d + 2) 30 (.agg #[.bool a, .bool b]) (.agg #[.bool c, .bool e])).run Tryd.prog u = .ok (a == c && b == e) u := by
  cases a <;> cases b <;> cases c <;> cases e <;> kernel_rfl
theorem eqI2 (d : Nat) (x y x' y' : Int) (u : World) : (Op.equalIn (d + 2) 31 (.agg #[.int .i64 x, .int .i64 y]) (.agg #[.int .i64 x', .int .i64 y'])).run Tryd.prog u = .ok (x == x' && y == y') u := by
  rw [run_equalIn_fun u d 31 3 2 .i64 Tryd.underlying31 Tryd.underlying3 (fun _ => by kernel_rfl) _ _ (fun i => if i = 0 then x else y) (fun i => if i = 0 then x' else y')
    (fun i hi => by obtain rfl | rfl : i = 0 ∨ i = 1 := by omega
                    all_goals rfl) (fun i hi => by obtain rfl | rfl : i = 0 ∨ i = 1 := by omega
                                                   all_goals rfl)]
  simp [List.range_succ]
set_option maxRecDepth 20000 in
theorem eqPt (a b c e : Bool) (x y x' y' : Int) (u : World) : (Op.equalIn 10000 33 (.agg #[.bool a, .bool b, .int .i64 x, .int .i64 y]) (.agg #[.bool c, .bool e, .int .i64 x', .int .i64 y'])).run Tryd.prog u = .ok ((a == c && b == e) && (x == x' && y == y')) u := by
  have hf : ((Tryd.prog.fieldsOf 33).toList.map fun f => (decide (f.name ≠ "_"), f.type, f.offset)) = [(true, 30, 0), (true, 31, 2)] := by kernel_rfl
  rw [run_equalIn_struct u 9999 33 _ _ Tryd.underlying33 (by kernel_rfl)]
  generalize (Tryd.prog.fieldsOf 33).toList = fs at hf
  obtain ⟨f0, fs1, rfl, h0, hf1⟩ := List.map_eq_cons_iff.1 hf
  obtain ⟨f1, fs2, rfl, h1, hf2⟩ := List.map_eq_cons_iff.1 hf1
  obtain rfl := List.map_eq_nil_iff.1 hf2
  simp only [Prod.mk.injEq] at h0 h1
  obtain ⟨n0, t0, o0⟩ := h0
  obtain ⟨n1, t1, o1⟩ := h1
  have q0 : ∀ v0 v1 v2 v3, (Go.part 30 #[v0, v1, v2, v3] 0).run Tryd.prog u = .ok (.agg #[v0, v1]) u := fun _ _ _ _ => by kernel_rfl
  have q1 : ∀ v0 v1 v2 v3, (Go.part 31 #[v0, v1, v2, v3] 2).run Tryd.prog u = .ok (.agg #[v2, v3]) u := fun _ _ _ _ => by kernel_rfl
  have b1 := eqB2 9997 a b c e u
  have b2 := eqI2 9997 x y x' y' u
  simp only [Nat.reduceAdd] at b1 b2
  simp only [Op.eqFields, if_pos (of_decide_eq_true n0), if_pos (of_decide_eq_true n1), t0, o0, t1, o1, Sem.run_bind, q0, Result.andThen_ok, b1]
  cases (a == c && b == e)
  · simp
  · simp only [Bool.not_true, Bool.false_eq_true, if_false, Sem.run_bind, q1, Result.andThen_ok, b2, Bool.true_and]
    cases (x == x' && y == y') <;> simp
theorem bne_int (x y : Int) : (x != y) = !(x == y) := rfl
set_option maxRecDepth 10000 in
set_option maxHeartbeats 2000000 in
theorem formed9_calls (a b : Bool) (x y : Int) (F : Bool) (hF : Hid (formB a b x y = F)) (w : World) :
    Calls Tryd.prog 13 #[.agg #[.bool a, .bool b, .int .i64 x, .int .i64 y]] w fun e w' => e = .returned (.bool F) ∧ Below w.heap.size w w' := by
  have hix0 : ∀ (x y : Value) (u : World), (Instr.index 31 (.agg #[x, y]) (.int .i64 0)).run Tryd.prog u = .ok x u := fun _ _ _ => by kernel_rfl
  have hix1 : ∀ (x y : Value) (u : World), (Instr.index 31 (.agg #[x, y]) (.int .i64 1)).run Tryd.prog u = .ok y u := fun _ _ _ => by kernel_rfl
  have heb : ∀ (a b c e : Bool) (u : World), (Op.equalIn 10000 30 (.agg #[.bool a, .bool b]) (.agg #[.bool c, .bool e])).run Tryd.prog u = .ok (a == c && b == e) u := eqB2 9998
  go_enter Tryd.func13, Tryd.ntmps13
  go_wp2
  go_loop [4, 7] (fun _ i => ∃ k : Nat, i = .int .i64 (k : Int) ∧ Hid (k = 0 ∨ (k = 1 ∧ (x = 0 ∨ x = 1)) ∨ (k = 2 ∧ (x = 0 ∨ x = 1) ∧ (y = 0 ∨ y = 1)))) (fun _ i => 2 - (intOf i).toNat)
  case atStart => exact ⟨0, rfl, .inl rfl⟩
  case round =>
    obtain ⟨k, rfl, hk⟩ := hrel
    rcases hk.out with rfl | ⟨rfl, hx⟩ | ⟨rfl, hx, hy⟩
    · by_cases x0 : x = 0
      · subst x0
        go_wp2
        go_round
        case rel => exact ⟨1, by simp, .inr (.inl ⟨rfl, by simp⟩)⟩
        case measure => simp [intOf]
      · by_cases x1 : x = 1
        · subst x1
          go_wp2
          go_round
          case rel => exact ⟨1, by simp, .inr (.inl ⟨rfl, by simp⟩)⟩
          case measure => simp [intOf]
        · have e0 : (x != 0) = true := by simpa using x0
          have e1 : (x != 1) = true := by simpa using x1
          have g0 : (x == 0) = false := by simpa using x0
          have g1 : (x == 1) = false := by simpa using x1
          have hFF : F = false := by rw [← hF.out, formB, g0, g1]; rfl
          clear x0 x1 hF hk
          go_wp2
          go_ret
          exact ⟨by first | rfl | (rw [hFF]; rfl), by repeat (first | with_reducible exact Below.refl _ _ | with_reducible refine Below.setCell ?_ (by first | (simp; done) | (simp; omega)) _ | with_reducible refine below_drewN ?_ _ | with_reducible refine Below.alloc ?_ (by first | (simp; done) | (simp; omega)) _ | with_reducible refine Below.drew ?_)⟩
    · by_cases x0 : y = 0
      · subst x0
        go_wp2
        go_round
        case rel => exact ⟨2, by simp, .inr (.inr ⟨rfl, hx, by simp⟩)⟩
        case measure => simp [intOf]
      · by_cases x1 : y = 1
        · subst x1
          go_wp2
          go_round
          case rel => exact ⟨2, by simp, .inr (.inr ⟨rfl, hx, by simp⟩)⟩
          case measure => simp [intOf]
        · have e0 : (y != 0) = true := by simpa using x0
          have e1 : (y != 1) = true := by simpa using x1
          have g0 : (y == 0) = false := by simpa using x0
          have g1 : (y == 1) = false := by simpa using x1
          have hFF : F = false := by rw [← hF.out, formB, g0, g1]; simp
          clear x0 x1 hF hk hx
          go_wp2
          go_ret
          exact ⟨by first | rfl | (rw [hFF]; rfl), by repeat (first | with_reducible exact Below.refl _ _ | with_reducible refine Below.setCell ?_ (by first | (simp; done) | (simp; omega)) _ | with_reducible refine below_drewN ?_ _ | with_reducible refine Below.alloc ?_ (by first | (simp; done) | (simp; omega)) _ | with_reducible refine Below.drew ?_)⟩
    · have hFF := hF.out
      clear hF hk
      rcases hx with rfl | rfl <;> rcases hy with rfl | rfl <;> cases a <;> cases b <;> (obtain rfl := hFF; go_wp2; first | (go_ret; exact ⟨rfl, by repeat (first | with_reducible exact Below.refl _ _ | with_reducible refine Below.setCell ?_ (by first | (simp; done) | (simp; omega)) _ | with_reducible refine below_drewN ?_ _ | with_reducible refine Below.alloc ?_ (by first | (simp; done) | (simp; omega)) _ | with_reducible refine Below.drew ?_)⟩) | trace_state)

/-- The one of two that a state picks. -/
def pickB (x : Int) (u v : Bool) : Bool := if x = 0 then u else v
def pickI (x : Int) (u v : Int) : Int := if x = 0 then u else v
theorem formB_state {a b : Bool} {x y : Int} (h : formB a b x y = true) : (x = 0 ∨ x = 1) ∧ (y = 0 ∨ y = 1) := by
  unfold formB at h
  simp at h
  exact ⟨h.1.1, h.1.2⟩
/-- Two pieces, one behind the other. -/
def joinV (a b : Bool) (x y : Int) (a' b' : Bool) (x' y' : Int) : Value :=
  if formB a b x y && formB a' b' x' y' then .agg #[.bool (!(a == pickB x a' b')), .bool (!(b == pickB y a' b')), .int .i64 (pickI x x' y'), .int .i64 (pickI y x' y')] else .agg #[.bool false, .bool false, .int .i64 0, .int .i64 0]

set_option maxRecDepth 10000 in
set_option maxHeartbeats 4000000 in
theorem join9_calls (a b : Bool) (x y : Int) (a' b' : Bool) (x' y' : Int) (J : Value) (hJ : Hid (joinV a b x y a' b' x' y' = J)) (w : World) :
    Calls Tryd.prog 16 #[.agg #[.bool a, .bool b, .int .i64 x, .int .i64 y], .agg #[.bool a', .bool b', .int .i64 x', .int .i64 y']] w fun e w' => e = .returned J ∧ Below w.heap.size w w' := by
  obtain ⟨F, hF⟩ : ∃ F, Hid (formB a b x y = F) := ⟨_, rfl⟩
  obtain ⟨G, hG⟩ : ∃ G, Hid (formB a' b' x' y' = G) := ⟨_, rfl⟩
  have hfc := hid (fun (w1 : World) => formed9_calls a b x y F hF w1)
  have hgc := hid (fun (w1 : World) => formed9_calls a' b' x' y' G hG w1)
  have hJJ : Hid (joinV a b x y a' b' x' y' = J) := hJ
  have hix0 : ∀ (x y : Value) (u : World), (Instr.index 31 (.agg #[x, y]) (.int .i64 0)).run Tryd.prog u = .ok x u := fun _ _ _ => by kernel_rfl
  have hix1 : ∀ (x y : Value) (u : World), (Instr.index 31 (.agg #[x, y]) (.int .i64 1)).run Tryd.prog u = .ok y u := fun _ _ _ => by kernel_rfl
  go_enter Tryd.func16, Tryd.ntmps16
  go_wp2_with fail
  refine Calls.mono (hfc.out _) ?_
  rintro e w1 ⟨rfl, hb1⟩
  obtain ⟨U, hU⟩ : ∃ U, ((w.alloc (.cells #[.bool a, .bool b, .int .i64 x, .int .i64 y] 33)).alloc (.cells #[.bool a', .bool b', .int .i64 x', .int .i64 y'] 33)).alloc (.cells #[.bool false, .bool false, .int .i64 0, .int .i64 0] 33) = U := ⟨_, rfl⟩
  have p0 : At U w.heap.size #[.bool a, .bool b, .int .i64 x, .int .i64 y] 33 := by rw [← hU]; exact ((At.new w _ _).alloc _).alloc _
  have q0 : At U (w.heap.size + 1) #[.bool a', .bool b', .int .i64 x', .int .i64 y'] 33 := by
    rw [← hU]
    have := (At.new (w.alloc (.cells #[.bool a, .bool b, .int .i64 x, .int .i64 y] 33)) #[.bool a', .bool b', .int .i64 x', .int .i64 y'] 33).alloc (.cells #[.bool false, .bool false, .int .i64 0, .int .i64 0] 33)
    simpa using this
  have r0 : At U (w.heap.size + 1 + 1) #[.bool false, .bool false, .int .i64 0, .int .i64 0] 33 := by
    rw [← hU]
    have := At.new ((w.alloc (.cells #[.bool a, .bool b, .int .i64 x, .int .i64 y] 33)).alloc (.cells #[.bool a', .bool b', .int .i64 x', .int .i64 y'] 33)) #[.bool false, .bool false, .int .i64 0, .int .i64 0] 33
    simpa using this
  have hBU : Below w.heap.size w U := by rw [← hU]; repeat (first | with_reducible exact Below.refl _ _ | with_reducible refine Below.setCell ?_ (by first | (simp; done) | (simp; omega)) _ | with_reducible refine below_drewN ?_ _ | with_reducible refine Below.alloc ?_ (by first | (simp; done) | (simp; omega)) _ | with_reducible refine Below.drew ?_)
  rw [hU] at hb1
  have p1 := hid (p0.keptAll hb1)
  have q1 := hid (q0.keptAll hb1)
  have r1 := hid (r0.keptAll hb1)
  have hB1 := hid (hBU.trans (hb1.mono hBU.size))
  clear p0 q0 r0 hBU hb1 hU
  cases F with
  | false =>
    have hz : J = .agg #[.bool false, .bool false, .int .i64 0, .int .i64 0] := by rw [← hJ.out, joinV, hF.out]; rfl
    obtain ⟨⟨c0, c1, c2, c3⟩, f0, f1, f2, f3⟩ := r1.out.facts9
    clear hJ hJJ hfc hgc hF hG
    go_wp2
    refine ret_pt rfl rfl r1.out.four9 rfl ⟨?_, below_four hB1.out (by omega) _ _ _ _⟩
    rw [hz]
  | true =>
    obtain ⟨⟨c0, c1, c2, c3⟩, f0, f1, f2, f3⟩ := q1.out.facts9
    go_wp2_with fail
    refine Calls.mono (hgc.out _) ?_
    rintro e w2 ⟨rfl, hb2⟩
    clear c0 c1 c2 c3 f0 f1 f2 f3
    have p2 := hid (p1.out.keptAll hb2)
    have q2 := hid (q1.out.keptAll hb2)
    have r2 := hid (r1.out.keptAll hb2)
    have hB2 := hid (hB1.out.trans (hb2.mono hB1.out.size))
    clear p1 q1 r1 hB1 hb2
    cases G with
    | false =>
      have hz : J = .agg #[.bool false, .bool false, .int .i64 0, .int .i64 0] := by rw [← hJ.out, joinV, hF.out, hG.out]; rfl
      obtain ⟨⟨c0, c1, c2, c3⟩, f0, f1, f2, f3⟩ := r2.out.facts9
      clear hJ hJJ hfc hgc hF hG
      go_wp2
      refine ret_pt rfl rfl r2.out.four9 rfl ⟨?_, below_four hB2.out (by omega) _ _ _ _⟩
      rw [hz]
    | true =>
      obtain ⟨hx, hy⟩ := formB_state hF.out
      have hz := hJ.out
      rw [joinV, hF.out, hG.out, Bool.and_self, if_pos rfl] at hz
      obtain ⟨u0, hu0⟩ : ∃ u, pickB x a' b' = u := ⟨_, rfl⟩
      obtain ⟨u1, hu1⟩ : ∃ u, pickB y a' b' = u := ⟨_, rfl⟩
      obtain ⟨s0, hs0⟩ : ∃ u, pickI x x' y' = u := ⟨_, rfl⟩
      obtain ⟨s1, hs1⟩ : ∃ u, pickI y x' y' = u := ⟨_, rfl⟩
      rw [hu0, hu1, hs0, hs1] at hz
      clear hJ hJJ hfc hgc hF hG
      have hz' := hid hz
      clear hz
      rcases hx with rfl | rfl <;> rcases hy with rfl | rfl
      all_goals
        have m0 := hid (At.new w2 #[.bool false, .bool false, .int .i64 0, .int .i64 0] 33)
        have p3 := hid (p2.out.alloc (.cells #[.bool false, .bool false, .int .i64 0, .int .i64 0] 33))
        have q3 := hid (q2.out.alloc (.cells #[.bool false, .bool false, .int .i64 0, .int .i64 0] 33))
        have r3 := hid (r2.out.alloc (.cells #[.bool false, .bool false, .int .i64 0, .int .i64 0] 33))
        have hB3 := hid (hB2.out.alloc hB2.out.size (.cells #[.bool false, .bool false, .int .i64 0, .int .i64 0] 33))
        have hml := hid (show w.heap.size + 1 + 1 < w2.heap.size from r2.out.lt)
        clear p2 q2 r2 hB2
        obtain ⟨⟨c0, c1, c2, c3⟩, -⟩ := p3.out.facts9
        simp only [pickB, pickI, if_true, Int.one_ne_zero, if_false] at hu0 hu1 hs0 hs1
        subst hu0 hu1 hs0 hs1
        go_wp2
        clear c0 c1 c2 c3
        obtain ⟨m, hm⟩ : ∃ m, w2.heap.size = m := ⟨_, rfl⟩
        rw [hm] at hml m0 ⊢
        obtain ⟨W3, hW3⟩ : ∃ W3, w2.alloc (.cells #[.bool false, .bool false, .int .i64 0, .int .i64 0] 33) = W3 := ⟨_, rfl⟩
        rw [hW3] at m0 p3 q3 r3 hB3 ⊢
        clear hW3 hm
      · go_loopw [6, 7, 19] (fun _ _ i wr => ∃ (k : Nat) (A : Array Value), i = .int .i64 (k : Int) ∧ Hid (At wr w.heap.size #[.bool a, .bool b, .int .i64 0, .int .i64 0] 33 ∧ At wr (w.heap.size + 1) #[.bool a', .bool b', .int .i64 x', .int .i64 y'] 33 ∧ At wr (w.heap.size + 1 + 1) #[.bool false, .bool false, .int .i64 0, .int .i64 0] 33 ∧ At wr m A 33 ∧ Below w.heap.size w wr) ∧ Hid (k = 0 ∧ A = #[.bool false, .bool false, .int .i64 0, .int .i64 0] ∨ k = 1 ∧ A = #[.bool (!(a == a')), .bool false, .int .i64 x', .int .i64 0] ∨ k = 2 ∧ A = #[.bool (!(a == a')), .bool (!(b == a')), .int .i64 x', .int .i64 x'])) (fun _ _ i _ => 2 - (intOf i).toNat)
        case atStart => exact ⟨0, _, rfl, ⟨p3.out, q3.out, r3.out, m0.out, hB3.out⟩, .inl ⟨rfl, rfl⟩⟩
        case round =>
          obtain ⟨k, A, rfl, hW, hk⟩ := hrel
          rcases hk.out with ⟨rfl, rfl⟩ | ⟨rfl, rfl⟩ | ⟨rfl, rfl⟩
          · obtain ⟨⟨c0, c1, c2, c3⟩, -⟩ := hW.out.1.facts9
            obtain ⟨⟨d0, d1, d2, d3⟩, -⟩ := hW.out.2.1.facts9
            obtain ⟨⟨e0, e1, e2, e3⟩, f0, f1, f2, f3⟩ := hW.out.2.2.2.1.facts9
            clear hk
            go_wp2
            go_region
            all_goals
              go_wp2
              go_roundw
              case rel => exact ⟨1, _, by simp, ⟨(hW.out.1.other (p := ⟨m, 0, none⟩) (by have := hml.out; show w.heap.size ≠ m; omega) _).other (p := ⟨m, 2, none⟩) (by have := hml.out; show w.heap.size ≠ m; omega) _, (hW.out.2.1.other (p := ⟨m, 0, none⟩) (by have := hml.out; show w.heap.size + 1 ≠ m; omega) _).other (p := ⟨m, 2, none⟩) (by have := hml.out; show w.heap.size + 1 ≠ m; omega) _, (hW.out.2.2.1.other (p := ⟨m, 0, none⟩) (by have := hml.out; show w.heap.size + 1 + 1 ≠ m; omega) _).other (p := ⟨m, 2, none⟩) (by have := hml.out; show w.heap.size + 1 + 1 ≠ m; omega) _, (hW.out.2.2.2.1.set 0 _).set 2 _, ((show Below w.heap.size w _ from hW.out.2.2.2.2.drew).setCell (p := ⟨m, 0, none⟩) (by have := hml.out; show w.heap.size ≤ m; omega) _).setCell (p := ⟨m, 2, none⟩) (by have := hml.out; show w.heap.size ≤ m; omega) _⟩, .inr (.inl ⟨rfl, by simp⟩)⟩
              case measure => simp [intOf]
          · obtain ⟨⟨c0, c1, c2, c3⟩, -⟩ := hW.out.1.facts9
            obtain ⟨⟨d0, d1, d2, d3⟩, -⟩ := hW.out.2.1.facts9
            obtain ⟨⟨e0, e1, e2, e3⟩, f0, f1, f2, f3⟩ := hW.out.2.2.2.1.facts9
            clear hk
            go_wp2
            go_region
            all_goals
              go_wp2
              go_roundw
              case rel => exact ⟨2, _, by simp, ⟨(hW.out.1.other (p := ⟨m, 1, none⟩) (by have := hml.out; show w.heap.size ≠ m; omega) _).other (p := ⟨m, 3, none⟩) (by have := hml.out; show w.heap.size ≠ m; omega) _, (hW.out.2.1.other (p := ⟨m, 1, none⟩) (by have := hml.out; show w.heap.size + 1 ≠ m; omega) _).other (p := ⟨m, 3, none⟩) (by have := hml.out; show w.heap.size + 1 ≠ m; omega) _, (hW.out.2.2.1.other (p := ⟨m, 1, none⟩) (by have := hml.out; show w.heap.size + 1 + 1 ≠ m; omega) _).other (p := ⟨m, 3, none⟩) (by have := hml.out; show w.heap.size + 1 + 1 ≠ m; omega) _, (hW.out.2.2.2.1.set 1 _).set 3 _, ((show Below w.heap.size w _ from hW.out.2.2.2.2.drew).setCell (p := ⟨m, 1, none⟩) (by have := hml.out; show w.heap.size ≤ m; omega) _).setCell (p := ⟨m, 3, none⟩) (by have := hml.out; show w.heap.size ≤ m; omega) _⟩, .inr (.inr ⟨rfl, by simp⟩)⟩
              case measure => simp [intOf]
          · obtain ⟨⟨e0, e1, e2, e3⟩, -⟩ := hW.out.2.2.2.1.facts9
            obtain ⟨⟨d0, d1, d2, d3⟩, f0, f1, f2, f3⟩ := hW.out.2.2.1.facts9
            clear hk
            go_wp2
            refine ret_pt rfl rfl hW.out.2.2.1.four9 rfl ⟨?_, below_four hW.out.2.2.2.2 (by omega) _ _ _ _⟩
            rw [← hz'.out]
      · go_loopw [6, 7, 19] (fun _ _ i wr => ∃ (k : Nat) (A : Array Value), i = .int .i64 (k : Int) ∧ Hid (At wr w.heap.size #[.bool a, .bool b, .int .i64 0, .int .i64 1] 33 ∧ At wr (w.heap.size + 1) #[.bool a', .bool b', .int .i64 x', .int .i64 y'] 33 ∧ At wr (w.heap.size + 1 + 1) #[.bool false, .bool false, .int .i64 0, .int .i64 0] 33 ∧ At wr m A 33 ∧ Below w.heap.size w wr) ∧ Hid (k = 0 ∧ A = #[.bool false, .bool false, .int .i64 0, .int .i64 0] ∨ k = 1 ∧ A = #[.bool (!(a == a')), .bool false, .int .i64 x', .int .i64 0] ∨ k = 2 ∧ A = #[.bool (!(a == a')), .bool (!(b == b')), .int .i64 x', .int .i64 y'])) (fun _ _ i _ => 2 - (intOf i).toNat)
        case atStart => exact ⟨0, _, rfl, ⟨p3.out, q3.out, r3.out, m0.out, hB3.out⟩, .inl ⟨rfl, rfl⟩⟩
        case round =>
          obtain ⟨k, A, rfl, hW, hk⟩ := hrel
          rcases hk.out with ⟨rfl, rfl⟩ | ⟨rfl, rfl⟩ | ⟨rfl, rfl⟩
          · obtain ⟨⟨c0, c1, c2, c3⟩, -⟩ := hW.out.1.facts9
            obtain ⟨⟨d0, d1, d2, d3⟩, -⟩ := hW.out.2.1.facts9
            obtain ⟨⟨e0, e1, e2, e3⟩, f0, f1, f2, f3⟩ := hW.out.2.2.2.1.facts9
            clear hk
            go_wp2
            go_region
            all_goals
              go_wp2
              go_roundw
              case rel => exact ⟨1, _, by simp, ⟨(hW.out.1.other (p := ⟨m, 0, none⟩) (by have := hml.out; show w.heap.size ≠ m; omega) _).other (p := ⟨m, 2, none⟩) (by have := hml.out; show w.heap.size ≠ m; omega) _, (hW.out.2.1.other (p := ⟨m, 0, none⟩) (by have := hml.out; show w.heap.size + 1 ≠ m; omega) _).other (p := ⟨m, 2, none⟩) (by have := hml.out; show w.heap.size + 1 ≠ m; omega) _, (hW.out.2.2.1.other (p := ⟨m, 0, none⟩) (by have := hml.out; show w.heap.size + 1 + 1 ≠ m; omega) _).other (p := ⟨m, 2, none⟩) (by have := hml.out; show w.heap.size + 1 + 1 ≠ m; omega) _, (hW.out.2.2.2.1.set 0 _).set 2 _, ((show Below w.heap.size w _ from hW.out.2.2.2.2.drew).setCell (p := ⟨m, 0, none⟩) (by have := hml.out; show w.heap.size ≤ m; omega) _).setCell (p := ⟨m, 2, none⟩) (by have := hml.out; show w.heap.size ≤ m; omega) _⟩, .inr (.inl ⟨rfl, by simp⟩)⟩
              case measure => simp [intOf]
          · obtain ⟨⟨c0, c1, c2, c3⟩, -⟩ := hW.out.1.facts9
            obtain ⟨⟨d0, d1, d2, d3⟩, -⟩ := hW.out.2.1.facts9
            obtain ⟨⟨e0, e1, e2, e3⟩, f0, f1, f2, f3⟩ := hW.out.2.2.2.1.facts9
            clear hk
            go_wp2
            go_region
            all_goals
              go_wp2
              go_roundw
              case rel => exact ⟨2, _, by simp, ⟨(hW.out.1.other (p := ⟨m, 1, none⟩) (by have := hml.out; show w.heap.size ≠ m; omega) _).other (p := ⟨m, 3, none⟩) (by have := hml.out; show w.heap.size ≠ m; omega) _, (hW.out.2.1.other (p := ⟨m, 1, none⟩) (by have := hml.out; show w.heap.size + 1 ≠ m; omega) _).other (p := ⟨m, 3, none⟩) (by have := hml.out; show w.heap.size + 1 ≠ m; omega) _, (hW.out.2.2.1.other (p := ⟨m, 1, none⟩) (by have := hml.out; show w.heap.size + 1 + 1 ≠ m; omega) _).other (p := ⟨m, 3, none⟩) (by have := hml.out; show w.heap.size + 1 + 1 ≠ m; omega) _, (hW.out.2.2.2.1.set 1 _).set 3 _, ((show Below w.heap.size w _ from hW.out.2.2.2.2.drew).setCell (p := ⟨m, 1, none⟩) (by have := hml.out; show w.heap.size ≤ m; omega) _).setCell (p := ⟨m, 3, none⟩) (by have := hml.out; show w.heap.size ≤ m; omega) _⟩, .inr (.inr ⟨rfl, by simp⟩)⟩
              case measure => simp [intOf]
          · obtain ⟨⟨e0, e1, e2, e3⟩, -⟩ := hW.out.2.2.2.1.facts9
            obtain ⟨⟨d0, d1, d2, d3⟩, f0, f1, f2, f3⟩ := hW.out.2.2.1.facts9
            clear hk
            go_wp2
            refine ret_pt rfl rfl hW.out.2.2.1.four9 rfl ⟨?_, below_four hW.out.2.2.2.2 (by omega) _ _ _ _⟩
            rw [← hz'.out]
      · go_loopw [6, 7, 19] (fun _ _ i wr => ∃ (k : Nat) (A : Array Value), i = .int .i64 (k : Int) ∧ Hid (At wr w.heap.size #[.bool a, .bool b, .int .i64 1, .int .i64 0] 33 ∧ At wr (w.heap.size + 1) #[.bool a', .bool b', .int .i64 x', .int .i64 y'] 33 ∧ At wr (w.heap.size + 1 + 1) #[.bool false, .bool false, .int .i64 0, .int .i64 0] 33 ∧ At wr m A 33 ∧ Below w.heap.size w wr) ∧ Hid (k = 0 ∧ A = #[.bool false, .bool false, .int .i64 0, .int .i64 0] ∨ k = 1 ∧ A = #[.bool (!(a == b')), .bool false, .int .i64 y', .int .i64 0] ∨ k = 2 ∧ A = #[.bool (!(a == b')), .bool (!(b == a')), .int .i64 y', .int .i64 x'])) (fun _ _ i _ => 2 - (intOf i).toNat)
        case atStart => exact ⟨0, _, rfl, ⟨p3.out, q3.out, r3.out, m0.out, hB3.out⟩, .inl ⟨rfl, rfl⟩⟩
        case round =>
          obtain ⟨k, A, rfl, hW, hk⟩ := hrel
          rcases hk.out with ⟨rfl, rfl⟩ | ⟨rfl, rfl⟩ | ⟨rfl, rfl⟩
          · obtain ⟨⟨c0, c1, c2, c3⟩, -⟩ := hW.out.1.facts9
            obtain ⟨⟨d0, d1, d2, d3⟩, -⟩ := hW.out.2.1.facts9
            obtain ⟨⟨e0, e1, e2, e3⟩, f0, f1, f2, f3⟩ := hW.out.2.2.2.1.facts9
            clear hk
            go_wp2
            go_region
            all_goals
              go_wp2
              go_roundw
              case rel => exact ⟨1, _, by simp, ⟨(hW.out.1.other (p := ⟨m, 0, none⟩) (by have := hml.out; show w.heap.size ≠ m; omega) _).other (p := ⟨m, 2, none⟩) (by have := hml.out; show w.heap.size ≠ m; omega) _, (hW.out.2.1.other (p := ⟨m, 0, none⟩) (by have := hml.out; show w.heap.size + 1 ≠ m; omega) _).other (p := ⟨m, 2, none⟩) (by have := hml.out; show w.heap.size + 1 ≠ m; omega) _, (hW.out.2.2.1.other (p := ⟨m, 0, none⟩) (by have := hml.out; show w.heap.size + 1 + 1 ≠ m; omega) _).other (p := ⟨m, 2, none⟩) (by have := hml.out; show w.heap.size + 1 + 1 ≠ m; omega) _, (hW.out.2.2.2.1.set 0 _).set 2 _, ((show Below w.heap.size w _ from hW.out.2.2.2.2.drew).setCell (p := ⟨m, 0, none⟩) (by have := hml.out; show w.heap.size ≤ m; omega) _).setCell (p := ⟨m, 2, none⟩) (by have := hml.out; show w.heap.size ≤ m; omega) _⟩, .inr (.inl ⟨rfl, by simp⟩)⟩
              case measure => simp [intOf]
          · obtain ⟨⟨c0, c1, c2, c3⟩, -⟩ := hW.out.1.facts9
            obtain ⟨⟨d0, d1, d2, d3⟩, -⟩ := hW.out.2.1.facts9
            obtain ⟨⟨e0, e1, e2, e3⟩, f0, f1, f2, f3⟩ := hW.out.2.2.2.1.facts9
            clear hk
            go_wp2
            go_region
            all_goals
              go_wp2
              go_roundw
              case rel => exact ⟨2, _, by simp, ⟨(hW.out.1.other (p := ⟨m, 1, none⟩) (by have := hml.out; show w.heap.size ≠ m; omega) _).other (p := ⟨m, 3, none⟩) (by have := hml.out; show w.heap.size ≠ m; omega) _, (hW.out.2.1.other (p := ⟨m, 1, none⟩) (by have := hml.out; show w.heap.size + 1 ≠ m; omega) _).other (p := ⟨m, 3, none⟩) (by have := hml.out; show w.heap.size + 1 ≠ m; omega) _, (hW.out.2.2.1.other (p := ⟨m, 1, none⟩) (by have := hml.out; show w.heap.size + 1 + 1 ≠ m; omega) _).other (p := ⟨m, 3, none⟩) (by have := hml.out; show w.heap.size + 1 + 1 ≠ m; omega) _, (hW.out.2.2.2.1.set 1 _).set 3 _, ((show Below w.heap.size w _ from hW.out.2.2.2.2.drew).setCell (p := ⟨m, 1, none⟩) (by have := hml.out; show w.heap.size ≤ m; omega) _).setCell (p := ⟨m, 3, none⟩) (by have := hml.out; show w.heap.size ≤ m; omega) _⟩, .inr (.inr ⟨rfl, by simp⟩)⟩
              case measure => simp [intOf]
          · obtain ⟨⟨e0, e1, e2, e3⟩, -⟩ := hW.out.2.2.2.1.facts9
            obtain ⟨⟨d0, d1, d2, d3⟩, f0, f1, f2, f3⟩ := hW.out.2.2.1.facts9
            clear hk
            go_wp2
            refine ret_pt rfl rfl hW.out.2.2.1.four9 rfl ⟨?_, below_four hW.out.2.2.2.2 (by omega) _ _ _ _⟩
            rw [← hz'.out]
      · go_loopw [6, 7, 19] (fun _ _ i wr => ∃ (k : Nat) (A : Array Value), i = .int .i64 (k : Int) ∧ Hid (At wr w.heap.size #[.bool a, .bool b, .int .i64 1, .int .i64 1] 33 ∧ At wr (w.heap.size + 1) #[.bool a', .bool b', .int .i64 x', .int .i64 y'] 33 ∧ At wr (w.heap.size + 1 + 1) #[.bool false, .bool false, .int .i64 0, .int .i64 0] 33 ∧ At wr m A 33 ∧ Below w.heap.size w wr) ∧ Hid (k = 0 ∧ A = #[.bool false, .bool false, .int .i64 0, .int .i64 0] ∨ k = 1 ∧ A = #[.bool (!(a == b')), .bool false, .int .i64 y', .int .i64 0] ∨ k = 2 ∧ A = #[.bool (!(a == b')), .bool (!(b == b')), .int .i64 y', .int .i64 y'])) (fun _ _ i _ => 2 - (intOf i).toNat)
        case atStart => exact ⟨0, _, rfl, ⟨p3.out, q3.out, r3.out, m0.out, hB3.out⟩, .inl ⟨rfl, rfl⟩⟩
        case round =>
          obtain ⟨k, A, rfl, hW, hk⟩ := hrel
          rcases hk.out with ⟨rfl, rfl⟩ | ⟨rfl, rfl⟩ | ⟨rfl, rfl⟩
          · obtain ⟨⟨c0, c1, c2, c3⟩, -⟩ := hW.out.1.facts9
            obtain ⟨⟨d0, d1, d2, d3⟩, -⟩ := hW.out.2.1.facts9
            obtain ⟨⟨e0, e1, e2, e3⟩, f0, f1, f2, f3⟩ := hW.out.2.2.2.1.facts9
            clear hk
            go_wp2
            go_region
            all_goals
              go_wp2
              go_roundw
              case rel => exact ⟨1, _, by simp, ⟨(hW.out.1.other (p := ⟨m, 0, none⟩) (by have := hml.out; show w.heap.size ≠ m; omega) _).other (p := ⟨m, 2, none⟩) (by have := hml.out; show w.heap.size ≠ m; omega) _, (hW.out.2.1.other (p := ⟨m, 0, none⟩) (by have := hml.out; show w.heap.size + 1 ≠ m; omega) _).other (p := ⟨m, 2, none⟩) (by have := hml.out; show w.heap.size + 1 ≠ m; omega) _, (hW.out.2.2.1.other (p := ⟨m, 0, none⟩) (by have := hml.out; show w.heap.size + 1 + 1 ≠ m; omega) _).other (p := ⟨m, 2, none⟩) (by have := hml.out; show w.heap.size + 1 + 1 ≠ m; omega) _, (hW.out.2.2.2.1.set 0 _).set 2 _, ((show Below w.heap.size w _ from hW.out.2.2.2.2.drew).setCell (p := ⟨m, 0, none⟩) (by have := hml.out; show w.heap.size ≤ m; omega) _).setCell (p := ⟨m, 2, none⟩) (by have := hml.out; show w.heap.size ≤ m; omega) _⟩, .inr (.inl ⟨rfl, by simp⟩)⟩
              case measure => simp [intOf]
          · obtain ⟨⟨c0, c1, c2, c3⟩, -⟩ := hW.out.1.facts9
            obtain ⟨⟨d0, d1, d2, d3⟩, -⟩ := hW.out.2.1.facts9
            obtain ⟨⟨e0, e1, e2, e3⟩, f0, f1, f2, f3⟩ := hW.out.2.2.2.1.facts9
            clear hk
            go_wp2
            go_region
            all_goals
              go_wp2
              go_roundw
              case rel => exact ⟨2, _, by simp, ⟨(hW.out.1.other (p := ⟨m, 1, none⟩) (by have := hml.out; show w.heap.size ≠ m; omega) _).other (p := ⟨m, 3, none⟩) (by have := hml.out; show w.heap.size ≠ m; omega) _, (hW.out.2.1.other (p := ⟨m, 1, none⟩) (by have := hml.out; show w.heap.size + 1 ≠ m; omega) _).other (p := ⟨m, 3, none⟩) (by have := hml.out; show w.heap.size + 1 ≠ m; omega) _, (hW.out.2.2.1.other (p := ⟨m, 1, none⟩) (by have := hml.out; show w.heap.size + 1 + 1 ≠ m; omega) _).other (p := ⟨m, 3, none⟩) (by have := hml.out; show w.heap.size + 1 + 1 ≠ m; omega) _, (hW.out.2.2.2.1.set 1 _).set 3 _, ((show Below w.heap.size w _ from hW.out.2.2.2.2.drew).setCell (p := ⟨m, 1, none⟩) (by have := hml.out; show w.heap.size ≤ m; omega) _).setCell (p := ⟨m, 3, none⟩) (by have := hml.out; show w.heap.size ≤ m; omega) _⟩, .inr (.inr ⟨rfl, by simp⟩)⟩
              case measure => simp [intOf]
          · obtain ⟨⟨e0, e1, e2, e3⟩, -⟩ := hW.out.2.2.2.1.facts9
            obtain ⟨⟨d0, d1, d2, d3⟩, f0, f1, f2, f3⟩ := hW.out.2.2.1.facts9
            clear hk
            go_wp2
            refine ret_pt rfl rfl hW.out.2.2.1.four9 rfl ⟨?_, below_four hW.out.2.2.2.2 (by omega) _ _ _ _⟩
            rw [← hz'.out]
end Go.Proofs.YtdmmofdlokgfmaaDoor
