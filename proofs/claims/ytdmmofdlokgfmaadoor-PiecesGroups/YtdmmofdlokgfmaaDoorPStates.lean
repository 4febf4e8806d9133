/-
  quarrylaw09.awake; the walk of quarrylaw09.PiecesStates.
-/
import Derived.Test.YtdmmofdlokgfmaaDoorPieB
import Derived.SizedLaws
import Derived.Laws.Concat
namespace Go.Proofs.YtdmmofdlokgfmaaDoor
open Go.RowKit Go.Shelf

set_option maxRecDepth 10000 in
set_option maxHeartbeats 1000000 in
theorem awake9_calls (w : World) (hT : Tab w) (h0 : 0 < w.heap.size) :
    Calls Tryd.prog 15 #[] w fun e w' => e = .returned (.bool true) ∧ Below w.heap.size w w' := by
  have hp : Hid (IsPt ⟨#[34, 97, 92]⟩ true false 1 1) := by
    show IsPt _ _ _ _ _
    unfold IsPt
    decide
  have hc := hid (of_calls ⟨#[34, 97, 92]⟩ (by decide) true false 1 1 hp w hT h0)
  have heq := eqPt
  clear hp hT h0
  go_enter Tryd.func15, Tryd.ntmps15
  go_wp2_with fail
  refine hc.out.mono ?_
  rintro e w1 ⟨rfl, hb⟩
  have hb' := hid hb
  clear hb hc
  go_wp2
  go_ret
  exact ⟨rfl, hb'.out⟩

theorem bi_one (q : Bool) : (bi q == 1) = q := by cases q <;> rfl
theorem bi_ge (q : Bool) : decide (0 ≤ bi q) = true := by cases q <;> rfl
theorem bi_lt (q : Bool) : decide (bi q < 2) = true := by cases q <;> rfl
theorem open_slash (s : ByteArray) : openS ((⟨#[92]⟩ : ByteArray) ++ s) = oddC s true := by
  rw [← oddC_false, oddC_join]
  rw [show oddC (⟨#[92]⟩ : ByteArray) false = false by decide, show behindS (⟨#[92]⟩ : ByteArray) false = true by decide]
  simp

set_option maxRecDepth 10000 in
set_option maxHeartbeats 4000000 in
theorem piecesStates_walk (s : ByteArray) (hs : s.size ≤ reachBytes) (w : World) (hT : Tab w) (h0 : 0 < w.heap.size) :
    Calls Tryd.prog 7 #[.string s] w fun e w' => e = .returned (.bool true) ∧ Below w.heap.size w w' := by
  have hs1 : s.size ≤ 140737488351232 := hs
  obtain ⟨a, b, x, y, hp⟩ := isPt_ex s
  obtain ⟨X, hX⟩ : ∃ X, Hid (behindS s false = X) := ⟨_, rfl⟩
  obtain ⟨Y, hY⟩ : ∃ Y, Hid (behindS s true = Y) := ⟨_, rfl⟩
  obtain ⟨t, ht⟩ : ∃ t, (⟨#[92]⟩ : ByteArray) ++ s = t := ⟨_, rfl⟩
  have htz : t.size ≤ 562949953421312 := by rw [← ht, size_join9]; show 1 + s.size ≤ _; omega
  have hto : Hid (openS t = b) := by show _ = _; rw [← ht, open_slash]; exact hp.2.1
  have hadd : ∀ u : World, (Op.stringOp .add ⟨#[92]⟩ s).run Tryd.prog u = .ok (.string t) u := fun u => by rw [run_string_add_sum u ⟨#[92]⟩ s (by show 1 + s.size ≤ _; omega), ht]
  have hxe : x = bi X := by rw [← hX.out]; exact hp.2.2.1.symm
  have hye : y = bi Y := by rw [← hY.out]; exact hp.2.2.2.symm
  have x1 : (x == 1) = X := by rw [hxe]; exact bi_one X
  have y1 : (y == 1) = Y := by rw [hye]; exact bi_one Y
  have x2 : decide (0 ≤ x) = true := by rw [hxe]; exact bi_ge X
  have y2 : decide (0 ≤ y) = true := by rw [hye]; exact bi_ge Y
  have x3 : decide (x < 2) = true := by rw [hxe]; exact bi_lt X
  have y3 : decide (y < 2) = true := by rw [hye]; exact bi_lt Y
  have hOf := hid (of_calls s (by omega) a b x y hp w hT h0)
  have hop := hid (fun (w1 : World) (hb : Below w.heap.size w w1) => openQ_calls s (by omega) a hp.1 w1 (hT.below hb h0) (Nat.lt_of_lt_of_le h0 hb.size))
  have hot := hid (fun (w1 : World) (hb : Below w.heap.size w w1) => openQ_calls t htz b hto w1 (hT.below hb h0) (Nat.lt_of_lt_of_le h0 hb.size))
  have hbx := hid (fun (w1 : World) => behind_calls s false X (by omega) hX w1)
  have hby := hid (fun (w1 : World) => behind_calls s true Y (by omega) hY w1)
  have haw := hid (fun (w1 : World) (hb : Below w.heap.size w w1) => awake9_calls w1 (hT.below hb h0) (Nat.lt_of_lt_of_le h0 hb.size))
  clear hp hX hY hto hxe hye hT hs htz hs1 ht
  go_enter Tryd.func7, Tryd.ntmps7
  go_wp2_with fail
  refine hOf.out.mono ?_
  rintro e w1 ⟨rfl, hb1⟩
  have m0 := hid (At.new w1 #[.bool a, .bool b, .int .i64 x, .int .i64 y] 33)
  have hB1 := hid (hb1.alloc hb1.size (.cells #[.bool a, .bool b, .int .i64 x, .int .i64 y] 33))
  clear hOf hb1
  go_wp2_with fail
  obtain ⟨m, hm⟩ : ∃ m, w1.heap.size = m := ⟨_, rfl⟩
  rw [hm] at m0 ⊢
  obtain ⟨W, hW⟩ : ∃ W, w1.alloc (.cells #[.bool a, .bool b, .int .i64 x, .int .i64 y] 33) = W := ⟨_, rfl⟩
  rw [hW] at m0 hB1 ⊢
  clear hW hm
  have hC := hid (show (∀ i, W.cell? ⟨m, i, none⟩ = (#[Value.bool a, .bool b, .int .i64 x, .int .i64 y])[i]?) ∧ m < W.heap.size ∧ Below w.heap.size w W from ⟨fun i => m0.out.cell i, m0.out.lt, hB1.out⟩)
  have hK : Hid (∀ wq wz : World, ((wq.cell? ⟨m, 0, none⟩ = some (.bool a) ∧ wq.cell? ⟨m, 1, none⟩ = some (.bool b) ∧ wq.cell? ⟨m, 2, none⟩ = some (.int .i64 x) ∧ wq.cell? ⟨m, 3, none⟩ = some (.int .i64 y)) ∧ m < wq.heap.size ∧ Below w.heap.size w wq) → Below wq.heap.size wq wz → ((wz.cell? ⟨m, 0, none⟩ = some (.bool a) ∧ wz.cell? ⟨m, 1, none⟩ = some (.bool b) ∧ wz.cell? ⟨m, 2, none⟩ = some (.int .i64 x) ∧ wz.cell? ⟨m, 3, none⟩ = some (.int .i64 y)) ∧ m < wz.heap.size ∧ Below w.heap.size w wz)) := by
    rintro wq wz ⟨⟨c0, c1, c2, c3⟩, hl, hb⟩ hz
    exact ⟨⟨(hz.cell (p := ⟨m, 0, none⟩) hl).trans c0, (hz.cell (p := ⟨m, 1, none⟩) hl).trans c1, (hz.cell (p := ⟨m, 2, none⟩) hl).trans c2, (hz.cell (p := ⟨m, 3, none⟩) hl).trans c3⟩, Nat.lt_of_lt_of_le hl hz.size, hb.trans (hz.mono hb.size)⟩
  clear m0 hB1
  refine wp_region_quiet (C := (fun w' => (w'.cell? ⟨m, 0, none⟩ = some (.bool a) ∧ w'.cell? ⟨m, 1, none⟩ = some (.bool b) ∧ w'.cell? ⟨m, 2, none⟩ = some (.int .i64 x) ∧ w'.cell? ⟨m, 3, none⟩ = some (.int .i64 y)) ∧ m < w'.heap.size ∧ Below w.heap.size w w')) (by kernel_rfl) (by kernel_rfl) (⟨⟨hC.out.1 0, hC.out.1 1, hC.out.1 2, hC.out.1 3⟩, hC.out.2.1, hC.out.2.2.drew⟩) ?_
  dsimp only
  repeat (first
    | (refine wpQuiet_skip (by rfl) ?_; simp only [Act.put, List.setIfInBounds_toArray, List.set_cons_zero, List.set_cons_succ])
    | (refine' wpQuiet_take (by rfl) ?_ ?_
       rotate_left
       · (intro wq hq; (try dsimp only at hq); go_simp
          first
            | done
            | with_reducible rfl
            | (go_at_call 18; have hzz := hop.out _ hq.2.2; with_reducible refine hzz.mono ?_; clear hzz; rintro e wz ⟨rfl, hb⟩; exact ⟨rfl, hK.out _ _ hq hb⟩)
            | (go_at_call 19; have hzz := hbx.out wq; with_reducible refine hzz.mono ?_; clear hzz; rintro e wz ⟨rfl, hb⟩; subst hb; exact ⟨rfl, hq⟩)
            | (go_at_call 19; have hzz := hby.out wq; with_reducible refine hzz.mono ?_; clear hzz; rintro e wz ⟨rfl, hb⟩; subst hb; exact ⟨rfl, hq⟩)
         )
       simp only [Act.put, List.setIfInBounds_toArray, List.set_cons_zero, List.set_cons_succ]))
  refine wpQuiet_nil ?_
  intro wz hz
  have hz' := hid hz
  clear hz hC
  go_wp2_with fail
  refine wp_region_quiet (C := (fun w' => (w'.cell? ⟨m, 0, none⟩ = some (.bool a) ∧ w'.cell? ⟨m, 1, none⟩ = some (.bool b) ∧ w'.cell? ⟨m, 2, none⟩ = some (.int .i64 x) ∧ w'.cell? ⟨m, 3, none⟩ = some (.int .i64 y)) ∧ m < w'.heap.size ∧ Below w.heap.size w w')) (by kernel_rfl) (by kernel_rfl) (⟨hz'.out.1, hz'.out.2.1, hz'.out.2.2.drew⟩) ?_
  dsimp only
  repeat (first
    | (refine wpQuiet_skip (by rfl) ?_; simp only [Act.put, List.setIfInBounds_toArray, List.set_cons_zero, List.set_cons_succ])
    | (refine' wpQuiet_take (by rfl) ?_ ?_
       rotate_left
       · (intro wq hq; (try dsimp only at hq); go_simp
          first
            | done
            | with_reducible rfl
            | (go_at_call 18; have hzz := hot.out _ hq.2.2; with_reducible refine hzz.mono ?_; clear hzz; rintro e wz ⟨rfl, hb⟩; exact ⟨rfl, hK.out _ _ hq hb⟩)
            | (go_at_call 15; have hzz := haw.out _ hq.2.2; with_reducible refine hzz.mono ?_; clear hzz; rintro e wz ⟨rfl, hb⟩; exact ⟨rfl, hK.out _ _ hq hb⟩)
         )
       simp only [Act.put, List.setIfInBounds_toArray, List.set_cons_zero, List.set_cons_succ]))
  refine wpQuiet_nil ?_
  intro wy hy
  have hy' := hid hy
  clear hy hz'
  go_wp2
  go_ret
  exact ⟨rfl, hy'.out.2.2⟩
end Go.Proofs.YtdmmofdlokgfmaaDoor
