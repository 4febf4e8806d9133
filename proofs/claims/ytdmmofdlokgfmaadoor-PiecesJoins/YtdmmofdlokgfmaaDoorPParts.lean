/-
  The walks of quarrylaw09.PiecesParts and PiecesJoins.
-/
import Derived.Test.YtdmmofdlokgfmaaDoorRefJ
import Derived.Test.YtdmmofdlokgfmaaDoorPStates
namespace Go.Proofs.YtdmmofdlokgfmaaDoor
open Go.RowKit Go.Shelf

set_option maxRecDepth 10000 in
set_option maxHeartbeats 4000000 in
theorem piecesParts_walk (s : ByteArray) (hs : s.size ≤ reachBytes) (c d : Bool) (u v : Int) (w : World) (hT : Tab w) (h0 : 0 < w.heap.size) :
    Calls Tryd.prog 4 #[.string s, .agg #[.bool c, .bool d, .int .i64 u, .int .i64 v]] w fun e w' => e = .returned (.bool true) ∧ Below w.heap.size w w' := by
  have hs1 : s.size ≤ 140737488351232 := hs
  obtain ⟨a, b, x, y, hp⟩ := isPt_ex s
  obtain ⟨F, hF⟩ : ∃ F, Hid (formB c d u v = F) := ⟨_, rfl⟩
  have hfo : Hid (formB a b x y = true) := by show _ = _; rw [← hp.1, ← hp.2.1, ← hp.2.2.1, ← hp.2.2.2]; exact formed_of s
  have hOf := hid (fun (w1 : World) (hb : Below w.heap.size w w1) => of_calls s (by omega) a b x y hp w1 (hT.below hb h0) (Nat.lt_of_lt_of_le h0 hb.size))
  have hRf := hid (fun (w1 : World) => refOf_calls s hs1 a b x y hp w1)
  have hFp := hid (fun (w1 : World) => formed9_calls c d u v F hF w1)
  have hGp := hid (fun (w1 : World) => refForm_calls c d u v F hF w1)
  have hFs := hid (fun (w1 : World) => formed9_calls a b x y true hfo w1)
  have haw := hid (fun (w1 : World) (hb : Below w.heap.size w w1) => awake9_calls w1 (hT.below hb h0) (Nat.lt_of_lt_of_le h0 hb.size))
  have hse : ∀ z : World, (Op.equalIn 10000 33 (.agg #[.bool a, .bool b, .int .i64 x, .int .i64 y]) (.agg #[.bool a, .bool b, .int .i64 x, .int .i64 y])).run Tryd.prog z = .ok true z := fun z => by rw [eqPt]; simp
  have hFF : (F == F) = true := by simp
  have hK : Hid (∀ wq wz : World, (At wq w.heap.size #[.bool c, .bool d, .int .i64 u, .int .i64 v] 33 ∧ Below w.heap.size w wq) → Below wq.heap.size wq wz → (At wz w.heap.size #[.bool c, .bool d, .int .i64 u, .int .i64 v] 33 ∧ Below w.heap.size w wz)) := by
    rintro wq wz ⟨h1, h2⟩ hz
    exact ⟨h1.keptAll hz, h2.trans (hz.mono h2.size)⟩
  have hC0 := hid (show At (w.alloc (.cells #[.bool c, .bool d, .int .i64 u, .int .i64 v] 33)) w.heap.size #[.bool c, .bool d, .int .i64 u, .int .i64 v] 33 ∧ Below w.heap.size w (w.alloc (.cells #[.bool c, .bool d, .int .i64 u, .int .i64 v] 33)) from ⟨At.new w _ _, by repeat (first | with_reducible exact Below.refl _ _ | with_reducible refine Below.setCell ?_ (by first | (simp; done) | (simp; omega)) _ | with_reducible refine below_drewN ?_ _ | with_reducible refine Below.alloc ?_ (by first | (simp; done) | (simp; omega)) _ | with_reducible refine Below.drew ?_)⟩)
  clear hp hF hfo hT hs hs1
  go_enter Tryd.func4, Tryd.ntmps4
  go_wp2_with fail
  refine wp_region_quiet (C := (fun w' => At w' w.heap.size #[.bool c, .bool d, .int .i64 u, .int .i64 v] 33 ∧ Below w.heap.size w w')) (by kernel_rfl) (by kernel_rfl) (⟨hC0.out.1, hC0.out.2.drew⟩) ?_
  dsimp only
  repeat (first
    | (refine wpQuiet_skip (by rfl) ?_; simp only [Act.put, List.setIfInBounds_toArray, List.set_cons_zero, List.set_cons_succ])
    | (refine wpQuiet_load 33 _ (w.heap.size) (0) [.bool c, .bool d, .int .i64 u, .int .i64 v] _ (fun wq hq => hq.1.range rfl) Tryd.underlying33 sizePt rfl rfl rfl (by rfl) ?_; simp only [Act.put, List.setIfInBounds_toArray, List.set_cons_zero, List.set_cons_succ])
    | (refine' wpQuiet_take (by rfl) ?_ ?_
       rotate_left
       · (intro wq hq; (try dsimp only at hq); go_simp
          first
            | done
            | with_reducible rfl
            | (go_at_call 11; have hzz := hOf.out wq hq.2; with_reducible refine hzz.mono ?_; clear hzz; rintro e wz ⟨rfl, hb⟩; exact ⟨rfl, hK.out _ _ hq hb⟩)
            | (go_at_call 12; have hzz := hRf.out wq; with_reducible refine hzz.mono ?_; clear hzz; rintro e wz ⟨rfl, hb⟩; exact ⟨rfl, hK.out _ _ hq hb⟩)
            | (go_at_call 13; have hzz := hFp.out wq; with_reducible refine hzz.mono ?_; clear hzz; rintro e wz ⟨rfl, hb⟩; exact ⟨rfl, hK.out _ _ hq hb⟩)
            | (go_at_call 13; have hzz := hFs.out wq; with_reducible refine hzz.mono ?_; clear hzz; rintro e wz ⟨rfl, hb⟩; exact ⟨rfl, hK.out _ _ hq hb⟩)
            | (go_at_call 14; have hzz := hGp.out wq; with_reducible refine hzz.mono ?_; clear hzz; rintro e wz ⟨rfl, hb⟩; exact ⟨rfl, hK.out _ _ hq hb⟩)
            | (go_at_call 15; have hzz := haw.out wq hq.2; with_reducible refine hzz.mono ?_; clear hzz; rintro e wz ⟨rfl, hb⟩; exact ⟨rfl, hK.out _ _ hq hb⟩)
         )
       simp only [Act.put, List.setIfInBounds_toArray, List.set_cons_zero, List.set_cons_succ]))
  refine wpQuiet_nil ?_
  intro wy hy
  have hy' := hid hy
  clear hy hC0
  go_wp2
  go_ret
  exact ⟨rfl, hy'.out.2⟩

theorem joinV_agg (a b : Bool) (x y : Int) (a' b' : Bool) (x' y' : Int) : ∃ (j k : Bool) (m n : Int), joinV a b x y a' b' x' y' = .agg #[.bool j, .bool k, .int .i64 m, .int .i64 n] := by
  unfold joinV
  split
  · exact ⟨_, _, _, _, rfl⟩
  · exact ⟨_, _, _, _, rfl⟩

set_option maxRecDepth 10000 in
set_option maxHeartbeats 4000000 in
theorem piecesJoins_walk (a b : Bool) (x y : Int) (c d : Bool) (u v : Int) (w : World) (hT : Tab w) (h0 : 0 < w.heap.size) :
    Calls Tryd.prog 5 #[.agg #[.bool a, .bool b, .int .i64 x, .int .i64 y], .agg #[.bool c, .bool d, .int .i64 u, .int .i64 v]] w fun e w' => e = .returned (.bool true) ∧ Below w.heap.size w w' := by
  obtain ⟨j, k, m, n, hJ⟩ := joinV_agg a b x y c d u v
  have hJc := hid (fun (w1 : World) => join9_calls a b x y c d u v _ hJ w1)
  have hRc := hid (fun (w1 : World) => refJoin_calls a b x y c d u v _ hJ w1)
  have haw := hid (fun (w1 : World) (hb : Below w.heap.size w w1) => awake9_calls w1 (hT.below hb h0) (Nat.lt_of_lt_of_le h0 hb.size))
  have hse : ∀ z : World, (Op.equalIn 10000 33 (.agg #[.bool j, .bool k, .int .i64 m, .int .i64 n]) (.agg #[.bool j, .bool k, .int .i64 m, .int .i64 n])).run Tryd.prog z = .ok true z := fun z => by rw [eqPt]; simp
  have hK : Hid (∀ wq wz : World, (At wq w.heap.size #[.bool a, .bool b, .int .i64 x, .int .i64 y] 33 ∧ At wq (w.heap.size + 1) #[.bool c, .bool d, .int .i64 u, .int .i64 v] 33 ∧ Below w.heap.size w wq) → Below wq.heap.size wq wz → (At wz w.heap.size #[.bool a, .bool b, .int .i64 x, .int .i64 y] 33 ∧ At wz (w.heap.size + 1) #[.bool c, .bool d, .int .i64 u, .int .i64 v] 33 ∧ Below w.heap.size w wz)) := by
    rintro wq wz ⟨h1, h2, h3⟩ hz
    exact ⟨h1.keptAll hz, h2.keptAll hz, h3.trans (hz.mono h3.size)⟩
  have hC0 := hid (show At ((w.alloc (.cells #[.bool a, .bool b, .int .i64 x, .int .i64 y] 33)).alloc (.cells #[.bool c, .bool d, .int .i64 u, .int .i64 v] 33)) w.heap.size #[.bool a, .bool b, .int .i64 x, .int .i64 y] 33 ∧ At ((w.alloc (.cells #[.bool a, .bool b, .int .i64 x, .int .i64 y] 33)).alloc (.cells #[.bool c, .bool d, .int .i64 u, .int .i64 v] 33)) (w.heap.size + 1) #[.bool c, .bool d, .int .i64 u, .int .i64 v] 33 ∧ Below w.heap.size w ((w.alloc (.cells #[.bool a, .bool b, .int .i64 x, .int .i64 y] 33)).alloc (.cells #[.bool c, .bool d, .int .i64 u, .int .i64 v] 33)) from
    ⟨(At.new w _ _).alloc _, by have h := At.new (w.alloc (.cells #[.bool a, .bool b, .int .i64 x, .int .i64 y] 33)) #[.bool c, .bool d, .int .i64 u, .int .i64 v] 33; simpa using h, by repeat (first | with_reducible exact Below.refl _ _ | with_reducible refine Below.setCell ?_ (by first | (simp; done) | (simp; omega)) _ | with_reducible refine below_drewN ?_ _ | with_reducible refine Below.alloc ?_ (by first | (simp; done) | (simp; omega)) _ | with_reducible refine Below.drew ?_)⟩)
  clear hJ hT
  go_enter Tryd.func5, Tryd.ntmps5
  go_wp2_with fail
  refine wp_region_quiet (C := (fun w' => At w' w.heap.size #[.bool a, .bool b, .int .i64 x, .int .i64 y] 33 ∧ At w' (w.heap.size + 1) #[.bool c, .bool d, .int .i64 u, .int .i64 v] 33 ∧ Below w.heap.size w w')) (by kernel_rfl) (by kernel_rfl) (⟨hC0.out.1, hC0.out.2.1, hC0.out.2.2.drew⟩) ?_
  dsimp only
  repeat (first
    | (refine wpQuiet_skip (by rfl) ?_; simp only [Act.put, List.setIfInBounds_toArray, List.set_cons_zero, List.set_cons_succ])
    | (refine wpQuiet_load 33 _ (w.heap.size) (0) [.bool a, .bool b, .int .i64 x, .int .i64 y] _ (fun wq hq => hq.1.range rfl) Tryd.underlying33 sizePt rfl rfl rfl (by rfl) ?_; simp only [Act.put, List.setIfInBounds_toArray, List.set_cons_zero, List.set_cons_succ])
    | (refine wpQuiet_load 33 _ (w.heap.size + 1) (0) [.bool c, .bool d, .int .i64 u, .int .i64 v] _ (fun wq hq => hq.2.1.range rfl) Tryd.underlying33 sizePt rfl rfl rfl (by rfl) ?_; simp only [Act.put, List.setIfInBounds_toArray, List.set_cons_zero, List.set_cons_succ])
    | (refine' wpQuiet_take (by rfl) ?_ ?_
       rotate_left
       · (intro wq hq; (try dsimp only at hq); go_simp
          first
            | done
            | with_reducible rfl
            | (go_at_call 16; have hzz := hJc.out wq; with_reducible refine hzz.mono ?_; clear hzz; rintro e wz ⟨rfl, hb⟩; exact ⟨rfl, hK.out _ _ hq hb⟩)
            | (go_at_call 17; have hzz := hRc.out wq; with_reducible refine hzz.mono ?_; clear hzz; rintro e wz ⟨rfl, hb⟩; exact ⟨rfl, hK.out _ _ hq hb⟩)
            | (go_at_call 15; have hzz := haw.out wq hq.2.2; with_reducible refine hzz.mono ?_; clear hzz; rintro e wz ⟨rfl, hb⟩; exact ⟨rfl, hK.out _ _ hq hb⟩)
         )
       simp only [Act.put, List.setIfInBounds_toArray, List.set_cons_zero, List.set_cons_succ]))
  refine wpQuiet_nil ?_
  intro wy hy
  have hy' := hid hy
  clear hy hC0
  go_wp2
  go_ret
  exact ⟨rfl, hy'.out.2.2⟩
end Go.Proofs.YtdmmofdlokgfmaaDoor
