/-
  quarryref17.plain, kind by kind: the fields that a kind uses, all others zero.
-/
import Derived.Test.YthfbmelfflpenaaDoorTrG
namespace Go.Proofs.YthfbmelfflpenaaDoor
open Go.RowKit Go.Shelf
set_option maxRecDepth 10000 in
set_option maxHeartbeats 4000000 in
theorem plain_1 (b : Bool) (r t : ByteArray) (ko : Option Addr) (N kc : Nat) (vo : Option Addr) (M vc : Nat) (w : World) :
    Calls Tryd.prog 31 #[.agg #[.int .i64 1, .bool b, .string r, .string t, .slice ko N kc, .slice vo M vc]] w fun e w' => e = .returned (.bool (decide (N = 0) && (decide (M = 0) && (!b && ((r.toList == []) && (t.toList == [])))))) ∧ Below w.heap.size w w' := by
  go_enter Tryd.func31, Tryd.ntmps31
  go_wp2
  all_goals go_ret
  all_goals (refine ⟨?_, by repeat (first | with_reducible exact Below.refl _ _ | with_reducible refine Below.setCell ?_ (by first | (simp; done) | (simp; omega)) _ | with_reducible refine below_drewN ?_ _ | with_reducible refine Below.alloc ?_ (by first | (simp; done) | (simp; omega)) _ | with_reducible refine Below.drew ?_)⟩)
  all_goals (simp_all [Array.getD]; done)
set_option maxRecDepth 10000 in
set_option maxHeartbeats 4000000 in
theorem plain_2 (b : Bool) (r t : ByteArray) (ko : Option Addr) (N kc : Nat) (vo : Option Addr) (M vc : Nat) (w : World) :
    Calls Tryd.prog 31 #[.agg #[.int .i64 2, .bool b, .string r, .string t, .slice ko N kc, .slice vo M vc]] w fun e w' => e = .returned (.bool (decide (N = 0) && (decide (M = 0) && ((r.toList == []) && (t.toList == []))))) ∧ Below w.heap.size w w' := by
  go_enter Tryd.func31, Tryd.ntmps31
  go_wp2
  all_goals go_ret
  all_goals (refine ⟨?_, by repeat (first | with_reducible exact Below.refl _ _ | with_reducible refine Below.setCell ?_ (by first | (simp; done) | (simp; omega)) _ | with_reducible refine below_drewN ?_ _ | with_reducible refine Below.alloc ?_ (by first | (simp; done) | (simp; omega)) _ | with_reducible refine Below.drew ?_)⟩)
  all_goals (simp_all [Array.getD]; done)
set_option maxRecDepth 10000 in
set_option maxHeartbeats 4000000 in
theorem plain_5 (b : Bool) (r t : ByteArray) (ko : Option Addr) (N kc : Nat) (vo : Option Addr) (M vc : Nat) (w : World) :
    Calls Tryd.prog 31 #[.agg #[.int .i64 5, .bool b, .string r, .string t, .slice ko N kc, .slice vo M vc]] w fun e w' => e = .returned (.bool (!b && ((r.toList == []) && ((t.toList == []) && decide (N = 0))))) ∧ Below w.heap.size w w' := by
  go_enter Tryd.func31, Tryd.ntmps31
  go_wp2
  all_goals go_ret
  all_goals (refine ⟨?_, by repeat (first | with_reducible exact Below.refl _ _ | with_reducible refine Below.setCell ?_ (by first | (simp; done) | (simp; omega)) _ | with_reducible refine below_drewN ?_ _ | with_reducible refine Below.alloc ?_ (by first | (simp; done) | (simp; omega)) _ | with_reducible refine Below.drew ?_)⟩)
  all_goals (simp_all [Array.getD]; done)
end Go.Proofs.YthfbmelfflpenaaDoor
