/-
 Steps: what they take, whether they are well shaped; path.of, takes, plain.
-/
import Derived.Test.YtbabdhepnjacdaaDoorPack1
import Derived.Test.YtbabdhepnjacdaaDoorTpC
namespace Go.Proofs.YtbabdhepnjacdaaDoor
open Go.RowKit Go.Shelf
/-- A step. -/
structure Stp where
 kind : Int
 name : ByteArray
 place : Int
/-- What path.of makes of it. -/
def ifV (s : Stp) : Value := if s.kind = 1 then .iface 95 (.string s.name) else if s.kind = 2 then .iface 98 (.int .i64 s.place) else if s.kind = 3 then .iface 99 (.agg #[]) else .nilIface
theorem eq_str (a b : ByteArray) : (a.toList == b.toList) = decide (a = b) := by
 rw [ByteArray.toList_eq, ByteArray.toList_eq]
 by_cases h : a = b
 ·subst h; simp
 ·have : a.data.toList ≠ b.data.toList := fun e => h (ByteArray.ext (by simpa using e))
  rw [decide_eq_false h]
  exact beq_eq_false_iff_ne.2 this
theorem asB_B (s : ByteArray) (u : World) : (Instr.typeAssert (.iface 95 (.string s)) 80 95 true).run Tryd.prog u = .ok (.tuple #[.string s, .bool true]) u := by kernel_rfl
theorem asP_B (i : Int) (u : World) : (Instr.typeAssert (.iface 98 (.int .i64 i)) 80 95 true).run Tryd.prog u = .ok (.tuple #[.string ⟨#[]⟩, .bool false]) u := by kernel_rfl
theorem asP_P (i : Int) (u : World) : (Instr.typeAssert (.iface 98 (.int .i64 i)) 80 98 true).run Tryd.prog u = .ok (.tuple #[.int .i64 i, .bool true]) u := by kernel_rfl
theorem asE_B (u : World) : (Instr.typeAssert (.iface 99 (.agg #[])) 80 95 true).run Tryd.prog u = .ok (.tuple #[.string ⟨#[]⟩, .bool false]) u := by kernel_rfl
theorem asE_P (u : World) : (Instr.typeAssert (.iface 99 (.agg #[])) 80 98 true).run Tryd.prog u = .ok (.tuple #[.int .i64 0, .bool false]) u := by kernel_rfl
theorem asE_E (u : World) : (Instr.typeAssert (.iface 99 (.agg #[])) 80 99 true).run Tryd.prog u = .ok (.tuple #[.agg #[], .bool true]) u := by kernel_rfl
theorem asN_B (u : World) : (Instr.typeAssert .nilIface 80 95 true).run Tryd.prog u = .ok (.tuple #[.string ⟨#[]⟩, .bool false]) u := by kernel_rfl
theorem asN_P (u : World) : (Instr.typeAssert .nilIface 80 98 true).run Tryd.prog u = .ok (.tuple #[.int .i64 0, .bool false]) u := by kernel_rfl
theorem asN_E (u : World) : (Instr.typeAssert .nilIface 80 99 true).run Tryd.prog u = .ok (.tuple #[.agg #[], .bool false]) u := by kernel_rfl
set_option maxRecDepth 10000 in
set_option maxHeartbeats 4000000 in
theorem of22_calls (s : Stp) (w : World) : Calls Tryd.prog 50 #[.agg #[.int .i64 s.kind, .string s.name, .int .i64 s.place]] w fun e w' => e = .returned (ifV s) ∧ Below w.heap.size w w' := by
 obtain ⟨k, nm, pl⟩ := s
 dsimp only
 by_cases h1 : k = 1
 ·subst h1
  go_enter Tryd.func50, Tryd.ntmps50
  go_wp2
  go_ret
  exact ⟨rfl, by repeat (first | with_reducible exact Below.refl _ _ | with_reducible refine Below.setCell ?_ (by first | (simp; done) | (simp; omega)) _ | with_reducible refine below_drewN ?_ _ | with_reducible refine Below.alloc ?_ (by first | (simp; done) | (simp; omega)) _ | with_reducible refine Below.drew ?_)⟩
 ·have b1 : (k == 1) = false := beq_eq_false_iff_ne.2 h1
  by_cases h2 : k = 2
  ·subst h2
   go_enter Tryd.func50, Tryd.ntmps50
   go_wp2
   go_ret
   exact ⟨rfl, by repeat (first | with_reducible exact Below.refl _ _ | with_reducible refine Below.setCell ?_ (by first | (simp; done) | (simp; omega)) _ | with_reducible refine below_drewN ?_ _ | with_reducible refine Below.alloc ?_ (by first | (simp; done) | (simp; omega)) _ | with_reducible refine Below.drew ?_)⟩
  ·have b2 : (k == 2) = false := beq_eq_false_iff_ne.2 h2
   by_cases h3 : k = 3
   ·subst h3
    go_enter Tryd.func50, Tryd.ntmps50
    go_wp2
    go_ret
    exact ⟨rfl, by repeat (first | with_reducible exact Below.refl _ _ | with_reducible refine Below.setCell ?_ (by first | (simp; done) | (simp; omega)) _ | with_reducible refine below_drewN ?_ _ | with_reducible refine Below.alloc ?_ (by first | (simp; done) | (simp; omega)) _ | with_reducible refine Below.drew ?_)⟩
   ·have b3 : (k == 3) = false := beq_eq_false_iff_ne.2 h3
    have e : ifV ⟨k, nm, pl⟩ = .nilIface := by unfold ifV; rw [if_neg h1, if_neg h2, if_neg h3]
    rw [e]
    clear e h1 h2 h3
    go_enter Tryd.func50, Tryd.ntmps50
    go_wp2
    go_ret
    exact ⟨rfl, by repeat (first | with_reducible exact Below.refl _ _ | with_reducible refine Below.setCell ?_ (by first | (simp; done) | (simp; omega)) _ | with_reducible refine below_drewN ?_ _ | with_reducible refine Below.alloc ?_ (by first | (simp; done) | (simp; omega)) _ | with_reducible refine Below.drew ?_)⟩
end Go.Proofs.YtbabdhepnjacdaaDoor
