/-
  What bitmap.changed and bitmap.Not answer of a row that isn't one.
-/
import Derived.Test.YtmjmcdoanolelaaDoorBitsB
namespace Go.Proofs.YtmjmcdoanolelaaDoor
open Go.RowKit

set_option maxRecDepth 10000 in
theorem changedBad_calls (n : Int) (ao : Option Addr) (k cap : Nat) (X : Nat → Nat) (f : Value) (hn : (Lit.int .i64 n).wf = true) (hk : k ≤ 17592186044416) (hB : Hid (¬ formed n k X)) (w : World) (hW : Wds w ao k X) :
    Calls Tryd.prog 41 #[bv n ao k cap, f] w fun e w' => e = .returned (.tuple #[bv 0 none 0 0, .int .i64 1]) ∧ Below w.heap.size w w' := by
  go_enter Tryd.func41, Tryd.ntmps41
  have hf := fun (w1 : World) (hb : Below w.heap.size w w1) => formed_calls n ao k cap X false hn hk ⟨fun h => (hB.out h).elim, fun h => by cases h⟩ w1 (hW.kept hb)
  have hf' : Hid _ := hf
  clear hf hW hB
  go_wp2_with fail
  refine Calls.mono (hf'.out _ (by repeat (first | with_reducible exact Below.refl _ _ | with_reducible refine Below.setCell ?_ (by first | (simp; done) | (simp; omega)) _ | with_reducible refine below_drewN ?_ _ | with_reducible refine Below.alloc ?_ (by first | (simp; done) | (simp; omega)) _ | with_reducible refine Below.drew ?_))) ?_
  rintro e w1 ⟨rfl, hb⟩
  have a1 : At w1 (w.heap.size + 1) #[.int .i64 0, .slice none 0 0] 25 := by
    have := (At.new (w.alloc (.cells #[.int .i64 n, .slice ao k cap] 25)) #[.int .i64 0, .slice none 0 0] 25).keptAll (by exact hb)
    simpa using this
  have hB1 : Below w.heap.size w w1 := Below.trans (by repeat (first | with_reducible exact Below.refl _ _ | with_reducible refine Below.setCell ?_ (by first | (simp; done) | (simp; omega)) _ | with_reducible refine below_drewN ?_ _ | with_reducible refine Below.alloc ?_ (by first | (simp; done) | (simp; omega)) _ | with_reducible refine Below.drew ?_)) (hb.mono (by simp; omega))
  obtain ⟨c0, c1, f0, f1⟩ := a1.facts
  have a1' : Hid (At w1 (w.heap.size + 1) #[.int .i64 0, .slice none 0 0] 25) := a1
  clear hb a1
  go_wp2
  exact ret_bits2 rfl rfl a1'.out.two rfl ⟨rfl, (hB1.setCell (p := ⟨w.heap.size + 1, 0, none⟩) (by show w.heap.size ≤ w.heap.size + 1; omega) _).setCell (p := ⟨w.heap.size + 1, 1, none⟩) (by show w.heap.size ≤ w.heap.size + 1; omega) _⟩
end Go.Proofs.YtmjmcdoanolelaaDoor
