/-
  The walk of quarrylaw07.QuotesControl.
-/
import Derived.Test.YtmjmcdoanolelaaDoorRefQ
import Derived.Test.YtmjmcdoanolelaaDoorQuoAwake
import Derived.SizedLaws
namespace Go.Proofs.YtmjmcdoanolelaaDoor
open Go.RowKit Go.Shelf

set_option maxRecDepth 10000 in
set_option maxHeartbeats 4000000 in
theorem quotesControl_walk (s : ByteArray) (hs : s.size ≤ reachBytes) (w : World) (hT : Tab w) (h0 : 0 < w.heap.size) :
    Calls Tryd.prog 4 #[.string s] w fun e w' => e = .returned (.bool true) ∧ Below w.heap.size w w' := by
  have hs1 : s.size ≤ 140737488351232 := hs
  have hT' := hid hT
  clear hs hT
  obtain ⟨C, hC, -, -⟩ := ctl_ex s
  have hC' := hid hC
  clear hC
  go_enter Tryd.func4, Tryd.ntmps4
  go_wp2_with fail
  refine Calls.mono (controlQ_calls s (by omega) C hC' w hT'.out h0) ?_
  rintro e w1 ⟨rfl, hb1⟩
  go_wp2_with fail
  refine Calls.mono (refControl_calls s hs1 C hC' w1) ?_
  rintro e w2 ⟨rfl, hb2⟩
  have hB := hid (hb1.trans (hb2.mono hb1.size))
  clear hb1 hb2
  go_wp2_with fail
  refine Calls.mono (awake7_calls w2 (hT'.out.below hB.out h0) (Nat.lt_of_lt_of_le h0 hB.out.size)) ?_
  rintro e w3 ⟨rfl, hb3⟩
  go_wp2
  go_ret
  exact ⟨rfl, hB.out.trans (hb3.mono hB.out.size)⟩
end Go.Proofs.YtmjmcdoanolelaaDoor
