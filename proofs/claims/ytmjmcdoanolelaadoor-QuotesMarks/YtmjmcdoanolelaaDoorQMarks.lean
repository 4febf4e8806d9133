/-
  The walk of quarrylaw07.QuotesMarks.
-/
import Derived.Test.YtmjmcdoanolelaaDoorRefQ
import Derived.Test.YtmjmcdoanolelaaDoorQuoAwake
import Derived.SizedLaws
namespace Go.Proofs.YtmjmcdoanolelaaDoor
open Go.RowKit Go.Shelf

set_option maxRecDepth 10000 in
set_option maxHeartbeats 4000000 in
theorem quotesMarks_walk (s : ByteArray) (hs : s.size ≤ reachBytes) (w : World) (hT : Tab w) (h0 : 0 < w.heap.size) :
    Calls Tryd.prog 3 #[.string s] w fun e w' => e = .returned (.bool true) ∧ Below w.heap.size w w' := by
  have hs1 : s.size ≤ 140737488351232 := hs
  have hT' := hid hT
  clear hs hT
  obtain ⟨B, hB⟩ : ∃ B, Hid (openS s = B) := ⟨_, rfl⟩
  go_enter Tryd.func3, Tryd.ntmps3
  go_wp2_with fail
  refine Calls.mono (marksQ_calls s (by omega) w hT'.out h0) ?_
  rintro e w1 ⟨g, hg, rfl, hA, hb1⟩
  have hA' := hid hA
  have hb1' := hid hb1
  clear hA hb1
  go_wp2_with fail
  refine Calls.mono (refMarks_calls s hs1 w1) ?_
  rintro e w2 ⟨v, rfl, hrow, hb2⟩
  obtain ⟨ro, rc, rfl, hwd⟩ := wds_of_row hrow (fun _ _ => rowOf_lt _ _ _)
  have hwd' := hid hwd
  have hA2 := hid (hA'.out.keptAll hb2)
  have hb2' := hid (hb1'.out.trans (hb2.mono hb1'.out.size))
  clear hrow hwd hA' hb1' hb2
  go_wp2_with fail
  refine Calls.mono (same6 (by omega) _ _ _ _ _ hA2.out.row6 hwd'.out) ?_
  rintro e w3 ⟨rfl, hb3⟩
  have hb3' := hid (hb2'.out.trans (hb3.mono hb2'.out.size))
  clear hwd' hA2 hb2' hb3
  go_wp2_with fail
  refine Calls.mono (insideQ_calls s (by omega) w3 (hT'.out.below hb3'.out h0) (Nat.lt_of_lt_of_le h0 hb3'.out.size)) ?_
  rintro e w4 ⟨g4, hg4, rfl, hA4, hb4⟩
  have hA4' := hid hA4
  have hb4' := hid (hb3'.out.trans (hb4.mono hb3'.out.size))
  clear hA4 hb4 hb3'
  go_wp2_with fail
  refine Calls.mono (refInside_calls s hs1 w4) ?_
  rintro e w5 ⟨v5, rfl, hrow, hb5⟩
  obtain ⟨ro5, rc5, rfl, hwd⟩ := wds_of_row hrow (fun _ _ => rowOf_lt _ _ _)
  have hwd' := hid hwd
  have hA5 := hid (hA4'.out.keptAll hb5)
  have hb5' := hid (hb4'.out.trans (hb5.mono hb4'.out.size))
  clear hrow hwd hA4' hb4' hb5
  go_wp2_with fail
  refine Calls.mono (same6 (by omega) _ _ _ _ _ hA5.out.row6 hwd'.out) ?_
  rintro e w6 ⟨rfl, hb6⟩
  have hb6' := hid (hb5'.out.trans (hb6.mono hb5'.out.size))
  clear hwd' hA5 hb5' hb6
  go_wp2_with fail
  refine Calls.mono (openQ_calls s (by omega) B hB w6 (hT'.out.below hb6'.out h0) (Nat.lt_of_lt_of_le h0 hb6'.out.size)) ?_
  rintro e w7 ⟨rfl, hb7⟩
  have hb7' := hid (hb6'.out.trans (hb7.mono hb6'.out.size))
  clear hb6' hb7
  go_wp2_with fail
  refine Calls.mono (refOpen_calls s hs1 B hB w7) ?_
  rintro e w8 ⟨rfl, hb8⟩
  have hb8' := hid (hb7'.out.trans (hb8.mono hb7'.out.size))
  clear hb7' hb8 hB
  have eB : (B == B) = true := by simp
  go_wp2_with fail
  refine Calls.mono (awake7_calls w8 (hT'.out.below hb8'.out h0) (Nat.lt_of_lt_of_le h0 hb8'.out.size)) ?_
  rintro e w9 ⟨rfl, hb9⟩
  go_wp2
  go_ret
  exact ⟨rfl, hb8'.out.trans (hb9.mono hb8'.out.size)⟩
end Go.Proofs.YtmjmcdoanolelaaDoor
