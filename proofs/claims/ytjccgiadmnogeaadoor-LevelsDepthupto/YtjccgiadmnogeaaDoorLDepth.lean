/-
  The walk through quarrylaw10.LevelsDepth.
-/
import Derived.Test.YtjccgiadmnogeaaDoorLvAwake
import Derived.Test.YtjccgiadmnogeaaDoorRefL
namespace Go.Proofs.YtjccgiadmnogeaaDoor
open Go.RowKit Go.Shelf

set_option maxRecDepth 10000 in
set_option maxHeartbeats 4000000 in
theorem levelsDepth_walk (s : ByteArray) (hs : s.size ≤ 1048576) (a : Int) (ha : (Lit.int .i64 a).wf = true) (w : World) (hT : Tab w) (hM : TabM w) (h0 : 1 < w.heap.size) :
    Calls Tryd.prog 7 #[.string s, .int .i64 a] w fun e w' => e = .returned (.bool true) ∧ Below w.heap.size w w' := by
  obtain ⟨D, hD⟩ : ∃ D, Hid (depN s a = D) := ⟨_, rfl⟩
  have hDe := hid (depth_calls s (by omega) a D hD w hT hM h0)
  have hRd := hid (fun (w1 : World) => refDepth_calls s (by omega) a D hD w1)
  have hCl := hid (fun (w1 : World) (hb : Below w.heap.size w w1) => close_calls s (by omega) a ha w1 (hT.below hb (by omega)) (hM.below hb h0) (by have := hb.size; omega))
  have hRc := hid (fun (c : Int) (hc : Hid (IsCls s a c)) (w1 : World) => refClose_calls s (by omega) a c hc w1)
  have hAw := hid (fun (w1 : World) (hb : Below w.heap.size w w1) => awake10_calls w1 (hT.below hb (by omega)) (hM.below hb h0) (by have := hb.size; omega))
  clear hT hM h0 hs ha
  go_enter Tryd.func7, Tryd.ntmps7
  go_wp2_with fail
  refine Calls.mono hDe.out ?_
  rintro e w1 ⟨rfl, q1⟩
  have hb1 := hid q1
  clear q1 hDe
  go_wp2_with fail
  refine Calls.mono (hRd.out _) ?_
  rintro e w2 ⟨rfl, q2⟩
  have hb2 := hid (hb1.out.trans (q2.mono hb1.out.size))
  clear q2 hb1 hRd
  have e1 : ((D : Int) == (D : Int)) = true := by simp
  go_wp2_with fail
  refine Calls.mono (hCl.out _ hb2.out) ?_
  rintro e w3 ⟨c, rfl, hc, q3⟩
  have hb3 := hid (hb2.out.trans (q3.mono hb2.out.size))
  have hc' := hid hc
  clear q3 hb2 hCl hc
  go_wp2_with fail
  refine Calls.mono (hRc.out c hc' _) ?_
  rintro e w4 ⟨rfl, q4⟩
  have hb4 := hid (hb3.out.trans (q4.mono hb3.out.size))
  clear q4 hb3 hRc
  have e2 : (c == c) = true := by simp
  go_wp2_with fail
  refine Calls.mono (hAw.out _ hb4.out) ?_
  rintro e w5 ⟨rfl, q5⟩
  have hb5 := hid (hb4.out.trans (q5.mono hb4.out.size))
  clear q5 hb4 hAw
  go_wp2
  go_ret
  exact ⟨rfl, hb5.out⟩
end Go.Proofs.YtjccgiadmnogeaaDoor
