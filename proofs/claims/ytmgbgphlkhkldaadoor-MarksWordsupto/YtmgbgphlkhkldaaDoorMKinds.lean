/-
  The walk of quarrylaw08.MarksKinds.
-/
import Derived.Test.YtmgbgphlkhkldaaDoorMkKind
namespace Go.Proofs.YtmgbgphlkhkldaaDoor
open Go.RowKit Go.Shelf

/-- The law's small text. -/
abbrev smB : ByteArray := ⟨#[123, 34, 97, 32, 98, 34, 32, 58, 32, 91, 49, 44, 116, 114, 117, 101, 93, 125]⟩
theorem kindC_calls (a : Int) (ha : (Lit.int .i64 a).wf = true) (k : Nat) (hk : kindN smB a = k) (w : World) (hT : Tab w) (hM : TabM w) (hw0 : 1 < w.heap.size) :
    Calls Tryd.prog 15 #[.string smB, .int .i64 a] w fun e w' => e = .returned (.int .u8 (k : Int)) ∧ Below w.heap.size w w' := kind8_calls smB (by decide) a ha k hk w hT hM hw0

set_option maxRecDepth 10000 in
set_option maxHeartbeats 4000000 in
theorem marksKinds_walk (s : ByteArray) (hs : s.size ≤ 1048576) (a : Int) (ha : (Lit.int .i64 a).wf = true) (w : World) (hT : Tab w) (hM : TabM w) (h0 : 1 < w.heap.size) :
    Calls Tryd.prog 5 #[.string s, .int .i64 a] w fun e w' => e = .returned (.bool true) ∧ Below w.heap.size w w' := by
  have k1 := hid (fun (w1 : World) (hb : Below w.heap.size w w1) => kindC_calls 1 (by decide) 34 (by decide +kernel) w1 (hT.below hb (by omega)) (hM.below hb h0) (by have := hb.size; omega))
  have k12 := hid (fun (w1 : World) (hb : Below w.heap.size w w1) => kindC_calls 12 (by decide) 119 (by decide +kernel) w1 (hT.below hb (by omega)) (hM.below hb h0) (by have := hb.size; omega))
  have k7 := hid (fun (w1 : World) (hb : Below w.heap.size w w1) => kindC_calls 7 (by decide) 58 (by decide +kernel) w1 (hT.below hb (by omega)) (hM.below hb h0) (by have := hb.size; omega))
  have k5 := hid (fun (w1 : World) (hb : Below w.heap.size w w1) => kindC_calls 5 (by decide) 0 (by decide +kernel) w1 (hT.below hb (by omega)) (hM.below hb h0) (by have := hb.size; omega))
  obtain ⟨k, hk⟩ : ∃ k, Hid (kindN s a = k) := ⟨_, rfl⟩
  have hS := hid (fun (w1 : World) (hb : Below w.heap.size w w1) => kind8_calls s (by omega) a ha k hk w1 (hT.below hb (by omega)) (hM.below hb h0) (by have := hb.size; omega))
  clear hT hM ha
  go_enter Tryd.func5, Tryd.ntmps5
  go_wp2_with fail
  refine Calls.mono (k1.out _ (Below.refl _ _)) ?_
  rintro e w1 ⟨rfl, hb1⟩
  go_wp2_with fail
  refine Calls.mono (k12.out _ hb1) ?_
  rintro e w2 ⟨rfl, hb2⟩
  have hB2 := hb1.trans (hb2.mono hb1.size)
  clear hb1 hb2 k1 k12
  go_wp2_with fail
  refine Calls.mono (k7.out _ hB2) ?_
  rintro e w3 ⟨rfl, hb3⟩
  have hB3 := hB2.trans (hb3.mono hB2.size)
  clear hB2 hb3 k7
  go_wp2_with fail
  refine Calls.mono (k5.out _ hB3) ?_
  rintro e w4 ⟨rfl, hb4⟩
  have hB4 := hB3.trans (hb4.mono hB3.size)
  clear hB3 hb4 k5
  go_wp2_with fail
  refine Calls.mono (hS.out _ hB4) ?_
  rintro e w5 ⟨rfl, hb5⟩
  have hB5 := hB4.trans (hb5.mono hB4.size)
  clear hB4 hb5 hS
  go_wp2_with fail
  refine Calls.mono (refKind_calls s hs a k hk w5) ?_
  rintro e w6 ⟨rfl, hb6⟩
  have hB6 := hB5.trans (hb6.mono hB5.size)
  have ek : ((k : Int) == (k : Int)) = true := by simp
  clear hB5 hb6 hk
  go_wp2
  go_ret
  exact ⟨rfl, hB6⟩
end Go.Proofs.YtmgbgphlkhkldaaDoor
