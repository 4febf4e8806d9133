/-
  The law DecimalCompares, walked.
-/
import Derived.Test.YteaambonlohcgaaRefCmp
namespace Go.Proofs.Yteaambonlohcgaa
open Go.RowKit Go.Shelf

theorem awakeC : cmpR false ⟨#[49]⟩ 2 false ⟨#[57, 57]⟩ 0 = (1, 0) := by decide +kernel
theorem cmpR_ex (n : Bool) (t : ByteArray) (x : Int) (n' : Bool) (t' : ByteArray) (x' : Int) : ∃ C E, Hid (cmpR n t x n' t' x' = (C, E)) := ⟨_, _, rfl⟩
set_option maxRecDepth 10000 in
set_option maxHeartbeats 4000000 in
theorem decimalCompares_walk (n : Bool) (t : ByteArray) (x : Int) (_ : (Lit.int .i64 x).wf = true) (hs : t.size ≤ reachBytes) (n' : Bool) (t' : ByteArray) (x' : Int) (_ : (Lit.int .i64 x').wf = true) (hs' : t'.size ≤ reachBytes) (w : World) :
    Calls Try.prog 3 #[.agg #[.bool n, .string t, .int .i64 x], .agg #[.bool n', .string t', .int .i64 x']] w fun e w' => e = .returned (.bool true) ∧ Below w.heap.size w w' := by
  have hr := reachBytes_lt
  obtain ⟨C, E, hC⟩ := cmpR_ex n t x n' t' x'
  have ca := hid (fun w1 => cmp_calls false ⟨#[49]⟩ 2 false ⟨#[57, 57]⟩ 0 (by decide) (by decide) 1 0 awakeC w1)
  have cc := hid (fun w1 => cmp_calls n t x n' t' x' (by omega) (by omega) C E hC w1)
  have cr := hid (fun w1 => refCmp_calls n t x n' t' x' (by omega) (by omega) C E hC w1)
  have T0 := hid (TwoD.new w n t x n' t' x')
  clear hC hs hs' hr
  go_enter Try.func3, Try.ntmps3
  go_wp2_with fail
  refine Calls.mono (ca.out _) ?_
  rintro e w1 ⟨rfl, hb⟩
  have T1 := hid (T0.out.kept hb)
  clear T0 ca hb
  obtain ⟨c0, c1, c2, d0, d1, d2⟩ := T1.out.facts
  go_wp2_with fail
  refine Calls.mono (cc.out _) ?_
  rintro e w2 ⟨rfl, hb⟩
  have T2 := hid (T1.out.kept hb)
  clear T1 cc hb c0 c1 c2 d0 d1 d2
  obtain ⟨c0, c1, c2, d0, d1, d2⟩ := T2.out.facts
  go_wp2_with fail
  refine Calls.mono (cr.out _) ?_
  rintro e w3 ⟨rfl, hb⟩
  have T3 := hid (T2.out.kept hb)
  clear T2 cr hb c0 c1 c2 d0 d1 d2
  have e0 : (C == C) = true := by simp
  have e1 : (E == E) = true := by simp
  go_wp2
  go_ret
  exact ⟨by first | rfl | simp, T3.out.below⟩
end Go.Proofs.Yteaambonlohcgaa
