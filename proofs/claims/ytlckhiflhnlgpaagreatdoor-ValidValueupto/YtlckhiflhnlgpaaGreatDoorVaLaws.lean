/-
  ValidCheck, ValidScalar, ValidValue: the program's answers are the document's.
-/
import Derived.Test.YtlckhiflhnlgpaaGreatDoorVaAwk
import Derived.Test.YtlckhiflhnlgpaaGreatDoorRefVaE
namespace Go.Proofs.YtlckhiflhnlgpaaGreatDoor
open Go.RowKit Go.Shelf

set_option maxRecDepth 10000 in
set_option maxHeartbeats 1000000 in
theorem validCheck_walk (a0 : ByteArray) (h0 : a0.size ≤ 1048576) (a1 : Int) (h1 : (Lit.int .i64 a1).wf = true) (w : World) (h16 : Ok16 w) :
    Calls Tryz.prog 4 #[.string a0, .int .i64 a1] w fun e w' => e = .returned (.bool true) ∧ Below w.heap.size w w' := by
  have hEq := eqVer
  have h16' := hid h16
  have cA := hid (ck_calls a0 (by omega) a1 h1 w h16)
  clear h16
  go_enter Tryz.func4, Tryz.ntmps4
  go_wp2_with fail
  refine Calls.mono cA.out ?_
  rintro e w1 ⟨C, A, E, rfl, hI, hb1⟩
  have hI' := hid hI
  have A1 := hid (At.new w1 #[.int .i64 (C : Int), .int .i64 (A : Int)] 23)
  have B1 := hid (hb1.alloc hb1.size (.cells #[.int .i64 (C : Int), .int .i64 (A : Int)] 23))
  obtain ⟨n1, ha1⟩ : ∃ x, w1.heap.size = x := ⟨_, rfl⟩
  obtain ⟨W1, hW1⟩ : ∃ x, w1.alloc (.cells #[.int .i64 (C : Int), .int .i64 (A : Int)] 23) = x := ⟨_, rfl⟩
  rw [hW1] at B1
  rw [hW1, ha1] at A1
  have cB := hid (check16_calls a0 h0 a1 W1)
  clear cA hI hb1
  go_wp2_with fail
  refine Calls.mono cB.out ?_
  clear hW1 ha1
  rintro e w2 ⟨C', A', E', rfl, hI2, hb2⟩
  obtain ⟨rfl, rfl, rfl⟩ := hI2.uniq hI'.out
  have k1 := (A1.out.keptAll hb2).alloc (.cells #[.int .i64 (C' : Int), .int .i64 (A' : Int)] 23)
  have k2 := At.new w2 #[.int .i64 (C' : Int), .int .i64 (A' : Int)] 23
  have c10 := k1.cell 0
  have c11 := k1.cell 1
  have c20 := k2.cell 0
  have c21 := k2.cell 1
  simp only [List.getElem?_toArray, List.getElem?_cons_zero, List.getElem?_cons_succ] at c10 c11 c20 c21
  have B2 := hid ((B1.out.trans (hb2.mono B1.out.size)).alloc (Nat.le_trans B1.out.size hb2.size) (.cells #[.int .i64 (C' : Int), .int .i64 (A' : Int)] 23))
  have cS := hid (awake16_calls _ (h16'.out.below B2.out))
  clear cB hI2 hb2 A1 B1 k1 k2 hI'
  go_wp2_with fail
  refine Calls.mono cS.out ?_
  rintro e w3 ⟨rfl, hb3⟩
  have B3 := hid (B2.out.trans (hb3.mono B2.out.size))
  clear cS hb3 c10 c11 c20 c21
  go_wp2
  go_ret
  exact ⟨rfl, B3.out⟩

set_option maxRecDepth 10000 in
set_option maxHeartbeats 1000000 in
theorem validScalar_walk (a0 : ByteArray) (h0 : a0.size ≤ 1048576) (w : World) (h16 : Ok16 w) :
    Calls Tryz.prog 5 #[.string a0] w fun e w' => e = .returned (.bool true) ∧ Below w.heap.size w w' := by
  have h16' := hid h16
  obtain ⟨C, A, E, hC⟩ := chk_ex a0 1024
  obtain ⟨B, hB⟩ : ∃ B, Hid (B = decide (C = 1 ∧ maxD (depS a0) a0.size = 0)) := ⟨_, rfl⟩
  obtain ⟨X, hX⟩ : ∃ X, Hid (maxD (depS a0) a0.size = X) := ⟨_, rfl⟩
  have cA := hid (sc_calls a0 (by omega) C A E (hid hC) B hB w h16)
  have cB := hid (fun u : World => scalar16_calls a0 h0 C A E (hid hC) B hB u)
  have cD := hid (fun (u : World) (g : Ok16 u) => dp_calls a0 (by omega) u g)
  have cE := hid (fun u : World => depth16_calls a0 h0 u)
  rw [hX.out] at cD
  rw [dmx_max, hX.out] at cE
  clear h16 hC hB
  go_enter Tryz.func5, Tryz.ntmps5
  go_wp2_with fail
  refine Calls.mono cA.out ?_
  rintro e w1 ⟨rfl, hb1⟩
  have B1 := hid hb1
  clear cA hb1
  go_wp2_with fail
  refine Calls.mono (cB.out _) ?_
  rintro e w2 ⟨rfl, hb2⟩
  have B2 := hid (B1.out.trans (hb2.mono B1.out.size))
  clear cB hb2
  go_wp2_with fail
  refine Calls.mono (cD.out _ (h16'.out.below B2.out)) ?_
  rintro e w3 ⟨rfl, hb3⟩
  have B3 := hid (B2.out.trans (hb3.mono B2.out.size))
  clear cD hb3
  go_wp2_with fail
  refine Calls.mono (cE.out _) ?_
  rintro e w4 ⟨rfl, hb4⟩
  have B4 := hid (B3.out.trans (hb4.mono B3.out.size))
  clear cE hb4
  go_wp2_with fail
  refine Calls.mono (awake16_calls _ (h16'.out.below B4.out)) ?_
  rintro e w5 ⟨rfl, hb5⟩
  have B5 := hid (B4.out.trans (hb5.mono B4.out.size))
  clear hb5
  go_wp2
  go_ret
  exact ⟨rfl, B5.out⟩

set_option maxRecDepth 10000 in
set_option maxHeartbeats 1000000 in
theorem validValue_walk (a0 : ByteArray) (h0 : a0.size ≤ 1048576) (a1 : Int) (h1 : (Lit.int .i64 a1).wf = true) (w : World) (h16 : Ok16 w) :
    Calls Tryz.prog 6 #[.string a0, .int .i64 a1] w fun e w' => e = .returned (.bool true) ∧ Below w.heap.size w w' := by
  have h16' := hid h16
  obtain ⟨n, E, hV⟩ := val_ex a0 a1
  have cA := hid (vl_calls a0 (by omega) a1 h1 n E (hid hV) w h16)
  have cB := hid (fun u : World => val16_calls a0 h0 a1 n E (hid hV) u)
  clear h16 hV
  go_enter Tryz.func6, Tryz.ntmps6
  go_wp2_with fail
  refine Calls.mono cA.out ?_
  rintro e w1 ⟨rfl, hb1⟩
  have B1 := hid hb1
  clear cA hb1
  go_wp2_with fail
  refine Calls.mono (cB.out _) ?_
  rintro e w2 ⟨rfl, hb2⟩
  have B2 := hid (B1.out.trans (hb2.mono B1.out.size))
  clear cB hb2
  go_wp2_with fail
  refine Calls.mono (awake16_calls _ (h16'.out.below B2.out)) ?_
  rintro e w3 ⟨rfl, hb3⟩
  have B3 := hid (B2.out.trans (hb3.mono B2.out.size))
  clear hb3
  go_wp2
  go_ret
  exact ⟨rfl, B3.out⟩
end Go.Proofs.YtlckhiflhnlgpaaGreatDoor
