/-
  ValidWraps: with blanks around, within an array, behind an object's colon, one of two.
-/
import Derived.Test.YtlckhiflhnlgpabGreatDoorVaAwk
namespace Go.Proofs.YtlckhiflhnlgpabGreatDoor
open Go.RowKit Go.Shelf

theorem code_doc {s : ByteArray} {C A : Nat} {E : Int} (h : IsChk s 1024 C A E) : C ≠ 2 ↔ docM (byts s) := by
  refine ⟨fun hc => ?_, fun hd => doc_code h hd⟩
  obtain ⟨-, h2 | h2 | h2⟩ := chk_codes h
  · exact absurd h2 hc
  · exact chk_doc h (.inl h2.1)
  · exact chk_doc h (.inr h2.1)
theorem doc_most {s : ByteArray} (h : docM (byts s)) : mostM mc0 (byts s) = maxD (depS s) s.size := (doc_depth (isDep s) h).1

set_option maxRecDepth 10000 in
set_option maxHeartbeats 4000000 in
theorem validWraps_walk (a0 : ByteArray) (h0 : a0.size ≤ 1048576) (a1 : ByteArray) (h1 : a1.size ≤ 1048576) (w : World) (h16 : Ok16 w) :
    Calls Tryz.prog 3 #[.string a0, .string a1] w fun e w' => e = .returned (.bool true) ∧ Below w.heap.size w w' := by
  have h16' := hid h16
  have adds : ∀ (x y z : ByteArray), x ++ y = z → x.size + y.size ≤ 8388608 → ∀ u : World, (Op.stringOp .add x y).run Tryz.prog u = .ok (.string z) u := fun x y z hz hs u => by rw [run_string_add_sum u x y (by omega), hz]
  obtain ⟨P1, hP1⟩ : ∃ X, (⟨#[32, 10]⟩ : ByteArray) ++ a0 = X := ⟨_, rfl⟩
  obtain ⟨P2, hP2⟩ : ∃ X, P1 ++ (⟨#[9, 13, 32]⟩ : ByteArray) = X := ⟨_, rfl⟩
  obtain ⟨L1, hL1⟩ : ∃ X, (⟨#[91]⟩ : ByteArray) ++ a0 = X := ⟨_, rfl⟩
  obtain ⟨L2, hL2⟩ : ∃ X, L1 ++ (⟨#[93]⟩ : ByteArray) = X := ⟨_, rfl⟩
  obtain ⟨O1, hO1⟩ : ∃ X, (⟨#[123, 34, 34, 58]⟩ : ByteArray) ++ a0 = X := ⟨_, rfl⟩
  obtain ⟨O2, hO2⟩ : ∃ X, O1 ++ (⟨#[125]⟩ : ByteArray) = X := ⟨_, rfl⟩
  obtain ⟨X2, hX2⟩ : ∃ X, L1 ++ (⟨#[44]⟩ : ByteArray) = X := ⟨_, rfl⟩
  obtain ⟨X3, hX3⟩ : ∃ X, X2 ++ a1 = X := ⟨_, rfl⟩
  obtain ⟨X4, hX4⟩ : ∃ X, X3 ++ (⟨#[93]⟩ : ByteArray) = X := ⟨_, rfl⟩
  have zP1 : P1.size = 2 + a0.size := by rw [← hP1, ByteArray.size_append]; rfl
  have zP2 : P2.size = P1.size + 3 := by rw [← hP2, ByteArray.size_append]; rfl
  have zL1 : L1.size = 1 + a0.size := by rw [← hL1, ByteArray.size_append]; rfl
  have zL2 : L2.size = L1.size + 1 := by rw [← hL2, ByteArray.size_append]; rfl
  have zO1 : O1.size = 4 + a0.size := by rw [← hO1, ByteArray.size_append]; rfl
  have zO2 : O2.size = O1.size + 1 := by rw [← hO2, ByteArray.size_append]; rfl
  have zX2 : X2.size = L1.size + 1 := by rw [← hX2, ByteArray.size_append]; rfl
  have zX3 : X3.size = X2.size + a1.size := by rw [← hX3, ByteArray.size_append]
  have zX4 : X4.size = X3.size + 1 := by rw [← hX4, ByteArray.size_append]; rfl
  have dP1 := adds _ _ _ hP1 (by show 2 + a0.size ≤ _; omega)
  have dP2 := adds _ _ _ hP2 (by show P1.size + 3 ≤ _; omega)
  have dL1 := adds _ _ _ hL1 (by show 1 + a0.size ≤ _; omega)
  have dL2 := adds _ _ _ hL2 (by show L1.size + 1 ≤ _; omega)
  have dO1 := adds _ _ _ hO1 (by show 4 + a0.size ≤ _; omega)
  have dO2 := adds _ _ _ hO2 (by show O1.size + 1 ≤ _; omega)
  have dX2 := adds _ _ _ hX2 (by show L1.size + 1 ≤ _; omega)
  have dX3 := adds _ _ _ hX3 (by omega)
  have dX4 := adds _ _ _ hX4 (by show X3.size + 1 ≤ _; omega)
  have bP2 : byts P2 = [32, 10] ++ byts a0 ++ [9, 13, 32] := by rw [← hP2, ← hP1, byts_append, byts_append]; rfl
  have bL2 : byts L2 = [91] ++ byts a0 ++ [93] := by rw [← hL2, ← hL1, byts_append, byts_append]; rfl
  have bO2 : byts O2 = [123, 34, 34, 58] ++ byts a0 ++ [125] := by rw [← hO2, ← hO1, byts_append, byts_append]; rfl
  have bX4 : byts X4 = [91] ++ byts a0 ++ [44] ++ byts a1 ++ [93] := by rw [← hX4, ← hX3, ← hX2, ← hL1, byts_append, byts_append, byts_append, byts_append]; rfl
  obtain ⟨C1, A1, E1, k1⟩ := chk_ex a0 1024
  obtain ⟨C2, A2, E2, k2⟩ := chk_ex a1 1024
  obtain ⟨CP, AP, EP, kP⟩ := chk_ex P2 1024
  obtain ⟨CL, AL, EL, kL⟩ := chk_ex L2 1024
  obtain ⟨CO, AO, EO, kO⟩ := chk_ex O2 1024
  obtain ⟨CX, AX, EX, kX⟩ := chk_ex X4 1024
  have g1 := hid (fun (u : World) (g : Ok16 u) => code16_calls a0 (by omega) C1 A1 E1 (hid k1) u g)
  have g2 := hid (fun (u : World) (g : Ok16 u) => code16_calls a1 (by omega) C2 A2 E2 (hid k2) u g)
  have gP := hid (fun (u : World) (g : Ok16 u) => code16_calls P2 (by omega) CP AP EP (hid kP) u g)
  have gL := hid (fun (u : World) (g : Ok16 u) => code16_calls L2 (by omega) CL AL EL (hid kL) u g)
  have gO := hid (fun (u : World) (g : Ok16 u) => code16_calls O2 (by omega) CO AO EO (hid kO) u g)
  have gX := hid (fun (u : World) (g : Ok16 u) => code16_calls X4 (by omega) CX AX EX (hid kX) u g)
  have e1 := hid (fun (u : World) (g : Ok16 u) => dp_calls a0 (by omega) u g)
  have e2 := hid (fun (u : World) (g : Ok16 u) => dp_calls a1 (by omega) u g)
  have eL := hid (fun (u : World) (g : Ok16 u) => dp_calls L2 (by omega) u g)
  have eO := hid (fun (u : World) (g : Ok16 u) => dp_calls O2 (by omega) u g)
  have eX := hid (fun (u : World) (g : Ok16 u) => dp_calls X4 (by omega) u g)
  have i1 := code_doc k1
  have i2 := code_doc k2
  have iP := code_doc kP
  have iL := code_doc kL
  have iO := code_doc kO
  have iX := code_doc kX
  rw [bP2] at iP
  rw [bL2] at iL
  rw [bO2] at iO
  rw [bX4] at iX
  have iP2 : CP ≠ 2 ↔ C1 ≠ 2 := iP.trans ((doc_blanks (by decide) (by decide)).trans i1.symm)
  clear h16 adds k1 k2 kP kL kO kX hP1 hP2 hL1 hL2 hO1 hO2 hX2 hX3 hX4 zP1 zP2 zL1 zL2 zO1 zO2 zX2 zX3 zX4
  go_enter Tryz.func3, Tryz.ntmps3
  go_wp2_with fail
  refine Calls.mono (awake16_calls _ h16'.out) ?_
  rintro e w1 ⟨rfl, hb⟩
  have B1 := hid hb
  clear hb
  go_wp2_with fail
  refine Calls.mono (g1.out _ (h16'.out.below B1.out)) ?_
  rintro e w2 ⟨rfl, hb⟩
  have B2 := hid (B1.out.trans (hb.mono B1.out.size))
  clear hb B1
  go_wp2_with fail
  refine Calls.mono (g2.out _ (h16'.out.below B2.out)) ?_
  rintro e w3 ⟨rfl, hb⟩
  have B3 := hid (B2.out.trans (hb.mono B2.out.size))
  clear hb B2
  by_cases hone : C1 = 2
  · subst hone
    obtain rfl : CP = 2 := by
      by_cases h : CP = 2
      · exact h
      · exact absurd rfl (iP2.1 h)
    clear iP iL iO iX i1 iP2 i2
    go_wp2_with fail
    refine Calls.mono (gP.out _ (h16'.out.below B3.out)) ?_
    rintro e w4 ⟨rfl, hb⟩
    have B4 := hid (B3.out.trans (hb.mono B3.out.size))
    clear hb B3
    go_wp2
    go_ret
    exact ⟨rfl, B4.out⟩
  · have hd0 := i1.1 hone
    have hCP := iP2.2 hone
    obtain ⟨l1, l2⟩ := doc_list hd0
    obtain ⟨o1, o2⟩ := doc_object hd0
    have hCL := iL.2 l1
    have hCO := iO.2 o1
    rw [← bL2] at l1 l2
    rw [← bO2] at o1 o2
    rw [doc_most l1, doc_most hd0] at l2
    rw [doc_most o1, doc_most hd0] at o2
    obtain ⟨D1, hD1⟩ : ∃ D, Hid (maxD (depS a0) a0.size = D) := ⟨_, rfl⟩
    rw [hD1.out] at l2 o2
    rw [hD1.out] at e1
    rw [l2] at eL
    rw [o2] at eO
    have n1 : ((C1 : Int) != 2) = true := by simp; omega
    have n1b : ((C1 : Int) == 2) = false := by simp; omega
    have nP : ((CP : Int) != 2) = true := by simp; omega
    have nPb : ((CP : Int) == 2) = false := by simp; omega
    have nL : ((CL : Int) == 2) = false := by simp; omega
    have nO : ((CO : Int) == 2) = false := by simp; omega
    have hDs : D1 ≤ 1048577 := by
      rw [← hD1.out, ← dmx_max]
      exact Nat.le_trans (dmx_le (k := a0.size) fun i hi => Nat.le_trans (dep_le a0 i) (by omega)) (by omega)
    have hDi : ((D1 + 1 : Nat) : Int) = (D1 : Int) + 1 := by omega
    rw [hDi] at eL eO
    have hX : C2 ≠ 2 → Hid (((CX : Int) != 2) = true ∧ ((CX : Int) == 2) = false ∧ maxD (depS X4) X4.size = 1 + max D1 (maxD (depS a1) a1.size)) := fun h2 => by
      have hd1 := i2.1 h2
      obtain ⟨x1, x2⟩ := doc_two hd0 hd1
      have hCX := iX.2 x1
      rw [← bX4] at x1 x2
      rw [doc_most x1, doc_most hd0, doc_most hd1, hD1.out] at x2
      exact ⟨by simp; omega, by simp; omega, x2⟩
    replace hX := hid hX
    clear iP iL iO iX i1 iP2 i2 l1 l2 o1 o2 hd0 bP2 bL2 bO2 bX4 hCL hCO hCP hDi
    go_wp2_with fail
    refine Calls.mono (gP.out _ (h16'.out.below B3.out)) ?_
    rintro e w4 ⟨rfl, hb⟩
    have B4 := hid (B3.out.trans (hb.mono B3.out.size))
    clear hb B3 gP
    go_wp2_with fail
    refine Calls.mono (e1.out _ (h16'.out.below B4.out)) ?_
    rintro e w5 ⟨rfl, hb⟩
    have B5 := hid (B4.out.trans (hb.mono B4.out.size))
    clear hb B4 e1
    go_wp2_with fail
    refine Calls.mono (gL.out _ (h16'.out.below B5.out)) ?_
    rintro e w6 ⟨rfl, hb⟩
    have B6 := hid (B5.out.trans (hb.mono B5.out.size))
    clear hb B5 gL
    go_wp2_with fail
    refine Calls.mono (gO.out _ (h16'.out.below B6.out)) ?_
    rintro e w7 ⟨rfl, hb⟩
    have B7 := hid (B6.out.trans (hb.mono B6.out.size))
    clear hb B6 gO
    go_wp2_with fail
    refine Calls.mono (eL.out _ (h16'.out.below B7.out)) ?_
    rintro e w8 ⟨rfl, hb⟩
    have B8 := hid (B7.out.trans (hb.mono B7.out.size))
    clear hb B7 eL
    go_wp2_with fail
    refine Calls.mono (eO.out _ (h16'.out.below B8.out)) ?_
    rintro e w9 ⟨rfl, hb⟩
    have B9 := hid (B8.out.trans (hb.mono B8.out.size))
    clear hb B8 eO
    by_cases htwo : C2 = 2
    · subst htwo
      clear hX
      go_wp2
      go_ret
      exact ⟨rfl, B9.out⟩
    · obtain ⟨x1, x2, x3⟩ := (hX.out htwo).out
      rw [x3] at eX
      obtain ⟨D2, hD2⟩ : ∃ D, Hid (maxD (depS a1) a1.size = D) := ⟨_, rfl⟩
      rw [hD2.out] at eX e2
      have hDs2 : D2 ≤ 1048577 := by
        rw [← hD2.out, ← dmx_max]
        exact Nat.le_trans (dmx_le (k := a1.size) fun i hi => Nat.le_trans (dep_le a1 i) (by omega)) (by omega)
      have n2 : ((C2 : Int) != 2) = true := by simp; omega
      have n2b : ((C2 : Int) == 2) = false := by simp; omega
      have hmx : ((1 + max D1 D2 : Nat) : Int) = 1 + max (D1 : Int) (D2 : Int) := by omega
      rw [hmx] at eX
      clear hX x3 hmx htwo
      go_wp2_with fail
      refine Calls.mono (gX.out _ (h16'.out.below B9.out)) ?_
      rintro e w10 ⟨rfl, hb⟩
      have B10 := hid (B9.out.trans (hb.mono B9.out.size))
      clear hb B9 gX
      go_wp2_with fail
      refine Calls.mono (eX.out _ (h16'.out.below B10.out)) ?_
      rintro e w11 ⟨rfl, hb⟩
      have B11 := hid (B10.out.trans (hb.mono B10.out.size))
      clear hb B10 eX
      go_wp2_with fail
      refine Calls.mono (e2.out _ (h16'.out.below B11.out)) ?_
      rintro e w12 ⟨rfl, hb⟩
      have B12 := hid (B11.out.trans (hb.mono B11.out.size))
      clear hb B11 e2
      go_wp2
      go_ret
      exact ⟨rfl, B12.out⟩
end Go.Proofs.YtlckhiflhnlgpabGreatDoor
