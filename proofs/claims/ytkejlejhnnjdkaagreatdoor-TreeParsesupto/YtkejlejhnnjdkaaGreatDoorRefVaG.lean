/-
 RefVaB, RefVaC, RefVaD, one behind the other.
-/
import Derived.Test.YtkejlejhnnjdkaaGreatDoorRefVaA
import Derived.Test.YtkejlejhnnjdkaaGreatDoorPack7
import Derived.Test.YtkejlejhnnjdkaaGreatDoorPack5
import Derived.Test.YtkejlejhnnjdkaaGreatDoorRefL
/- RefVa5, RefVa6, one behind the other. -/
/- What the reference's machine does with the first byte of a value. -/
namespace Go.Proofs.YtkejlejhnnjdkaaGreatDoor
open Go.RowKit Go.Shelf
set_option maxRecDepth 10000 in
set_option maxHeartbeats 400000 in
theorem value16_34 (b : Nat) (t : TypeId) (v : Value) (wd : ByteArray) (m : Mc) (w : World) (hA : At w b (mcC v wd m) t) :
  Calls Tryz.prog 80 #[.pointer (some ⟨b, 0, none⟩), .int .u8 34] w fun e w' => e = .returned (.bool true) ∧ w' = ((w.setCell ⟨b, 2, none⟩ (.bool false)).setCell ⟨b, 1, none⟩ (.int .i64 6)) := by
  have hM := mcAt_of hA
  have c1 := hM.c1
  have c2 := hM.c2
  have c3 := hM.c3
  have f1 := hA.frozen 1
  have f2 := hA.frozen 2
  have f3 := hA.frozen 3
  clear hM hA
  go_enter Tryz.func80, Tryz.ntmps80
  go_wp2
  go_ret
  exact ⟨rfl, rfl⟩
set_option maxRecDepth 10000 in
set_option maxHeartbeats 400000 in
theorem value16_45 (b : Nat) (t : TypeId) (v : Value) (wd : ByteArray) (m : Mc) (w : World) (hA : At w b (mcC v wd m) t) :
  Calls Tryz.prog 80 #[.pointer (some ⟨b, 0, none⟩), .int .u8 45] w fun e w' => e = .returned (.bool true) ∧ w' = ((w.setCell ⟨b, 2, none⟩ (.bool false)).setCell ⟨b, 1, none⟩ (.int .i64 10)) := by
  have hM := mcAt_of hA
  have c1 := hM.c1
  have c2 := hM.c2
  have c3 := hM.c3
  have f1 := hA.frozen 1
  have f2 := hA.frozen 2
  have f3 := hA.frozen 3
  clear hM hA
  go_enter Tryz.func80, Tryz.ntmps80
  go_wp2
  go_ret
  exact ⟨rfl, rfl⟩
set_option maxRecDepth 10000 in
set_option maxHeartbeats 400000 in
theorem value16_48 (b : Nat) (t : TypeId) (v : Value) (wd : ByteArray) (m : Mc) (w : World) (hA : At w b (mcC v wd m) t) :
  Calls Tryz.prog 80 #[.pointer (some ⟨b, 0, none⟩), .int .u8 48] w fun e w' => e = .returned (.bool true) ∧ w' = ((w.setCell ⟨b, 2, none⟩ (.bool false)).setCell ⟨b, 1, none⟩ (.int .i64 11)) := by
  have hM := mcAt_of hA
  have c1 := hM.c1
  have c2 := hM.c2
  have c3 := hM.c3
  have f1 := hA.frozen 1
  have f2 := hA.frozen 2
  have f3 := hA.frozen 3
  clear hM hA
  go_enter Tryz.func80, Tryz.ntmps80
  go_wp2
  go_ret
  exact ⟨rfl, rfl⟩
set_option maxRecDepth 10000 in
set_option maxHeartbeats 400000 in
theorem value16_110 (b : Nat) (t : TypeId) (v : Value) (wd : ByteArray) (m : Mc) (w : World) (hA : At w b (mcC v wd m) t) :
  Calls Tryz.prog 80 #[.pointer (some ⟨b, 0, none⟩), .int .u8 110] w fun e w' => e = .returned (.bool true) ∧ w' = (((w.setCell ⟨b, 2, none⟩ (.bool false)).setCell ⟨b, 1, none⟩ (.int .i64 9)).setCell ⟨b, 3, none⟩ (.string ⟨#[117, 108, 108]⟩)) := by
  have hM := mcAt_of hA
  have c1 := hM.c1
  have c2 := hM.c2
  have c3 := hM.c3
  have f1 := hA.frozen 1
  have f2 := hA.frozen 2
  have f3 := hA.frozen 3
  clear hM hA
  go_enter Tryz.func80, Tryz.ntmps80
  go_wp2
  go_ret
  exact ⟨rfl, rfl⟩
set_option maxRecDepth 10000 in
set_option maxHeartbeats 400000 in
theorem value16_116 (b : Nat) (t : TypeId) (v : Value) (wd : ByteArray) (m : Mc) (w : World) (hA : At w b (mcC v wd m) t) :
  Calls Tryz.prog 80 #[.pointer (some ⟨b, 0, none⟩), .int .u8 116] w fun e w' => e = .returned (.bool true) ∧ w' = (((w.setCell ⟨b, 2, none⟩ (.bool false)).setCell ⟨b, 1, none⟩ (.int .i64 9)).setCell ⟨b, 3, none⟩ (.string ⟨#[114, 117, 101]⟩)) := by
  have hM := mcAt_of hA
  have c1 := hM.c1
  have c2 := hM.c2
  have c3 := hM.c3
  have f1 := hA.frozen 1
  have f2 := hA.frozen 2
  have f3 := hA.frozen 3
  clear hM hA
  go_enter Tryz.func80, Tryz.ntmps80
  go_wp2
  go_ret
  exact ⟨rfl, rfl⟩
set_option maxRecDepth 10000 in
set_option maxHeartbeats 400000 in
theorem value16_102 (b : Nat) (t : TypeId) (v : Value) (wd : ByteArray) (m : Mc) (w : World) (hA : At w b (mcC v wd m) t) :
  Calls Tryz.prog 80 #[.pointer (some ⟨b, 0, none⟩), .int .u8 102] w fun e w' => e = .returned (.bool true) ∧ w' = (((w.setCell ⟨b, 2, none⟩ (.bool false)).setCell ⟨b, 1, none⟩ (.int .i64 9)).setCell ⟨b, 3, none⟩ (.string ⟨#[97, 108, 115, 101]⟩)) := by
  have hM := mcAt_of hA
  have c1 := hM.c1
  have c2 := hM.c2
  have c3 := hM.c3
  have f1 := hA.frozen 1
  have f2 := hA.frozen 2
  have f3 := hA.frozen 3
  clear hM hA
  go_enter Tryz.func80, Tryz.ntmps80
  go_wp2
  go_ret
  exact ⟨rfl, rfl⟩
set_option maxRecDepth 10000 in
set_option maxHeartbeats 400000 in
theorem value16_dig (b : Nat) (t : TypeId) (v : Value) (wd : ByteArray) (m : Mc) (w : World) (hA : At w b (mcC v wd m) t) (c : Nat) (hc : c < 256) (h1 : 49 ≤ c) (h2 : c ≤ 57) :
  Calls Tryz.prog 80 #[.pointer (some ⟨b, 0, none⟩), .int .u8 (c : Int)] w fun e w' => e = .returned (.bool true) ∧ w' = ((w.setCell ⟨b, 2, none⟩ (.bool false)).setCell ⟨b, 1, none⟩ (.int .i64 12)) := by
  have hM := mcAt_of hA
  have c1 := hM.c1
  have c2 := hM.c2
  have c3 := hM.c3
  have f1 := hA.frozen 1
  have f2 := hA.frozen 2
  have f3 := hA.frozen 3
  have hdg : digN c = true := by unfold digN; simp; omega
  have g0 : ((c : Int) == 91) = false := by simp; omega
  have g1 : ((c : Int) == 123) = false := by simp; omega
  have g2 : ((c : Int) == 34) = false := by simp; omega
  have g3 : ((c : Int) == 45) = false := by simp; omega
  have g4 : ((c : Int) == 48) = false := by simp; omega
  have g5 : ((c : Int) == 110) = false := by simp; omega
  have g6 : ((c : Int) == 116) = false := by simp; omega
  have g7 : ((c : Int) == 102) = false := by simp; omega
  have hdx := hid (digit16_calls c hc)
  rw [hdg] at hdx
  clear hM hA hdg h1 h2
  go_enter Tryz.func80, Tryz.ntmps80
  go_wp2_with (first | (refine (hdx.out _).mono ?_; rintro e w1 ⟨rfl, hw1⟩; rw [hw1]; clear hw1))
  go_ret
  exact ⟨rfl, rfl⟩
set_option maxRecDepth 10000 in
set_option maxHeartbeats 400000 in
theorem value16_no (b : Nat) (t : TypeId) (v : Value) (wd : ByteArray) (m : Mc) (w : World) (hA : At w b (mcC v wd m) t) (c : Nat) (hc : c < 256) (hne : c ≠ 91 ∧ c ≠ 123 ∧ c ≠ 34 ∧ c ≠ 45 ∧ c ≠ 48 ∧ c ≠ 110 ∧ c ≠ 116 ∧ c ≠ 102) (hdg : digN c = false) :
  Calls Tryz.prog 80 #[.pointer (some ⟨b, 0, none⟩), .int .u8 (c : Int)] w fun e w' => e = .returned (.bool false) ∧ w' = (w.setCell ⟨b, 2, none⟩ (.bool false)) := by
  have hM := mcAt_of hA
  have c1 := hM.c1
  have c2 := hM.c2
  have c3 := hM.c3
  have f1 := hA.frozen 1
  have f2 := hA.frozen 2
  have f3 := hA.frozen 3
  obtain ⟨n0, n1, n2, n3, n4, n5, n6, n7⟩ := hne
  have g0 : ((c : Int) == 91) = false := by simp; omega
  have g1 : ((c : Int) == 123) = false := by simp; omega
  have g2 : ((c : Int) == 34) = false := by simp; omega
  have g3 : ((c : Int) == 45) = false := by simp; omega
  have g4 : ((c : Int) == 48) = false := by simp; omega
  have g5 : ((c : Int) == 110) = false := by simp; omega
  have g6 : ((c : Int) == 116) = false := by simp; omega
  have g7 : ((c : Int) == 102) = false := by simp; omega
  have hdx := hid (digit16_calls c hc)
  rw [hdg] at hdx
  clear hM hA hdg n0 n1 n2 n3 n4 n5 n6 n7
  go_enter Tryz.func80, Tryz.ntmps80
  go_wp2_with (first | (refine (hdx.out _).mono ?_; rintro e w1 ⟨rfl, hw1⟩; rw [hw1]; clear hw1))
  go_ret
  exact ⟨rfl, rfl⟩
set_option maxRecDepth 10000 in
set_option maxHeartbeats 1000000 in
theorem value16_91 (B b : Nat) (t : TypeId) (v : Value) (wd : ByteArray) (m : Mc) (w : World) (hM : McIn B b t v wd m w) (hB : B ≤ w.heap.size) (hn : m.op.length ≤ 1099511627776) :
  Calls Tryz.prog 80 #[.pointer (some ⟨b, 0, none⟩), .int .u8 91] w fun e w' => e = .returned (.bool true) ∧ BelX v.ownBlock b w w' ∧ ∃ v', McIn B b t v' wd { m with nm := false, op := m.op ++ [91], st := 1 } w' := by
  have hA := hM.at_
  have hC := mcAt_of hA
  have c0 := hC.c0
  have c1 := hC.c1
  have c2 := hC.c2
  have f0 := hA.frozen 0
  have f1 := hA.frozen 1
  have f2 := hA.frozen 2
  obtain ⟨W, hW⟩ : ∃ W, w.setCell ⟨b, 2, none⟩ (.bool false) = W := ⟨_, rfl⟩
  have hAW : At W b (mcC v wd { m with nm := false }) t := by rw [← hW]; simpa [mcC] using hA.set 2 (.bool false)
  have hOW : Only b w W := by rw [← hW]; exact (Only.refl _ _).set _ _
  have hrow := hid (own_only hM.row hM.lt hOW)
  have hlt := hM.lt
  have hword := hid hM.word
  have hsW := hOW.2.1
  have k0 := (mcAt_of hAW).c0
  have hAW' := hid hAW
  have hOW' := hid hOW
  have hBW := hid (show B ≤ W.heap.size by omega)
  obtain ⟨n, hnn⟩ : ∃ n, Hid (m.op.length = n) := ⟨_, rfl⟩
  rw [hnn.out] at hrow hn
  obtain ⟨i0, hi0, hz0', hz1, hz2⟩ := info_parts infoU8
  have g0 := hid hz0'
  have g1 := hid hz1
  have g2 := hid hz2
  have g3 := hid hi0
  clear hz0' hz1 hz2 hi0 hM hC hA hAW hOW hsW hB
  go_enter Tryz.func80, Tryz.ntmps80
  go_wp2_with (first
   | (at_builtin; (try rw [hW]); refine wpList_append_own _ rfl _ _ 52 rfl B 5 i0 (.int .u8 0) 1 1 Tryz.underlying52 g3.out g0.out g1.out g2.out rfl (by decide) _ _ _ rfl (World.ownsRow.alloc hrow.out _) ⟨W.heap.size, 0, none⟩ 1 1 [.int .u8 91] rfl rfl (fun j u hj => by match j, hj with | 0, hj => simp at hj; subst hj; simp [Addr.add]) (fun u hu => by simp at hu; subst hu; rfl) (by unfold maxLen; omega) (by omega) (by rw [World.size_alloc]; have := hBW.out; omega) ?_)
   | go_in)
  intro v' w' hown hgrow _
  obtain ⟨g', cap', rfl⟩ : ∃ g cap, v' = .slice (some ⟨g, 0, none⟩) (n + 1) cap := by
   rcases hown.2 with ⟨-, h⟩ | ⟨g, cap, cur, h, -⟩
   ·omega
   ·exact ⟨g, cap, h⟩
  have hne : some b ≠ v.ownBlock := fun e => by have := (hrow.out.lt b e.symm).1; omega
  have hAw : At w' b (mcC v wd { m with nm := false }) t := (hgrow.block b (by rw [World.size_alloc]; have := hAW'.out.lt; omega) hne).trans (hAW'.out.alloc _)
  have hown' := hid hown
  have hAw' := hid hAw
  have hbx : Hid (BelX v.ownBlock b w w') := hid (((BelX.of_only hOW'.out).trans (BelX.of_alloc W _)).trans (BelX.of_grown hgrow))
  have j0 := (mcAt_of hAw).c0
  have j1 := (mcAt_of hAw).c1
  have i0' := hAw.frozen 0
  have i1' := hAw.frozen 1
  clear hown hgrow hAw hW hAW' hOW' k0 c0 c1 c2 f0 f1 f2 hne
  go_wp2
  go_ret
  refine ⟨rfl, hbx.out.trans (BelX.of_only (((Only.refl _ _).set _ _).set _ _)), .slice (some ⟨g', 0, none⟩) (n + 1) cap', ?_, ?_, hword.out, hlt⟩
  ·simpa [mcC] using (hAw'.out.set 0 (.slice (some ⟨g', 0, none⟩) (n + 1) cap')).set 1 (.int .i64 1)
  ·have h := own_only (own_only hown'.out hlt ((Only.refl b w').set 0 (.slice (some ⟨g', 0, none⟩) (n + 1) cap'))) hlt ((Only.refl b (w'.setCell ⟨b, 0, none⟩ (.slice (some ⟨g', 0, none⟩) (n + 1) cap'))).set 1 (.int .i64 1))
   show (World.setCell _ _ _).ownsRow B 5 1 _ (m.op ++ [91]).length (opC (m.op ++ [91]))
   rw [List.length_append, hnn.out, opC_app]
   exact h
set_option maxRecDepth 10000 in
set_option maxHeartbeats 1000000 in
theorem value16_123 (B b : Nat) (t : TypeId) (v : Value) (wd : ByteArray) (m : Mc) (w : World) (hM : McIn B b t v wd m w) (hB : B ≤ w.heap.size) (hn : m.op.length ≤ 1099511627776) :
  Calls Tryz.prog 80 #[.pointer (some ⟨b, 0, none⟩), .int .u8 123] w fun e w' => e = .returned (.bool true) ∧ BelX v.ownBlock b w w' ∧ ∃ v', McIn B b t v' wd { m with nm := false, op := m.op ++ [123], st := 2 } w' := by
  have hA := hM.at_
  have hC := mcAt_of hA
  have c0 := hC.c0
  have c1 := hC.c1
  have c2 := hC.c2
  have f0 := hA.frozen 0
  have f1 := hA.frozen 1
  have f2 := hA.frozen 2
  obtain ⟨W, hW⟩ : ∃ W, w.setCell ⟨b, 2, none⟩ (.bool false) = W := ⟨_, rfl⟩
  have hAW : At W b (mcC v wd { m with nm := false }) t := by rw [← hW]; simpa [mcC] using hA.set 2 (.bool false)
  have hOW : Only b w W := by rw [← hW]; exact (Only.refl _ _).set _ _
  have hrow := hid (own_only hM.row hM.lt hOW)
  have hlt := hM.lt
  have hword := hid hM.word
  have hsW := hOW.2.1
  have k0 := (mcAt_of hAW).c0
  have hAW' := hid hAW
  have hOW' := hid hOW
  have hBW := hid (show B ≤ W.heap.size by omega)
  obtain ⟨n, hnn⟩ : ∃ n, Hid (m.op.length = n) := ⟨_, rfl⟩
  rw [hnn.out] at hrow hn
  obtain ⟨i0, hi0, hz0', hz1, hz2⟩ := info_parts infoU8
  have g0 := hid hz0'
  have g1 := hid hz1
  have g2 := hid hz2
  have g3 := hid hi0
  clear hz0' hz1 hz2 hi0 hM hC hA hAW hOW hsW hB
  go_enter Tryz.func80, Tryz.ntmps80
  go_wp2_with (first
   | (at_builtin; (try rw [hW]); refine wpList_append_own _ rfl _ _ 52 rfl B 5 i0 (.int .u8 0) 1 1 Tryz.underlying52 g3.out g0.out g1.out g2.out rfl (by decide) _ _ _ rfl (World.ownsRow.alloc hrow.out _) ⟨W.heap.size, 0, none⟩ 1 1 [.int .u8 123] rfl rfl (fun j u hj => by match j, hj with | 0, hj => simp at hj; subst hj; simp [Addr.add]) (fun u hu => by simp at hu; subst hu; rfl) (by unfold maxLen; omega) (by omega) (by rw [World.size_alloc]; have := hBW.out; omega) ?_)
   | go_in)
  intro v' w' hown hgrow _
  obtain ⟨g', cap', rfl⟩ : ∃ g cap, v' = .slice (some ⟨g, 0, none⟩) (n + 1) cap := by
   rcases hown.2 with ⟨-, h⟩ | ⟨g, cap, cur, h, -⟩
   ·omega
   ·exact ⟨g, cap, h⟩
  have hne : some b ≠ v.ownBlock := fun e => by have := (hrow.out.lt b e.symm).1; omega
  have hAw : At w' b (mcC v wd { m with nm := false }) t := (hgrow.block b (by rw [World.size_alloc]; have := hAW'.out.lt; omega) hne).trans (hAW'.out.alloc _)
  have hown' := hid hown
  have hAw' := hid hAw
  have hbx : Hid (BelX v.ownBlock b w w') := hid (((BelX.of_only hOW'.out).trans (BelX.of_alloc W _)).trans (BelX.of_grown hgrow))
  have j0 := (mcAt_of hAw).c0
  have j1 := (mcAt_of hAw).c1
  have i0' := hAw.frozen 0
  have i1' := hAw.frozen 1
  clear hown hgrow hAw hW hAW' hOW' k0 c0 c1 c2 f0 f1 f2 hne
  go_wp2
  go_ret
  refine ⟨rfl, hbx.out.trans (BelX.of_only (((Only.refl _ _).set _ _).set _ _)), .slice (some ⟨g', 0, none⟩) (n + 1) cap', ?_, ?_, hword.out, hlt⟩
  ·simpa [mcC] using (hAw'.out.set 0 (.slice (some ⟨g', 0, none⟩) (n + 1) cap')).set 1 (.int .i64 2)
  ·have h := own_only (own_only hown'.out hlt ((Only.refl b w').set 0 (.slice (some ⟨g', 0, none⟩) (n + 1) cap'))) hlt ((Only.refl b (w'.setCell ⟨b, 0, none⟩ (.slice (some ⟨g', 0, none⟩) (n + 1) cap'))).set 1 (.int .i64 2))
   show (World.setCell _ _ _).ownsRow B 5 1 _ (m.op ++ [123]).length (opC (m.op ++ [123]))
   rw [List.length_append, hnn.out, opC_app]
   exact h
/-- What a byte does to a machine in memory: it is taken, and the machine is the next one; or it can't stand there, and the row of its brackets is as it was. -/
def StepAt (B b : Nat) (t : TypeId) (v : Value) (m : Mc) (E : Option Mc) (w : World) (e : Ending) (w' : World) : Prop :=
 e = .returned (.bool E.isSome) ∧ BelX v.ownBlock b w w' ∧ (∀ k, E = some k → ∃ v' wd', McIn B b t v' wd' k w') ∧ (E = none → w'.ownsRow B 5 1 v m.op.length (opC m.op))
theorem stepAt_none {B b : Nat} {t : TypeId} {v : Value} {wd : ByteArray} {m : Mc} {w w' : World} (hM : McIn B b t v wd m w) (h : Only b w w') : StepAt B b t v m none w (.returned (.bool false)) w' :=
 ⟨rfl, BelX.of_only h, fun k hk => (by cases hk), fun _ => own_only hM.row hM.lt h⟩
theorem stepAt_some {B b : Nat} {t : TypeId} {v : Value} {wd wd' : ByteArray} {m k : Mc} {w w' : World} (hM : McIn B b t v wd m w) (h : Only b w w') (hA : At w' b (mcC v wd' k) t) (ho : k.op = m.op) (hw : byts wd' = k.wd) : StepAt B b t v m (some k) w (.returned (.bool true)) w' :=
 ⟨rfl, BelX.of_only h, fun k' hk => by
  injection hk with hk
  subst hk
  exact ⟨v, wd', hA, by rw [ho]; exact own_only hM.row hM.lt h, hw, hM.lt⟩, fun hk => by cases hk⟩
set_option maxHeartbeats 2000000 in
theorem value16_calls (B b : Nat) (t : TypeId) (v : Value) (wd : ByteArray) (m : Mc) (c : Nat) (hc : c < 256) (w : World) (hM : McIn B b t v wd m w) (hB : B ≤ w.heap.size) (hn : m.op.length ≤ 1099511627776) :
  Calls Tryz.prog 80 #[.pointer (some ⟨b, 0, none⟩), .int .u8 (c : Int)] w fun e w' => StepAt B b t v m (valueM m c) w e w' := by
 have hA := hM.at_
 by_cases k91 : c = 91
 ·subst k91
  refine (value16_91 B b t v wd m w hM hB hn).mono ?_
  rintro _ w' ⟨rfl, h1, v', h2⟩
  have e : valueM m 91 = some { m with nm := false, op := m.op ++ [91], st := 1 } := by unfold valueM; rw [if_pos rfl]
  rw [e]
  exact ⟨rfl, h1, fun k hk => by injection hk with hk; subst hk; exact ⟨v', wd, h2⟩, fun hk => by cases hk⟩
 by_cases k123 : c = 123
 ·subst k123
  refine (value16_123 B b t v wd m w hM hB hn).mono ?_
  rintro _ w' ⟨rfl, h1, v', h2⟩
  have e : valueM m 123 = some { m with nm := false, op := m.op ++ [123], st := 2 } := by unfold valueM; rw [if_neg (by decide), if_pos rfl]
  rw [e]
  exact ⟨rfl, h1, fun k hk => by injection hk with hk; subst hk; exact ⟨v', wd, h2⟩, fun hk => by cases hk⟩
 by_cases k34 : c = 34
 ·subst k34
  refine (value16_34 b t v wd m w hA).mono ?_
  rintro _ w' ⟨rfl, rfl⟩
  have e : valueM m 34 = some { m with nm := false, st := 6 } := by unfold valueM; rw [if_neg (by decide), if_neg (by decide), if_pos rfl]
  rw [e]
  exact stepAt_some hM (((Only.refl _ _).set _ _).set _ _) (by simpa [mcC] using (hA.set 2 (.bool false)).set 1 (.int .i64 6)) rfl hM.word
 by_cases k45 : c = 45
 ·subst k45
  refine (value16_45 b t v wd m w hA).mono ?_
  rintro _ w' ⟨rfl, rfl⟩
  have e : valueM m 45 = some { m with nm := false, st := 10 } := by unfold valueM; rw [if_neg (by decide), if_neg (by decide), if_neg (by decide), if_pos rfl]
  rw [e]
  exact stepAt_some hM (((Only.refl _ _).set _ _).set _ _) (by simpa [mcC] using (hA.set 2 (.bool false)).set 1 (.int .i64 10)) rfl hM.word
 by_cases k48 : c = 48
 ·subst k48
  refine (value16_48 b t v wd m w hA).mono ?_
  rintro _ w' ⟨rfl, rfl⟩
  have e : valueM m 48 = some { m with nm := false, st := 11 } := by unfold valueM; rw [if_neg (by decide), if_neg (by decide), if_neg (by decide), if_neg (by decide), if_pos rfl]
  rw [e]
  exact stepAt_some hM (((Only.refl _ _).set _ _).set _ _) (by simpa [mcC] using (hA.set 2 (.bool false)).set 1 (.int .i64 11)) rfl hM.word
 by_cases kdig : 49 ≤ c ∧ c ≤ 57
 ·have hdg : digN c = true := by unfold digN; simp; omega
  refine (value16_dig b t v wd m w hA c hc kdig.1 kdig.2).mono ?_
  rintro _ w' ⟨rfl, rfl⟩
  have e : valueM m c = some { m with nm := false, st := 12 } := by unfold valueM; rw [if_neg (by omega), if_neg (by omega), if_neg (by omega), if_neg (by omega), if_neg (by omega), if_pos hdg]
  rw [e]
  exact stepAt_some hM (((Only.refl _ _).set _ _).set _ _) (by simpa [mcC] using (hA.set 2 (.bool false)).set 1 (.int .i64 12)) rfl hM.word
 by_cases k110 : c = 110
 ·subst k110
  refine (value16_110 b t v wd m w hA).mono ?_
  rintro _ w' ⟨rfl, rfl⟩
  have e : valueM m 110 = some { m with nm := false, st := 9, wd := [117, 108, 108] } := by unfold valueM; rw [if_neg (by decide), if_neg (by decide), if_neg (by decide), if_neg (by decide), if_neg (by decide), if_neg (by decide), if_pos rfl]
  rw [e]
  exact stepAt_some (wd' := ⟨#[117, 108, 108]⟩) hM ((((Only.refl _ _).set _ _).set _ _).set _ _) (by simpa [mcC] using ((hA.set 2 (.bool false)).set 1 (.int .i64 9)).set 3 (.string ⟨#[117, 108, 108]⟩)) rfl (show byts ⟨#[117, 108, 108]⟩ = [117, 108, 108] by decide)
 by_cases k116 : c = 116
 ·subst k116
  refine (value16_116 b t v wd m w hA).mono ?_
  rintro _ w' ⟨rfl, rfl⟩
  have e : valueM m 116 = some { m with nm := false, st := 9, wd := [114, 117, 101] } := by unfold valueM; rw [if_neg (by decide), if_neg (by decide), if_neg (by decide), if_neg (by decide), if_neg (by decide), if_neg (by decide), if_neg (by decide), if_pos rfl]
  rw [e]
  exact stepAt_some (wd' := ⟨#[114, 117, 101]⟩) hM ((((Only.refl _ _).set _ _).set _ _).set _ _) (by simpa [mcC] using ((hA.set 2 (.bool false)).set 1 (.int .i64 9)).set 3 (.string ⟨#[114, 117, 101]⟩)) rfl (show byts ⟨#[114, 117, 101]⟩ = [114, 117, 101] by decide)
 by_cases k102 : c = 102
 ·subst k102
  refine (value16_102 b t v wd m w hA).mono ?_
  rintro _ w' ⟨rfl, rfl⟩
  have e : valueM m 102 = some { m with nm := false, st := 9, wd := [97, 108, 115, 101] } := by unfold valueM; rw [if_neg (by decide), if_neg (by decide), if_neg (by decide), if_neg (by decide), if_neg (by decide), if_neg (by decide), if_neg (by decide), if_neg (by decide), if_pos rfl]
  rw [e]
  exact stepAt_some (wd' := ⟨#[97, 108, 115, 101]⟩) hM ((((Only.refl _ _).set _ _).set _ _).set _ _) (by simpa [mcC] using ((hA.set 2 (.bool false)).set 1 (.int .i64 9)).set 3 (.string ⟨#[97, 108, 115, 101]⟩)) rfl (show byts ⟨#[97, 108, 115, 101]⟩ = [97, 108, 115, 101] by decide)
 have hdg : digN c = false := by unfold digN; simp; omega
 refine (value16_no b t v wd m w hA c hc ⟨k91, k123, k34, k45, k48, k110, k116, k102⟩ hdg).mono ?_
 rintro _ w' ⟨rfl, rfl⟩
 have e : valueM m c = none := by unfold valueM; rw [if_neg k91, if_neg k123, if_neg k34, if_neg k45, if_neg k48, if_neg (by rw [hdg]; decide), if_neg k110, if_neg k116, if_neg k102]
 rw [e]
 exact stepAt_none hM ((Only.refl _ _).set _ _)
end Go.Proofs.YtkejlejhnnjdkaaGreatDoor
/- What the reference's machine does with a byte behind a value. -/
namespace Go.Proofs.YtkejlejhnnjdkaaGreatDoor
open Go.RowKit Go.Shelf
theorem own_pop {B g N cap : Nat} {xs : List Value} {w : World} (h : w.ownsRow B 5 1 (.slice (some ⟨g, 0, none⟩) (N + 1) cap) (N + 1) xs) : w.ownsRow B 5 1 (.slice (some ⟨g, 0, none⟩) N cap) N xs.dropLast := by
 obtain ⟨h1, h2⟩ := h
 rcases h2 with ⟨h, _⟩ | ⟨g', cap', cur, hv, hb, hg, hc, hm, hs, ht⟩
 ·cases h
 ·injection hv with e1 e2 e3
  injection e1 with e1
  injection e1 with e1
  subst e1 e3
  refine ⟨by rw [List.length_dropLast]; omega, .inr ⟨g, cap, cur, rfl, hb, hg, by omega, hm, hs, ?_⟩⟩
  rw [Nat.mul_one] at ht hs ⊢
  rw [← ht, List.dropLast_eq_take, List.take_take, List.length_take, Array.length_toList, hs]
  congr 1
  omega
theorem opC_drop (l : List Nat) : (opC l).dropLast = opC l.dropLast := by unfold opC; rw [List.map_dropLast]
set_option maxRecDepth 10000 in
set_option maxHeartbeats 1000000 in
theorem after16_blank (B b : Nat) (t : TypeId) (v : Value) (wd : ByteArray) (m : Mc) (w : World) (hM : McIn B b t v wd m w) (hB : B ≤ w.heap.size) (hn : m.op.length ≤ 1099511627776) (c : Nat) (hc : c < 256) (hbc : blankN c = true) :
  Calls Tryz.prog 79 #[.pointer (some ⟨b, 0, none⟩), .int .u8 (c : Int)] w fun e w' => StepAt B b t v m (afterM m c) w e w' := by
 have hdum := hB
 clear hdum
 have hA := hM.at_
 have hC := mcAt_of hA
 have c1 := hC.c1
 have f1 := hA.frozen 1
 have hcw := hid hM
 obtain ⟨W, hW⟩ : ∃ W, w.setCell ⟨b, 1, none⟩ (.int .i64 5) = W := ⟨_, rfl⟩
 have hOW : Only b w W := by rw [← hW]; exact (Only.refl _ _).set _ _
 have hAW : At W b (mcC v wd { m with st := 5 }) t := by rw [← hW]; simpa [mcC] using hA.set 1 (.int .i64 5)
 have hMW : McIn B b t v wd { m with st := 5 } W := ⟨hAW, own_only hM.row hM.lt hOW, hM.word, hM.lt⟩
 obtain ⟨T, hT⟩ : ∃ T, Hid (topN m = T) := ⟨_, rfl⟩
 have htop := top16_calls B b t v wd { m with st := 5 } W hMW hn
 rw [show topN { m with st := 5 } = T from hT.out] at htop
 have htop' := hid htop
 have hMW' := hid hMW
 have hOW' := hid hOW
 clear htop hAW hMW hOW hA hC hM
 have hbl := hid (blank16_calls c hc)
 rw [hbc] at hbl
 have hE : Hid (afterM m c = some { m with st := 5 }) := hid (by unfold afterM; rw [if_pos hbc])
 clear hbc
 go_enter Tryz.func79, Tryz.ntmps79
 go_wp2_with fail
 refine htop'.out.mono ?_
 rintro e W2 ⟨rfl, hb2⟩
 have hA2 := hMW'.out.at_.keptAll hb2
 have hr2 := hid (own_below hMW'.out.row hb2)
 have hA2' := hid hA2
 have hb2' := hid hb2
 have d0 := (mcAt_of hA2).c0
 have d1 := (mcAt_of hA2).c1
 have e0 := hA2.frozen 0
 have e1 := hA2.frozen 1
 clear hA2 hb2 htop' hW c1 f1
 go_wp2_with (first | (refine (hbl.out _).mono ?_; rintro e w1 ⟨rfl, hw1⟩; rw [hw1]; clear hw1))
 go_ret
 rw [hE.out]
 refine ⟨rfl, ((BelX.of_only hOW'.out).trans (BelX.of_below hb2'.out)), fun k hk => ?_, fun hk => by cases hk⟩
 injection hk with hk
 subst hk
 exact ⟨v, wd, hA2'.out, hr2.out, hMW'.out.word, hMW'.out.lt⟩
set_option maxRecDepth 10000 in
set_option maxHeartbeats 1000000 in
theorem after16_c91 (B b : Nat) (t : TypeId) (v : Value) (wd : ByteArray) (m : Mc) (w : World) (hM : McIn B b t v wd m w) (hB : B ≤ w.heap.size) (hn : m.op.length ≤ 1099511627776) (c : Nat) (hc : c < 256) (h44 : c = 44) (h91 : topN m = 91) :
  Calls Tryz.prog 79 #[.pointer (some ⟨b, 0, none⟩), .int .u8 (c : Int)] w fun e w' => StepAt B b t v m (afterM m c) w e w' := by
 have hdum := hB
 clear hdum
 have hA := hM.at_
 have hC := mcAt_of hA
 have c1 := hC.c1
 have f1 := hA.frozen 1
 have hcw := hid hM
 obtain ⟨W, hW⟩ : ∃ W, w.setCell ⟨b, 1, none⟩ (.int .i64 5) = W := ⟨_, rfl⟩
 have hOW : Only b w W := by rw [← hW]; exact (Only.refl _ _).set _ _
 have hAW : At W b (mcC v wd { m with st := 5 }) t := by rw [← hW]; simpa [mcC] using hA.set 1 (.int .i64 5)
 have hMW : McIn B b t v wd { m with st := 5 } W := ⟨hAW, own_only hM.row hM.lt hOW, hM.word, hM.lt⟩
 obtain ⟨T, hT⟩ : ∃ T, Hid (topN m = T) := ⟨_, rfl⟩
 have htop := top16_calls B b t v wd { m with st := 5 } W hMW hn
 rw [show topN { m with st := 5 } = T from hT.out] at htop
 have htop' := hid htop
 have hMW' := hid hMW
 have hOW' := hid hOW
 clear htop hAW hMW hOW hA hC hM
 have hbl := hid (blank16_calls c hc)
 have hbc : blankN c = false := by unfold blankN; simp; omega
 rw [hbc] at hbl
 have g44 : ((c : Int) == 44) = true := by simp; omega
 have g93 : ((c : Int) == 93) = false := by simp; omega
 have g125 : ((c : Int) == 125) = false := by simp; omega
 have t91 : ((T : Int) == 91) = true := by have := hT.out; simp; omega
 have hE : Hid (afterM m c = some { m with st := 0 }) := hid (by unfold afterM; rw [if_neg (by rw [hbc]; decide), if_pos ⟨h44, h91⟩])
 clear hbc h44 h91
 go_enter Tryz.func79, Tryz.ntmps79
 go_wp2_with fail
 refine htop'.out.mono ?_
 rintro e W2 ⟨rfl, hb2⟩
 have hA2 := hMW'.out.at_.keptAll hb2
 have hr2 := hid (own_below hMW'.out.row hb2)
 have hA2' := hid hA2
 have hb2' := hid hb2
 have d0 := (mcAt_of hA2).c0
 have d1 := (mcAt_of hA2).c1
 have e0 := hA2.frozen 0
 have e1 := hA2.frozen 1
 clear hA2 hb2 htop' hW c1 f1
 go_wp2_with (first | (refine (hbl.out _).mono ?_; rintro e w1 ⟨rfl, hw1⟩; rw [hw1]; clear hw1))
 go_ret
 rw [hE.out]
 refine ⟨rfl, ((BelX.of_only hOW'.out).trans (BelX.of_below hb2'.out)).trans (BelX.of_only ((Only.refl _ _).set _ _)), fun k hk => ?_, fun hk => by cases hk⟩
 injection hk with hk
 subst hk
 exact ⟨v, wd, by simpa [mcC] using hA2'.out.set 1 (.int .i64 0), own_only hr2.out hMW'.out.lt ((Only.refl _ _).set _ _), hMW'.out.word, hMW'.out.lt⟩
set_option maxRecDepth 10000 in
set_option maxHeartbeats 1000000 in
theorem after16_c123 (B b : Nat) (t : TypeId) (v : Value) (wd : ByteArray) (m : Mc) (w : World) (hM : McIn B b t v wd m w) (hB : B ≤ w.heap.size) (hn : m.op.length ≤ 1099511627776) (c : Nat) (hc : c < 256) (h44 : c = 44) (h123 : topN m = 123) :
  Calls Tryz.prog 79 #[.pointer (some ⟨b, 0, none⟩), .int .u8 (c : Int)] w fun e w' => StepAt B b t v m (afterM m c) w e w' := by
 have hdum := hB
 clear hdum
 have hA := hM.at_
 have hC := mcAt_of hA
 have c1 := hC.c1
 have f1 := hA.frozen 1
 have hcw := hid hM
 obtain ⟨W, hW⟩ : ∃ W, w.setCell ⟨b, 1, none⟩ (.int .i64 5) = W := ⟨_, rfl⟩
 have hOW : Only b w W := by rw [← hW]; exact (Only.refl _ _).set _ _
 have hAW : At W b (mcC v wd { m with st := 5 }) t := by rw [← hW]; simpa [mcC] using hA.set 1 (.int .i64 5)
 have hMW : McIn B b t v wd { m with st := 5 } W := ⟨hAW, own_only hM.row hM.lt hOW, hM.word, hM.lt⟩
 obtain ⟨T, hT⟩ : ∃ T, Hid (topN m = T) := ⟨_, rfl⟩
 have htop := top16_calls B b t v wd { m with st := 5 } W hMW hn
 rw [show topN { m with st := 5 } = T from hT.out] at htop
 have htop' := hid htop
 have hMW' := hid hMW
 have hOW' := hid hOW
 clear htop hAW hMW hOW hA hC hM
 have hbl := hid (blank16_calls c hc)
 have hbc : blankN c = false := by unfold blankN; simp; omega
 rw [hbc] at hbl
 have g44 : ((c : Int) == 44) = true := by simp; omega
 have g93 : ((c : Int) == 93) = false := by simp; omega
 have g125 : ((c : Int) == 125) = false := by simp; omega
 have t91 : ((T : Int) == 91) = false := by have := hT.out; simp; omega
 have t123 : ((T : Int) == 123) = true := by have := hT.out; simp; omega
 have hE : Hid (afterM m c = some { m with st := 3 }) := hid (by unfold afterM; rw [if_neg (by rw [hbc]; decide), if_neg (by omega), if_pos ⟨h44, h123⟩])
 clear hbc h44 h123
 go_enter Tryz.func79, Tryz.ntmps79
 go_wp2_with fail
 refine htop'.out.mono ?_
 rintro e W2 ⟨rfl, hb2⟩
 have hA2 := hMW'.out.at_.keptAll hb2
 have hr2 := hid (own_below hMW'.out.row hb2)
 have hA2' := hid hA2
 have hb2' := hid hb2
 have d0 := (mcAt_of hA2).c0
 have d1 := (mcAt_of hA2).c1
 have e0 := hA2.frozen 0
 have e1 := hA2.frozen 1
 clear hA2 hb2 htop' hW c1 f1
 go_wp2_with (first | (refine (hbl.out _).mono ?_; rintro e w1 ⟨rfl, hw1⟩; rw [hw1]; clear hw1))
 go_ret
 rw [hE.out]
 refine ⟨rfl, ((BelX.of_only hOW'.out).trans (BelX.of_below hb2'.out)).trans (BelX.of_only ((Only.refl _ _).set _ _)), fun k hk => ?_, fun hk => by cases hk⟩
 injection hk with hk
 subst hk
 exact ⟨v, wd, by simpa [mcC] using hA2'.out.set 1 (.int .i64 3), own_only hr2.out hMW'.out.lt ((Only.refl _ _).set _ _), hMW'.out.word, hMW'.out.lt⟩
set_option maxRecDepth 10000 in
set_option maxHeartbeats 1000000 in
theorem after16_c0 (B b : Nat) (t : TypeId) (v : Value) (wd : ByteArray) (m : Mc) (w : World) (hM : McIn B b t v wd m w) (hB : B ≤ w.heap.size) (hn : m.op.length ≤ 1099511627776) (c : Nat) (hc : c < 256) (h44 : c = 44) (h91 : topN m ≠ 91) (h123 : topN m ≠ 123) :
  Calls Tryz.prog 79 #[.pointer (some ⟨b, 0, none⟩), .int .u8 (c : Int)] w fun e w' => StepAt B b t v m (afterM m c) w e w' := by
 have hdum := hB
 clear hdum
 have hA := hM.at_
 have hC := mcAt_of hA
 have c1 := hC.c1
 have f1 := hA.frozen 1
 have hcw := hid hM
 obtain ⟨W, hW⟩ : ∃ W, w.setCell ⟨b, 1, none⟩ (.int .i64 5) = W := ⟨_, rfl⟩
 have hOW : Only b w W := by rw [← hW]; exact (Only.refl _ _).set _ _
 have hAW : At W b (mcC v wd { m with st := 5 }) t := by rw [← hW]; simpa [mcC] using hA.set 1 (.int .i64 5)
 have hMW : McIn B b t v wd { m with st := 5 } W := ⟨hAW, own_only hM.row hM.lt hOW, hM.word, hM.lt⟩
 obtain ⟨T, hT⟩ : ∃ T, Hid (topN m = T) := ⟨_, rfl⟩
 have htop := top16_calls B b t v wd { m with st := 5 } W hMW hn
 rw [show topN { m with st := 5 } = T from hT.out] at htop
 have htop' := hid htop
 have hMW' := hid hMW
 have hOW' := hid hOW
 clear htop hAW hMW hOW hA hC hM
 have hbl := hid (blank16_calls c hc)
 have hbc : blankN c = false := by unfold blankN; simp; omega
 rw [hbc] at hbl
 have g44 : ((c : Int) == 44) = true := by simp; omega
 have g93 : ((c : Int) == 93) = false := by simp; omega
 have g125 : ((c : Int) == 125) = false := by simp; omega
 have t91 : ((T : Int) == 91) = false := by have := hT.out; simp; omega
 have t123 : ((T : Int) == 123) = false := by have := hT.out; simp; omega
 have hE : Hid (afterM m c = none) := hid (by unfold afterM; rw [if_neg (by rw [hbc]; decide), if_neg (by omega), if_neg (by omega), if_neg (by omega)])
 clear hbc h44 h91 h123
 go_enter Tryz.func79, Tryz.ntmps79
 go_wp2_with fail
 refine htop'.out.mono ?_
 rintro e W2 ⟨rfl, hb2⟩
 have hA2 := hMW'.out.at_.keptAll hb2
 have hr2 := hid (own_below hMW'.out.row hb2)
 have hA2' := hid hA2
 have hb2' := hid hb2
 have d0 := (mcAt_of hA2).c0
 have d1 := (mcAt_of hA2).c1
 have e0 := hA2.frozen 0
 have e1 := hA2.frozen 1
 clear hA2 hb2 htop' hW c1 f1
 go_wp2_with (first | (refine (hbl.out _).mono ?_; rintro e w1 ⟨rfl, hw1⟩; rw [hw1]; clear hw1))
 go_ret
 rw [hE.out]
 exact ⟨rfl, ((BelX.of_only hOW'.out).trans (BelX.of_below hb2'.out)), fun k hk => (by cases hk), fun _ => hr2.out⟩
set_option maxRecDepth 10000 in
set_option maxHeartbeats 1000000 in
theorem after16_no (B b : Nat) (t : TypeId) (v : Value) (wd : ByteArray) (m : Mc) (w : World) (hM : McIn B b t v wd m w) (hB : B ≤ w.heap.size) (hn : m.op.length ≤ 1099511627776) (c : Nat) (hc : c < 256) (hbc : blankN c = false) (h44 : c ≠ 44) (h93 : c ≠ 93) (h125 : c ≠ 125) :
  Calls Tryz.prog 79 #[.pointer (some ⟨b, 0, none⟩), .int .u8 (c : Int)] w fun e w' => StepAt B b t v m (afterM m c) w e w' := by
 have hdum := hB
 clear hdum
 have hA := hM.at_
 have hC := mcAt_of hA
 have c1 := hC.c1
 have f1 := hA.frozen 1
 have hcw := hid hM
 obtain ⟨W, hW⟩ : ∃ W, w.setCell ⟨b, 1, none⟩ (.int .i64 5) = W := ⟨_, rfl⟩
 have hOW : Only b w W := by rw [← hW]; exact (Only.refl _ _).set _ _
 have hAW : At W b (mcC v wd { m with st := 5 }) t := by rw [← hW]; simpa [mcC] using hA.set 1 (.int .i64 5)
 have hMW : McIn B b t v wd { m with st := 5 } W := ⟨hAW, own_only hM.row hM.lt hOW, hM.word, hM.lt⟩
 obtain ⟨T, hT⟩ : ∃ T, Hid (topN m = T) := ⟨_, rfl⟩
 have htop := top16_calls B b t v wd { m with st := 5 } W hMW hn
 rw [show topN { m with st := 5 } = T from hT.out] at htop
 have htop' := hid htop
 have hMW' := hid hMW
 have hOW' := hid hOW
 clear htop hAW hMW hOW hA hC hM
 have hbl := hid (blank16_calls c hc)
 rw [hbc] at hbl
 have g44 : ((c : Int) == 44) = false := by simp; omega
 have g93 : ((c : Int) == 93) = false := by simp; omega
 have g125 : ((c : Int) == 125) = false := by simp; omega
 have hE : Hid (afterM m c = none) := hid (by unfold afterM; rw [if_neg (by rw [hbc]; decide), if_neg (by omega), if_neg (by omega), if_neg (by omega)])
 clear hbc h44 h93 h125
 go_enter Tryz.func79, Tryz.ntmps79
 go_wp2_with fail
 refine htop'.out.mono ?_
 rintro e W2 ⟨rfl, hb2⟩
 have hA2 := hMW'.out.at_.keptAll hb2
 have hr2 := hid (own_below hMW'.out.row hb2)
 have hA2' := hid hA2
 have hb2' := hid hb2
 have d0 := (mcAt_of hA2).c0
 have d1 := (mcAt_of hA2).c1
 have e0 := hA2.frozen 0
 have e1 := hA2.frozen 1
 clear hA2 hb2 htop' hW c1 f1
 go_wp2_with (first | (refine (hbl.out _).mono ?_; rintro e w1 ⟨rfl, hw1⟩; rw [hw1]; clear hw1))
 go_ret
 rw [hE.out]
 exact ⟨rfl, ((BelX.of_only hOW'.out).trans (BelX.of_below hb2'.out)), fun k hk => (by cases hk), fun _ => hr2.out⟩
set_option maxRecDepth 10000 in
set_option maxHeartbeats 1000000 in
theorem after16_b0 (B b : Nat) (t : TypeId) (v : Value) (wd : ByteArray) (m : Mc) (w : World) (hM : McIn B b t v wd m w) (hB : B ≤ w.heap.size) (hn : m.op.length ≤ 1099511627776) (c : Nat) (hc : c < 256) (h93 : c = 93) (h91 : topN m ≠ 91) :
  Calls Tryz.prog 79 #[.pointer (some ⟨b, 0, none⟩), .int .u8 (c : Int)] w fun e w' => StepAt B b t v m (afterM m c) w e w' := by
 have hdum := hB
 clear hdum
 have hA := hM.at_
 have hC := mcAt_of hA
 have c1 := hC.c1
 have f1 := hA.frozen 1
 have hcw := hid hM
 obtain ⟨W, hW⟩ : ∃ W, w.setCell ⟨b, 1, none⟩ (.int .i64 5) = W := ⟨_, rfl⟩
 have hOW : Only b w W := by rw [← hW]; exact (Only.refl _ _).set _ _
 have hAW : At W b (mcC v wd { m with st := 5 }) t := by rw [← hW]; simpa [mcC] using hA.set 1 (.int .i64 5)
 have hMW : McIn B b t v wd { m with st := 5 } W := ⟨hAW, own_only hM.row hM.lt hOW, hM.word, hM.lt⟩
 obtain ⟨T, hT⟩ : ∃ T, Hid (topN m = T) := ⟨_, rfl⟩
 have htop := top16_calls B b t v wd { m with st := 5 } W hMW hn
 rw [show topN { m with st := 5 } = T from hT.out] at htop
 have htop' := hid htop
 have hMW' := hid hMW
 have hOW' := hid hOW
 clear htop hAW hMW hOW hA hC hM
 have hbl := hid (blank16_calls c hc)
 have hbc : blankN c = false := by unfold blankN; simp; omega
 rw [hbc] at hbl
 have g44 : ((c : Int) == 44) = false := by simp; omega
 have g93 : ((c : Int) == 93) = true := by simp; omega
 have g125 : ((c : Int) == 125) = false := by simp; omega
 have t91 : ((T : Int) == 91) = false := by have := hT.out; simp; omega
 have hE : Hid (afterM m c = none) := hid (by unfold afterM; rw [if_neg (by rw [hbc]; decide), if_neg (by omega), if_neg (by omega), if_neg (by omega)])
 clear hbc h93 h91
 go_enter Tryz.func79, Tryz.ntmps79
 go_wp2_with fail
 refine htop'.out.mono ?_
 rintro e W2 ⟨rfl, hb2⟩
 have hA2 := hMW'.out.at_.keptAll hb2
 have hr2 := hid (own_below hMW'.out.row hb2)
 have hA2' := hid hA2
 have hb2' := hid hb2
 have d0 := (mcAt_of hA2).c0
 have d1 := (mcAt_of hA2).c1
 have e0 := hA2.frozen 0
 have e1 := hA2.frozen 1
 clear hA2 hb2 htop' hW c1 f1
 go_wp2_with (first | (refine (hbl.out _).mono ?_; rintro e w1 ⟨rfl, hw1⟩; rw [hw1]; clear hw1))
 go_ret
 rw [hE.out]
 exact ⟨rfl, ((BelX.of_only hOW'.out).trans (BelX.of_below hb2'.out)), fun k hk => (by cases hk), fun _ => hr2.out⟩
set_option maxRecDepth 10000 in
set_option maxHeartbeats 1000000 in
theorem after16_o0 (B b : Nat) (t : TypeId) (v : Value) (wd : ByteArray) (m : Mc) (w : World) (hM : McIn B b t v wd m w) (hB : B ≤ w.heap.size) (hn : m.op.length ≤ 1099511627776) (c : Nat) (hc : c < 256) (h125 : c = 125) (h123 : topN m ≠ 123) :
  Calls Tryz.prog 79 #[.pointer (some ⟨b, 0, none⟩), .int .u8 (c : Int)] w fun e w' => StepAt B b t v m (afterM m c) w e w' := by
 have hdum := hB
 clear hdum
 have hA := hM.at_
 have hC := mcAt_of hA
 have c1 := hC.c1
 have f1 := hA.frozen 1
 have hcw := hid hM
 obtain ⟨W, hW⟩ : ∃ W, w.setCell ⟨b, 1, none⟩ (.int .i64 5) = W := ⟨_, rfl⟩
 have hOW : Only b w W := by rw [← hW]; exact (Only.refl _ _).set _ _
 have hAW : At W b (mcC v wd { m with st := 5 }) t := by rw [← hW]; simpa [mcC] using hA.set 1 (.int .i64 5)
 have hMW : McIn B b t v wd { m with st := 5 } W := ⟨hAW, own_only hM.row hM.lt hOW, hM.word, hM.lt⟩
 obtain ⟨T, hT⟩ : ∃ T, Hid (topN m = T) := ⟨_, rfl⟩
 have htop := top16_calls B b t v wd { m with st := 5 } W hMW hn
 rw [show topN { m with st := 5 } = T from hT.out] at htop
 have htop' := hid htop
 have hMW' := hid hMW
 have hOW' := hid hOW
 clear htop hAW hMW hOW hA hC hM
 have hbl := hid (blank16_calls c hc)
 have hbc : blankN c = false := by unfold blankN; simp; omega
 rw [hbc] at hbl
 have g44 : ((c : Int) == 44) = false := by simp; omega
 have g93 : ((c : Int) == 93) = false := by simp; omega
 have g125 : ((c : Int) == 125) = true := by simp; omega
 have t123 : ((T : Int) == 123) = false := by have := hT.out; simp; omega
 have hE : Hid (afterM m c = none) := hid (by unfold afterM; rw [if_neg (by rw [hbc]; decide), if_neg (by omega), if_neg (by omega), if_neg (by omega)])
 clear hbc h125 h123
 go_enter Tryz.func79, Tryz.ntmps79
 go_wp2_with fail
 refine htop'.out.mono ?_
 rintro e W2 ⟨rfl, hb2⟩
 have hA2 := hMW'.out.at_.keptAll hb2
 have hr2 := hid (own_below hMW'.out.row hb2)
 have hA2' := hid hA2
 have hb2' := hid hb2
 have d0 := (mcAt_of hA2).c0
 have d1 := (mcAt_of hA2).c1
 have e0 := hA2.frozen 0
 have e1 := hA2.frozen 1
 clear hA2 hb2 htop' hW c1 f1
 go_wp2_with (first | (refine (hbl.out _).mono ?_; rintro e w1 ⟨rfl, hw1⟩; rw [hw1]; clear hw1))
 go_ret
 rw [hE.out]
 exact ⟨rfl, ((BelX.of_only hOW'.out).trans (BelX.of_below hb2'.out)), fun k hk => (by cases hk), fun _ => hr2.out⟩
set_option maxRecDepth 10000 in
set_option maxHeartbeats 1000000 in
theorem after16_bpop (B b : Nat) (t : TypeId) (v : Value) (wd : ByteArray) (m : Mc) (w : World) (hM : McIn B b t v wd m w) (hB : B ≤ w.heap.size) (hn : m.op.length ≤ 1099511627776) (c : Nat) (hc : c < 256) (h1 : c = 93) (h2 : topN m = 91) :
  Calls Tryz.prog 79 #[.pointer (some ⟨b, 0, none⟩), .int .u8 (c : Int)] w fun e w' => StepAt B b t v m (afterM m c) w e w' := by
 have hdum := hB
 clear hdum
 have hA := hM.at_
 have hC := mcAt_of hA
 have c1 := hC.c1
 have f1 := hA.frozen 1
 have hcw := hid hM
 obtain ⟨W, hW⟩ : ∃ W, w.setCell ⟨b, 1, none⟩ (.int .i64 5) = W := ⟨_, rfl⟩
 have hOW : Only b w W := by rw [← hW]; exact (Only.refl _ _).set _ _
 have hAW : At W b (mcC v wd { m with st := 5 }) t := by rw [← hW]; simpa [mcC] using hA.set 1 (.int .i64 5)
 have hMW : McIn B b t v wd { m with st := 5 } W := ⟨hAW, own_only hM.row hM.lt hOW, hM.word, hM.lt⟩
 obtain ⟨T, hT⟩ : ∃ T, Hid (topN m = T) := ⟨_, rfl⟩
 have htop := top16_calls B b t v wd { m with st := 5 } W hMW hn
 rw [show topN { m with st := 5 } = T from hT.out] at htop
 have htop' := hid htop
 have hMW' := hid hMW
 have hOW' := hid hOW
 clear htop hAW hMW hOW hA hC hM
 have hbl := hid (blank16_calls c hc)
 have hbc : blankN c = false := by unfold blankN; simp; omega
 rw [hbc] at hbl
 have g44 : ((c : Int) == 44) = false := by simp; omega
 have g93 : ((c : Int) == 93) = true := by simp; omega
 have g125 : ((c : Int) == 125) = false := by simp; omega
 have t91 : ((T : Int) == 91) = true := by have := hT.out; simp; omega
 have hE : Hid (afterM m c = some { m with st := 5, op := m.op.dropLast }) := hid (by unfold afterM; rw [if_neg (by rw [hbc]; decide), if_neg (by omega), if_neg (by omega), if_pos (by omega)])
 obtain ⟨n, hnn⟩ : ∃ n, m.op.length = n := ⟨_, rfl⟩
 have hpos : n ≠ 0 := fun e => by
  have h : m.op = [] := List.eq_nil_of_length_eq_zero (by omega)
  have h3 : topN m = 0 := by unfold topN; rw [h]; rfl
  omega
 obtain ⟨N, hN⟩ : ∃ N, n = N + 1 := ⟨n - 1, by omega⟩
 obtain ⟨g, cap, hv, hcap⟩ : ∃ g cap, v = .slice (some ⟨g, 0, none⟩) (N + 1) cap ∧ N + 1 ≤ cap := by
  rcases hMW'.out.row.2 with ⟨-, h⟩ | ⟨g, cap, cur, h, -, -, hc2, -⟩
  ·exact absurd (hnn.symm.trans h) hpos
  ·exact ⟨g, cap, by rw [h]; show Value.slice _ m.op.length _ = _; rw [hnn, hN], by have h3 : m.op.length ≤ cap := hc2; omega⟩
 subst hv
 have hln : Hid (m.op.length = N + 1) := hid (by omega)
 have q1 : (N : Int) + 1 ≤ 1099511627776 := by omega
 have q2 : ((N : Int) + 1) - 1 = (N : Int) := by omega
 have q3 : (N : Int) ≤ (cap : Int) := by omega
 have q4 : N ≤ cap := by omega
 have q5 : ((N + 1 : Nat) : Int) - 1 = (N : Int) := by omega
 clear hpos hN hnn hn
 clear hbc h1 h2
 go_enter Tryz.func79, Tryz.ntmps79
 go_wp2_with fail
 refine htop'.out.mono ?_
 rintro e W2 ⟨rfl, hb2⟩
 have hA2 := hMW'.out.at_.keptAll hb2
 have hr2 := hid (own_below hMW'.out.row hb2)
 have hA2' := hid hA2
 have hb2' := hid hb2
 have d0 := (mcAt_of hA2).c0
 have d1 := (mcAt_of hA2).c1
 have e0 := hA2.frozen 0
 have e1 := hA2.frozen 1
 clear hA2 hb2 htop' hW c1 f1
 go_wp2_with (first | (refine (hbl.out _).mono ?_; rintro e w1 ⟨rfl, hw1⟩; rw [hw1]; clear hw1))
 go_region
 go_wp2
 go_ret
 rw [hE.out]
 refine ⟨rfl, ((BelX.of_only hOW'.out).trans (BelX.of_below hb2'.out)).trans (BelX.of_only (((Only.refl _ _).drew).set _ _)), fun k hk => ?_, fun hk => by cases hk⟩
 injection hk with hk
 subst hk
 refine ⟨.slice (some ⟨g, 0, none⟩) N cap, wd, by simpa [mcC] using (hA2'.out.set 0 (.slice (some ⟨g, 0, none⟩) N cap)).drew, ?_, hMW'.out.word, hMW'.out.lt⟩
 have h5 := own_only (own_pop (show W2.ownsRow B 5 1 (.slice (some ⟨g, 0, none⟩) (N + 1) cap) (N + 1) (opC m.op) from hln.out ▸ hr2.out)) hMW'.out.lt (((Only.refl b W2).drew).set 0 (.slice (some ⟨g, 0, none⟩) N cap))
 rw [opC_drop] at h5
 show (World.setCell _ _ _).ownsRow B 5 1 _ m.op.dropLast.length (opC m.op.dropLast)
 rw [List.length_dropLast, hln.out]
 exact h5
set_option maxRecDepth 10000 in
set_option maxHeartbeats 1000000 in
theorem after16_opop (B b : Nat) (t : TypeId) (v : Value) (wd : ByteArray) (m : Mc) (w : World) (hM : McIn B b t v wd m w) (hB : B ≤ w.heap.size) (hn : m.op.length ≤ 1099511627776) (c : Nat) (hc : c < 256) (h1 : c = 125) (h2 : topN m = 123) :
  Calls Tryz.prog 79 #[.pointer (some ⟨b, 0, none⟩), .int .u8 (c : Int)] w fun e w' => StepAt B b t v m (afterM m c) w e w' := by
 have hdum := hB
 clear hdum
 have hA := hM.at_
 have hC := mcAt_of hA
 have c1 := hC.c1
 have f1 := hA.frozen 1
 have hcw := hid hM
 obtain ⟨W, hW⟩ : ∃ W, w.setCell ⟨b, 1, none⟩ (.int .i64 5) = W := ⟨_, rfl⟩
 have hOW : Only b w W := by rw [← hW]; exact (Only.refl _ _).set _ _
 have hAW : At W b (mcC v wd { m with st := 5 }) t := by rw [← hW]; simpa [mcC] using hA.set 1 (.int .i64 5)
 have hMW : McIn B b t v wd { m with st := 5 } W := ⟨hAW, own_only hM.row hM.lt hOW, hM.word, hM.lt⟩
 obtain ⟨T, hT⟩ : ∃ T, Hid (topN m = T) := ⟨_, rfl⟩
 have htop := top16_calls B b t v wd { m with st := 5 } W hMW hn
 rw [show topN { m with st := 5 } = T from hT.out] at htop
 have htop' := hid htop
 have hMW' := hid hMW
 have hOW' := hid hOW
 clear htop hAW hMW hOW hA hC hM
 have hbl := hid (blank16_calls c hc)
 have hbc : blankN c = false := by unfold blankN; simp; omega
 rw [hbc] at hbl
 have g44 : ((c : Int) == 44) = false := by simp; omega
 have g93 : ((c : Int) == 93) = false := by simp; omega
 have g125 : ((c : Int) == 125) = true := by simp; omega
 have t123 : ((T : Int) == 123) = true := by have := hT.out; simp; omega
 have hE : Hid (afterM m c = some { m with st := 5, op := m.op.dropLast }) := hid (by unfold afterM; rw [if_neg (by rw [hbc]; decide), if_neg (by omega), if_neg (by omega), if_pos (by omega)])
 obtain ⟨n, hnn⟩ : ∃ n, m.op.length = n := ⟨_, rfl⟩
 have hpos : n ≠ 0 := fun e => by
  have h : m.op = [] := List.eq_nil_of_length_eq_zero (by omega)
  have h3 : topN m = 0 := by unfold topN; rw [h]; rfl
  omega
 obtain ⟨N, hN⟩ : ∃ N, n = N + 1 := ⟨n - 1, by omega⟩
 obtain ⟨g, cap, hv, hcap⟩ : ∃ g cap, v = .slice (some ⟨g, 0, none⟩) (N + 1) cap ∧ N + 1 ≤ cap := by
  rcases hMW'.out.row.2 with ⟨-, h⟩ | ⟨g, cap, cur, h, -, -, hc2, -⟩
  ·exact absurd (hnn.symm.trans h) hpos
  ·exact ⟨g, cap, by rw [h]; show Value.slice _ m.op.length _ = _; rw [hnn, hN], by have h3 : m.op.length ≤ cap := hc2; omega⟩
 subst hv
 have hln : Hid (m.op.length = N + 1) := hid (by omega)
 have q1 : (N : Int) + 1 ≤ 1099511627776 := by omega
 have q2 : ((N : Int) + 1) - 1 = (N : Int) := by omega
 have q3 : (N : Int) ≤ (cap : Int) := by omega
 have q4 : N ≤ cap := by omega
 have q5 : ((N + 1 : Nat) : Int) - 1 = (N : Int) := by omega
 clear hpos hN hnn hn
 clear hbc h1 h2
 go_enter Tryz.func79, Tryz.ntmps79
 go_wp2_with fail
 refine htop'.out.mono ?_
 rintro e W2 ⟨rfl, hb2⟩
 have hA2 := hMW'.out.at_.keptAll hb2
 have hr2 := hid (own_below hMW'.out.row hb2)
 have hA2' := hid hA2
 have hb2' := hid hb2
 have d0 := (mcAt_of hA2).c0
 have d1 := (mcAt_of hA2).c1
 have e0 := hA2.frozen 0
 have e1 := hA2.frozen 1
 clear hA2 hb2 htop' hW c1 f1
 go_wp2_with (first | (refine (hbl.out _).mono ?_; rintro e w1 ⟨rfl, hw1⟩; rw [hw1]; clear hw1))
 go_region
 go_wp2
 go_ret
 rw [hE.out]
 refine ⟨rfl, ((BelX.of_only hOW'.out).trans (BelX.of_below hb2'.out)).trans (BelX.of_only (((Only.refl _ _).drew).set _ _)), fun k hk => ?_, fun hk => by cases hk⟩
 injection hk with hk
 subst hk
 refine ⟨.slice (some ⟨g, 0, none⟩) N cap, wd, by simpa [mcC] using (hA2'.out.set 0 (.slice (some ⟨g, 0, none⟩) N cap)).drew, ?_, hMW'.out.word, hMW'.out.lt⟩
 have h5 := own_only (own_pop (show W2.ownsRow B 5 1 (.slice (some ⟨g, 0, none⟩) (N + 1) cap) (N + 1) (opC m.op) from hln.out ▸ hr2.out)) hMW'.out.lt (((Only.refl b W2).drew).set 0 (.slice (some ⟨g, 0, none⟩) N cap))
 rw [opC_drop] at h5
 show (World.setCell _ _ _).ownsRow B 5 1 _ m.op.dropLast.length (opC m.op.dropLast)
 rw [List.length_dropLast, hln.out]
 exact h5
theorem after16_calls (B b : Nat) (t : TypeId) (v : Value) (wd : ByteArray) (m : Mc) (c : Nat) (hc : c < 256) (w : World) (hM : McIn B b t v wd m w) (hB : B ≤ w.heap.size) (hn : m.op.length ≤ 1099511627776) :
  Calls Tryz.prog 79 #[.pointer (some ⟨b, 0, none⟩), .int .u8 (c : Int)] w fun e w' => StepAt B b t v m (afterM m c) w e w' := by
 by_cases hb : blankN c = true
 ·exact after16_blank B b t v wd m w hM hB hn c hc hb
 replace hb : blankN c = false := by cases h : blankN c with
  | true => exact absurd h hb
  | false => rfl
 by_cases h44 : c = 44
 ·by_cases k1 : topN m = 91
  ·exact after16_c91 B b t v wd m w hM hB hn c hc h44 k1
  ·by_cases k2 : topN m = 123
   ·exact after16_c123 B b t v wd m w hM hB hn c hc h44 k2
   ·exact after16_c0 B b t v wd m w hM hB hn c hc h44 k1 k2
 by_cases h93 : c = 93
 ·by_cases k1 : topN m = 91
  ·exact after16_bpop B b t v wd m w hM hB hn c hc h93 k1
  ·exact after16_b0 B b t v wd m w hM hB hn c hc h93 k1
 by_cases h125 : c = 125
 ·by_cases k1 : topN m = 123
  ·exact after16_opop B b t v wd m w hM hB hn c hc h125 k1
  ·exact after16_o0 B b t v wd m w hM hB hn c hc h125 k1
 exact after16_no B b t v wd m w hM hB hn c hc hb h44 h93 h125
end Go.Proofs.YtkejlejhnnjdkaaGreatDoor
/- RefVa7, RefVa8, one behind the other. -/
/- What the reference's machine does with a byte within a number, or behind one. -/
namespace Go.Proofs.YtkejlejhnnjdkaaGreatDoor
open Go.RowKit Go.Shelf
set_option maxRecDepth 10000 in
set_option maxHeartbeats 1000000 in
theorem num16_10z (B b : Nat) (t : TypeId) (v : Value) (wd : ByteArray) (m : Mc) (w : World) (hM : McIn B b t v wd m w) (hB : B ≤ w.heap.size) (hn : m.op.length ≤ 1099511627776) (hs : m.st = 10) (c : Nat) (hc : c < 256) (h : c = 48) :
  Calls Tryz.prog 75 #[.pointer (some ⟨b, 0, none⟩), .int .u8 (c : Int)] w fun e w' => StepAt B b t v m (numM m c) w e w' := by
 have hdum := And.intro hB (And.intro hn hc)
 clear hdum
 have hA := hM.at_
 have hA' := hid hA
 have hM' := hid hM
 have c1 : w.cell? ⟨b, 1, none⟩ = some (.int .i64 10) := by rw [(mcAt_of hA).c1, hs]; rfl
 have f1 := hA.frozen 1
 have g48 : ((c : Int) == 48) = true := by simp; omega
 have hE : Hid (numM m c = some { m with st := 11 }) := hid (by unfold numM; rw [if_pos ⟨hs, h⟩])
 rw [hE.out]
 obtain ⟨X, hX⟩ : ∃ X, Hid ((some { m with st := 11 } : Option Mc) = X) := ⟨_, rfl⟩
 rw [hX.out]
 clear hM hA hs hB hn h
 go_enter Tryz.func75, Tryz.ntmps75
 go_wp2
 go_ret
 rw [← hX.out]
 exact stepAt_some hM'.out ((Only.refl _ _).set _ _) (by simpa [mcC] using hA'.out.set 1 (.int .i64 11)) rfl hM'.out.word
set_option maxRecDepth 10000 in
set_option maxHeartbeats 1000000 in
theorem num16_10d (B b : Nat) (t : TypeId) (v : Value) (wd : ByteArray) (m : Mc) (w : World) (hM : McIn B b t v wd m w) (hB : B ≤ w.heap.size) (hn : m.op.length ≤ 1099511627776) (hs : m.st = 10) (c : Nat) (hc : c < 256) (hdg : digN c = true) (h : c ≠ 48) :
  Calls Tryz.prog 75 #[.pointer (some ⟨b, 0, none⟩), .int .u8 (c : Int)] w fun e w' => StepAt B b t v m (numM m c) w e w' := by
 have hdum := And.intro hB (And.intro hn hc)
 clear hdum
 have hA := hM.at_
 have hA' := hid hA
 have hM' := hid hM
 have c1 : w.cell? ⟨b, 1, none⟩ = some (.int .i64 10) := by rw [(mcAt_of hA).c1, hs]; rfl
 have f1 := hA.frozen 1
 have g48 : ((c : Int) == 48) = false := by simp; omega
 have hE : Hid (numM m c = some { m with st := 12 }) := hid (by unfold numM; rw [if_neg (fun k => h k.2), if_pos ⟨hs, hdg⟩])
 have hdx := hid (digit16_calls c hc)
 rw [hdg] at hdx
 rw [hE.out]
 obtain ⟨X, hX⟩ : ∃ X, Hid ((some { m with st := 12 } : Option Mc) = X) := ⟨_, rfl⟩
 rw [hX.out]
 clear hM hA hs hB hn
 go_enter Tryz.func75, Tryz.ntmps75
 go_wp2_with (first | (refine (hdx.out _).mono ?_; rintro e w1 ⟨rfl, hw1⟩; rw [hw1]; clear hw1))
 go_ret
 rw [← hX.out]
 exact stepAt_some hM'.out ((Only.refl _ _).set _ _) (by simpa [mcC] using hA'.out.set 1 (.int .i64 12)) rfl hM'.out.word
set_option maxRecDepth 10000 in
set_option maxHeartbeats 1000000 in
theorem num16_10n (B b : Nat) (t : TypeId) (v : Value) (wd : ByteArray) (m : Mc) (w : World) (hM : McIn B b t v wd m w) (hB : B ≤ w.heap.size) (hn : m.op.length ≤ 1099511627776) (hs : m.st = 10) (c : Nat) (hc : c < 256) (hdg : digN c = false) :
  Calls Tryz.prog 75 #[.pointer (some ⟨b, 0, none⟩), .int .u8 (c : Int)] w fun e w' => StepAt B b t v m (numM m c) w e w' := by
 have hdum := And.intro hB (And.intro hn hc)
 clear hdum
 have hA := hM.at_
 have hA' := hid hA
 have hM' := hid hM
 have c1 : w.cell? ⟨b, 1, none⟩ = some (.int .i64 10) := by rw [(mcAt_of hA).c1, hs]; rfl
 have f1 := hA.frozen 1
 have h48 : c ≠ 48 := fun e => by rw [e] at hdg; exact absurd hdg (by decide)
 have g48 : ((c : Int) == 48) = false := by simp; omega
 have hE : Hid (numM m c = none) := hid (by unfold numM; rw [if_neg (fun k => h48 k.2), if_neg (fun k => by rw [hdg] at k; cases k.2), if_pos hs])
 have hdx := hid (digit16_calls c hc)
 rw [hdg] at hdx
 rw [hE.out]
 obtain ⟨X, hX⟩ : ∃ X, Hid ((none : Option Mc) = X) := ⟨_, rfl⟩
 rw [hX.out]
 clear hM hA hs hB hn
 go_enter Tryz.func75, Tryz.ntmps75
 go_wp2_with (first | (refine (hdx.out _).mono ?_; rintro e w1 ⟨rfl, hw1⟩; rw [hw1]; clear hw1))
 go_ret
 rw [← hX.out]
 exact stepAt_none hM'.out (Only.refl _ _)
set_option maxRecDepth 10000 in
set_option maxHeartbeats 1000000 in
theorem num16_11p (B b : Nat) (t : TypeId) (v : Value) (wd : ByteArray) (m : Mc) (w : World) (hM : McIn B b t v wd m w) (hB : B ≤ w.heap.size) (hn : m.op.length ≤ 1099511627776) (hs : m.st = 11) (c : Nat) (hc : c < 256) (h : c = 46) :
  Calls Tryz.prog 75 #[.pointer (some ⟨b, 0, none⟩), .int .u8 (c : Int)] w fun e w' => StepAt B b t v m (numM m c) w e w' := by
 have hdum := And.intro hB (And.intro hn hc)
 clear hdum
 have hA := hM.at_
 have hA' := hid hA
 have hM' := hid hM
 have c1 : w.cell? ⟨b, 1, none⟩ = some (.int .i64 11) := by rw [(mcAt_of hA).c1, hs]; rfl
 have f1 := hA.frozen 1
 have g46 : ((c : Int) == 46) = true := by simp; omega
 have hE : Hid (numM m c = some { m with st := 13 }) := hid (by unfold numM; rw [if_neg (fun k => by have := k.1; omega), if_neg (fun k => by have := k.1; omega), if_neg (by omega), if_neg (fun k => by have := k.1; omega), if_pos ⟨by omega, h⟩])
 rw [hE.out]
 obtain ⟨X, hX⟩ : ∃ X, Hid ((some { m with st := 13 } : Option Mc) = X) := ⟨_, rfl⟩
 rw [hX.out]
 clear hM hA hs hB hn h
 go_enter Tryz.func75, Tryz.ntmps75
 go_wp2
 go_ret
 rw [← hX.out]
 exact stepAt_some hM'.out ((Only.refl _ _).set _ _) (by simpa [mcC] using hA'.out.set 1 (.int .i64 13)) rfl hM'.out.word
set_option maxRecDepth 10000 in
set_option maxHeartbeats 1000000 in
theorem num16_11e101 (B b : Nat) (t : TypeId) (v : Value) (wd : ByteArray) (m : Mc) (w : World) (hM : McIn B b t v wd m w) (hB : B ≤ w.heap.size) (hn : m.op.length ≤ 1099511627776) (hs : m.st = 11) (c : Nat) (hc : c < 256) (h : c = 101) :
  Calls Tryz.prog 75 #[.pointer (some ⟨b, 0, none⟩), .int .u8 (c : Int)] w fun e w' => StepAt B b t v m (numM m c) w e w' := by
 have hdum := And.intro hB (And.intro hn hc)
 clear hdum
 have hA := hM.at_
 have hA' := hid hA
 have hM' := hid hM
 have c1 : w.cell? ⟨b, 1, none⟩ = some (.int .i64 11) := by rw [(mcAt_of hA).c1, hs]; rfl
 have f1 := hA.frozen 1
 have g46 : ((c : Int) == 46) = false := by simp; omega
 have g101 : ((c : Int) == 101) = true := by simp; omega
 have g69 : ((c : Int) == 69) = false := by simp; omega
 have hE : Hid (numM m c = some { m with st := 15 }) := hid (by unfold numM; rw [if_neg (fun k => by have := k.1; omega), if_neg (fun k => by have := k.1; omega), if_neg (by omega), if_neg (fun k => by have := k.1; omega), if_neg (by omega), if_neg (by omega), if_pos ⟨by omega, by omega⟩])
 rw [hE.out]
 obtain ⟨X, hX⟩ : ∃ X, Hid ((some { m with st := 15 } : Option Mc) = X) := ⟨_, rfl⟩
 rw [hX.out]
 clear hM hA hs hB hn h
 go_enter Tryz.func75, Tryz.ntmps75
 go_wp2
 go_ret
 rw [← hX.out]
 exact stepAt_some hM'.out ((Only.refl _ _).set _ _) (by simpa [mcC] using hA'.out.set 1 (.int .i64 15)) rfl hM'.out.word
set_option maxRecDepth 10000 in
set_option maxHeartbeats 1000000 in
theorem num16_11e69 (B b : Nat) (t : TypeId) (v : Value) (wd : ByteArray) (m : Mc) (w : World) (hM : McIn B b t v wd m w) (hB : B ≤ w.heap.size) (hn : m.op.length ≤ 1099511627776) (hs : m.st = 11) (c : Nat) (hc : c < 256) (h : c = 69) :
  Calls Tryz.prog 75 #[.pointer (some ⟨b, 0, none⟩), .int .u8 (c : Int)] w fun e w' => StepAt B b t v m (numM m c) w e w' := by
 have hdum := And.intro hB (And.intro hn hc)
 clear hdum
 have hA := hM.at_
 have hA' := hid hA
 have hM' := hid hM
 have c1 : w.cell? ⟨b, 1, none⟩ = some (.int .i64 11) := by rw [(mcAt_of hA).c1, hs]; rfl
 have f1 := hA.frozen 1
 have g46 : ((c : Int) == 46) = false := by simp; omega
 have g101 : ((c : Int) == 101) = false := by simp; omega
 have g69 : ((c : Int) == 69) = true := by simp; omega
 have hE : Hid (numM m c = some { m with st := 15 }) := hid (by unfold numM; rw [if_neg (fun k => by have := k.1; omega), if_neg (fun k => by have := k.1; omega), if_neg (by omega), if_neg (fun k => by have := k.1; omega), if_neg (by omega), if_neg (by omega), if_pos ⟨by omega, by omega⟩])
 rw [hE.out]
 obtain ⟨X, hX⟩ : ∃ X, Hid ((some { m with st := 15 } : Option Mc) = X) := ⟨_, rfl⟩
 rw [hX.out]
 clear hM hA hs hB hn h
 go_enter Tryz.func75, Tryz.ntmps75
 go_wp2
 go_ret
 rw [← hX.out]
 exact stepAt_some hM'.out ((Only.refl _ _).set _ _) (by simpa [mcC] using hA'.out.set 1 (.int .i64 15)) rfl hM'.out.word
set_option maxRecDepth 10000 in
set_option maxHeartbeats 1000000 in
theorem num16_11r (B b : Nat) (t : TypeId) (v : Value) (wd : ByteArray) (m : Mc) (w : World) (hM : McIn B b t v wd m w) (hB : B ≤ w.heap.size) (hn : m.op.length ≤ 1099511627776) (hs : m.st = 11) (c : Nat) (hc : c < 256) (h1 : c ≠ 46) (h2 : c ≠ 101) (h3 : c ≠ 69) :
  Calls Tryz.prog 75 #[.pointer (some ⟨b, 0, none⟩), .int .u8 (c : Int)] w fun e w' => StepAt B b t v m (numM m c) w e w' := by
 have hdum := And.intro hB (And.intro hn hc)
 clear hdum
 have hA := hM.at_
 have hA' := hid hA
 have hM' := hid hM
 have c1 : w.cell? ⟨b, 1, none⟩ = some (.int .i64 11) := by rw [(mcAt_of hA).c1, hs]; rfl
 have f1 := hA.frozen 1
 have g46 : ((c : Int) == 46) = false := by simp; omega
 have g101 : ((c : Int) == 101) = false := by simp; omega
 have g69 : ((c : Int) == 69) = false := by simp; omega
 have hE : Hid (numM m c = afterM m c) := hid (by unfold numM; rw [if_neg (fun k => by have := k.1; omega), if_neg (fun k => by have := k.1; omega), if_neg (by omega), if_neg (fun k => by have := k.1; omega), if_neg (by omega), if_neg (by omega), if_neg (by omega), if_neg (by omega), if_neg (by omega)])
 have haf := hid (after16_calls B b t v wd m c hc w hM hB hn)
 rw [hE.out]
 obtain ⟨X, hX⟩ : ∃ X, Hid (afterM m c = X) := ⟨_, rfl⟩
 rw [hX.out] at haf ⊢
 clear hM hA hs hB hn
 go_enter Tryz.func75, Tryz.ntmps75
 go_wp2_with (first | (refine (haf.out).mono ?_))
 rintro e w' hst
 obtain ⟨he, hst2⟩ := hst
 subst he
 have hst2' := hid hst2
 clear hst2
 go_wp2
 go_ret
 exact ⟨rfl, hst2'.out⟩
set_option maxRecDepth 10000 in
set_option maxHeartbeats 1000000 in
theorem num16_12d (B b : Nat) (t : TypeId) (v : Value) (wd : ByteArray) (m : Mc) (w : World) (hM : McIn B b t v wd m w) (hB : B ≤ w.heap.size) (hn : m.op.length ≤ 1099511627776) (hs : m.st = 12) (c : Nat) (hc : c < 256) (hdg : digN c = true) :
  Calls Tryz.prog 75 #[.pointer (some ⟨b, 0, none⟩), .int .u8 (c : Int)] w fun e w' => StepAt B b t v m (numM m c) w e w' := by
 have hdum := And.intro hB (And.intro hn hc)
 clear hdum
 have hA := hM.at_
 have hA' := hid hA
 have hM' := hid hM
 have c1 : w.cell? ⟨b, 1, none⟩ = some (.int .i64 12) := by rw [(mcAt_of hA).c1, hs]; rfl
 have f1 := hA.frozen 1
 have hE : Hid (numM m c = some m) := hid (by unfold numM; rw [if_neg (fun k => by have := k.1; omega), if_neg (fun k => by have := k.1; omega), if_neg (by omega), if_pos ⟨Or.inl hs, hdg⟩])
 have hdx := hid (digit16_calls c hc)
 rw [hdg] at hdx
 rw [hE.out]
 obtain ⟨X, hX⟩ : ∃ X, Hid ((some m : Option Mc) = X) := ⟨_, rfl⟩
 rw [hX.out]
 clear hM hA hs hB hn
 go_enter Tryz.func75, Tryz.ntmps75
 go_wp2_with (first | (refine (hdx.out _).mono ?_; rintro e w1 ⟨rfl, hw1⟩; rw [hw1]; clear hw1))
 go_ret
 rw [← hX.out]
 exact stepAt_some hM'.out (Only.refl _ _) hA'.out rfl hM'.out.word
set_option maxRecDepth 10000 in
set_option maxHeartbeats 1000000 in
theorem num16_12p (B b : Nat) (t : TypeId) (v : Value) (wd : ByteArray) (m : Mc) (w : World) (hM : McIn B b t v wd m w) (hB : B ≤ w.heap.size) (hn : m.op.length ≤ 1099511627776) (hs : m.st = 12) (c : Nat) (hc : c < 256) (h : c = 46) :
  Calls Tryz.prog 75 #[.pointer (some ⟨b, 0, none⟩), .int .u8 (c : Int)] w fun e w' => StepAt B b t v m (numM m c) w e w' := by
 have hdum := And.intro hB (And.intro hn hc)
 clear hdum
 have hA := hM.at_
 have hA' := hid hA
 have hM' := hid hM
 have c1 : w.cell? ⟨b, 1, none⟩ = some (.int .i64 12) := by rw [(mcAt_of hA).c1, hs]; rfl
 have f1 := hA.frozen 1
 have hdg : digN c = false := by unfold digN; simp; omega
 have g46 : ((c : Int) == 46) = true := by simp; omega
 have hE : Hid (numM m c = some { m with st := 13 }) := hid (by unfold numM; rw [if_neg (fun k => by have := k.1; omega), if_neg (fun k => by have := k.1; omega), if_neg (by omega), if_neg (fun k => by rw [hdg] at k; cases k.2), if_pos ⟨by omega, h⟩])
 have hdx := hid (digit16_calls c hc)
 rw [hdg] at hdx
 rw [hE.out]
 obtain ⟨X, hX⟩ : ∃ X, Hid ((some { m with st := 13 } : Option Mc) = X) := ⟨_, rfl⟩
 rw [hX.out]
 clear hM hA hs hB hn h
 go_enter Tryz.func75, Tryz.ntmps75
 go_wp2_with (first | (refine (hdx.out _).mono ?_; rintro e w1 ⟨rfl, hw1⟩; rw [hw1]; clear hw1))
 go_ret
 rw [← hX.out]
 exact stepAt_some hM'.out ((Only.refl _ _).set _ _) (by simpa [mcC] using hA'.out.set 1 (.int .i64 13)) rfl hM'.out.word
set_option maxRecDepth 10000 in
set_option maxHeartbeats 1000000 in
theorem num16_12e101 (B b : Nat) (t : TypeId) (v : Value) (wd : ByteArray) (m : Mc) (w : World) (hM : McIn B b t v wd m w) (hB : B ≤ w.heap.size) (hn : m.op.length ≤ 1099511627776) (hs : m.st = 12) (c : Nat) (hc : c < 256) (h : c = 101) :
  Calls Tryz.prog 75 #[.pointer (some ⟨b, 0, none⟩), .int .u8 (c : Int)] w fun e w' => StepAt B b t v m (numM m c) w e w' := by
 have hdum := And.intro hB (And.intro hn hc)
 clear hdum
 have hA := hM.at_
 have hA' := hid hA
 have hM' := hid hM
 have c1 : w.cell? ⟨b, 1, none⟩ = some (.int .i64 12) := by rw [(mcAt_of hA).c1, hs]; rfl
 have f1 := hA.frozen 1
 have hdg : digN c = false := by unfold digN; simp; omega
 have g46 : ((c : Int) == 46) = false := by simp; omega
 have g101 : ((c : Int) == 101) = true := by simp; omega
 have g69 : ((c : Int) == 69) = false := by simp; omega
 have hE : Hid (numM m c = some { m with st := 15 }) := hid (by unfold numM; rw [if_neg (fun k => by have := k.1; omega), if_neg (fun k => by have := k.1; omega), if_neg (by omega), if_neg (fun k => by rw [hdg] at k; cases k.2), if_neg (by omega), if_neg (by omega), if_pos ⟨by omega, by omega⟩])
 have hdx := hid (digit16_calls c hc)
 rw [hdg] at hdx
 rw [hE.out]
 obtain ⟨X, hX⟩ : ∃ X, Hid ((some { m with st := 15 } : Option Mc) = X) := ⟨_, rfl⟩
 rw [hX.out]
 clear hM hA hs hB hn h
 go_enter Tryz.func75, Tryz.ntmps75
 go_wp2_with (first | (refine (hdx.out _).mono ?_; rintro e w1 ⟨rfl, hw1⟩; rw [hw1]; clear hw1))
 go_ret
 rw [← hX.out]
 exact stepAt_some hM'.out ((Only.refl _ _).set _ _) (by simpa [mcC] using hA'.out.set 1 (.int .i64 15)) rfl hM'.out.word
set_option maxRecDepth 10000 in
set_option maxHeartbeats 1000000 in
theorem num16_12e69 (B b : Nat) (t : TypeId) (v : Value) (wd : ByteArray) (m : Mc) (w : World) (hM : McIn B b t v wd m w) (hB : B ≤ w.heap.size) (hn : m.op.length ≤ 1099511627776) (hs : m.st = 12) (c : Nat) (hc : c < 256) (h : c = 69) :
  Calls Tryz.prog 75 #[.pointer (some ⟨b, 0, none⟩), .int .u8 (c : Int)] w fun e w' => StepAt B b t v m (numM m c) w e w' := by
 have hdum := And.intro hB (And.intro hn hc)
 clear hdum
 have hA := hM.at_
 have hA' := hid hA
 have hM' := hid hM
 have c1 : w.cell? ⟨b, 1, none⟩ = some (.int .i64 12) := by rw [(mcAt_of hA).c1, hs]; rfl
 have f1 := hA.frozen 1
 have hdg : digN c = false := by unfold digN; simp; omega
 have g46 : ((c : Int) == 46) = false := by simp; omega
 have g101 : ((c : Int) == 101) = false := by simp; omega
 have g69 : ((c : Int) == 69) = true := by simp; omega
 have hE : Hid (numM m c = some { m with st := 15 }) := hid (by unfold numM; rw [if_neg (fun k => by have := k.1; omega), if_neg (fun k => by have := k.1; omega), if_neg (by omega), if_neg (fun k => by rw [hdg] at k; cases k.2), if_neg (by omega), if_neg (by omega), if_pos ⟨by omega, by omega⟩])
 have hdx := hid (digit16_calls c hc)
 rw [hdg] at hdx
 rw [hE.out]
 obtain ⟨X, hX⟩ : ∃ X, Hid ((some { m with st := 15 } : Option Mc) = X) := ⟨_, rfl⟩
 rw [hX.out]
 clear hM hA hs hB hn h
 go_enter Tryz.func75, Tryz.ntmps75
 go_wp2_with (first | (refine (hdx.out _).mono ?_; rintro e w1 ⟨rfl, hw1⟩; rw [hw1]; clear hw1))
 go_ret
 rw [← hX.out]
 exact stepAt_some hM'.out ((Only.refl _ _).set _ _) (by simpa [mcC] using hA'.out.set 1 (.int .i64 15)) rfl hM'.out.word
set_option maxRecDepth 10000 in
set_option maxHeartbeats 1000000 in
theorem num16_12r (B b : Nat) (t : TypeId) (v : Value) (wd : ByteArray) (m : Mc) (w : World) (hM : McIn B b t v wd m w) (hB : B ≤ w.heap.size) (hn : m.op.length ≤ 1099511627776) (hs : m.st = 12) (c : Nat) (hc : c < 256) (hdg : digN c = false) (h1 : c ≠ 46) (h2 : c ≠ 101) (h3 : c ≠ 69) :
  Calls Tryz.prog 75 #[.pointer (some ⟨b, 0, none⟩), .int .u8 (c : Int)] w fun e w' => StepAt B b t v m (numM m c) w e w' := by
 have hdum := And.intro hB (And.intro hn hc)
 clear hdum
 have hA := hM.at_
 have hA' := hid hA
 have hM' := hid hM
 have c1 : w.cell? ⟨b, 1, none⟩ = some (.int .i64 12) := by rw [(mcAt_of hA).c1, hs]; rfl
 have f1 := hA.frozen 1
 have g46 : ((c : Int) == 46) = false := by simp; omega
 have g101 : ((c : Int) == 101) = false := by simp; omega
 have g69 : ((c : Int) == 69) = false := by simp; omega
 have hE : Hid (numM m c = afterM m c) := hid (by unfold numM; rw [if_neg (fun k => by have := k.1; omega), if_neg (fun k => by have := k.1; omega), if_neg (by omega), if_neg (fun k => by rw [hdg] at k; cases k.2), if_neg (by omega), if_neg (by omega), if_neg (by omega), if_neg (by omega), if_neg (by omega)])
 have hdx := hid (digit16_calls c hc)
 rw [hdg] at hdx
 have haf := hid (after16_calls B b t v wd m c hc w hM hB hn)
 rw [hE.out]
 obtain ⟨X, hX⟩ : ∃ X, Hid (afterM m c = X) := ⟨_, rfl⟩
 rw [hX.out] at haf ⊢
 clear hM hA hs hB hn
 go_enter Tryz.func75, Tryz.ntmps75
 go_wp2_with (first | (refine (hdx.out _).mono ?_; rintro e w1 ⟨rfl, hw1⟩; rw [hw1]; clear hw1) | (refine (haf.out).mono ?_))
 rintro e w' hst
 obtain ⟨he, hst2⟩ := hst
 subst he
 have hst2' := hid hst2
 clear hst2
 go_wp2
 go_ret
 exact ⟨rfl, hst2'.out⟩
set_option maxRecDepth 10000 in
set_option maxHeartbeats 1000000 in
theorem num16_13 (B b : Nat) (t : TypeId) (v : Value) (wd : ByteArray) (m : Mc) (w : World) (hM : McIn B b t v wd m w) (hB : B ≤ w.heap.size) (hn : m.op.length ≤ 1099511627776) (hs : m.st = 13) (c : Nat) (hc : c < 256)  :
  Calls Tryz.prog 75 #[.pointer (some ⟨b, 0, none⟩), .int .u8 (c : Int)] w fun e w' => StepAt B b t v m (numM m c) w e w' := by
 have hdum := And.intro hB (And.intro hn hc)
 clear hdum
 have hA := hM.at_
 have hA' := hid hA
 have hM' := hid hM
 have c1 : w.cell? ⟨b, 1, none⟩ = some (.int .i64 13) := by rw [(mcAt_of hA).c1, hs]; rfl
 have f1 := hA.frozen 1
 have hE : Hid (numM m c = if digN c = true then some { m with st := 14 } else none) := hid (by unfold numM; rw [if_neg (fun k => by have := k.1; omega), if_neg (fun k => by have := k.1; omega), if_neg (by omega), if_neg (fun k => by have := k.1; omega), if_neg (by omega), if_pos hs])
 have hdx := hid (digit16_calls c hc)
 obtain ⟨z, hz⟩ : ∃ z, Hid (digN c = z) := ⟨_, rfl⟩
 rw [hz.out] at hdx
 rw [hE.out, hz.out]
 obtain ⟨X, hX⟩ : ∃ X, Hid ((if z = true then some { m with st := 14 } else none : Option Mc) = X) := ⟨_, rfl⟩
 rw [hX.out]
 clear hM hA hs hB hn
 go_enter Tryz.func75, Tryz.ntmps75
 go_wp2_with (first | (refine (hdx.out _).mono ?_; rintro e w1 ⟨rfl, hw1⟩; rw [hw1]; clear hw1))
 go_ret
 rw [← hX.out]
 cases z with
  | true => exact stepAt_some hM'.out ((Only.refl _ _).set _ _) (by simpa [mcC] using hA'.out.set 1 (.int .i64 14)) rfl hM'.out.word
  | false => exact stepAt_none hM'.out ((Only.refl _ _).set _ _)
set_option maxRecDepth 10000 in
set_option maxHeartbeats 1000000 in
theorem num16_14d (B b : Nat) (t : TypeId) (v : Value) (wd : ByteArray) (m : Mc) (w : World) (hM : McIn B b t v wd m w) (hB : B ≤ w.heap.size) (hn : m.op.length ≤ 1099511627776) (hs : m.st = 14) (c : Nat) (hc : c < 256) (hdg : digN c = true) :
  Calls Tryz.prog 75 #[.pointer (some ⟨b, 0, none⟩), .int .u8 (c : Int)] w fun e w' => StepAt B b t v m (numM m c) w e w' := by
 have hdum := And.intro hB (And.intro hn hc)
 clear hdum
 have hA := hM.at_
 have hA' := hid hA
 have hM' := hid hM
 have c1 : w.cell? ⟨b, 1, none⟩ = some (.int .i64 14) := by rw [(mcAt_of hA).c1, hs]; rfl
 have f1 := hA.frozen 1
 have hE : Hid (numM m c = some m) := hid (by unfold numM; rw [if_neg (fun k => by have := k.1; omega), if_neg (fun k => by have := k.1; omega), if_neg (by omega), if_pos ⟨Or.inr (Or.inl hs), hdg⟩])
 have hdx := hid (digit16_calls c hc)
 rw [hdg] at hdx
 rw [hE.out]
 obtain ⟨X, hX⟩ : ∃ X, Hid ((some m : Option Mc) = X) := ⟨_, rfl⟩
 rw [hX.out]
 clear hM hA hs hB hn
 go_enter Tryz.func75, Tryz.ntmps75
 go_wp2_with (first | (refine (hdx.out _).mono ?_; rintro e w1 ⟨rfl, hw1⟩; rw [hw1]; clear hw1))
 go_ret
 rw [← hX.out]
 exact stepAt_some hM'.out (Only.refl _ _) hA'.out rfl hM'.out.word
set_option maxRecDepth 10000 in
set_option maxHeartbeats 1000000 in
theorem num16_14e101 (B b : Nat) (t : TypeId) (v : Value) (wd : ByteArray) (m : Mc) (w : World) (hM : McIn B b t v wd m w) (hB : B ≤ w.heap.size) (hn : m.op.length ≤ 1099511627776) (hs : m.st = 14) (c : Nat) (hc : c < 256) (h : c = 101) :
  Calls Tryz.prog 75 #[.pointer (some ⟨b, 0, none⟩), .int .u8 (c : Int)] w fun e w' => StepAt B b t v m (numM m c) w e w' := by
 have hdum := And.intro hB (And.intro hn hc)
 clear hdum
 have hA := hM.at_
 have hA' := hid hA
 have hM' := hid hM
 have c1 : w.cell? ⟨b, 1, none⟩ = some (.int .i64 14) := by rw [(mcAt_of hA).c1, hs]; rfl
 have f1 := hA.frozen 1
 have hdg : digN c = false := by unfold digN; simp; omega
 have g101 : ((c : Int) == 101) = true := by simp; omega
 have g69 : ((c : Int) == 69) = false := by simp; omega
 have hE : Hid (numM m c = some { m with st := 15 }) := hid (by unfold numM; rw [if_neg (fun k => by have := k.1; omega), if_neg (fun k => by have := k.1; omega), if_neg (by omega), if_neg (fun k => by rw [hdg] at k; cases k.2), if_neg (by omega), if_neg (by omega), if_pos ⟨by omega, by omega⟩])
 have hdx := hid (digit16_calls c hc)
 rw [hdg] at hdx
 rw [hE.out]
 obtain ⟨X, hX⟩ : ∃ X, Hid ((some { m with st := 15 } : Option Mc) = X) := ⟨_, rfl⟩
 rw [hX.out]
 clear hM hA hs hB hn h
 go_enter Tryz.func75, Tryz.ntmps75
 go_wp2_with (first | (refine (hdx.out _).mono ?_; rintro e w1 ⟨rfl, hw1⟩; rw [hw1]; clear hw1))
 go_ret
 rw [← hX.out]
 exact stepAt_some hM'.out ((Only.refl _ _).set _ _) (by simpa [mcC] using hA'.out.set 1 (.int .i64 15)) rfl hM'.out.word
set_option maxRecDepth 10000 in
set_option maxHeartbeats 1000000 in
theorem num16_14e69 (B b : Nat) (t : TypeId) (v : Value) (wd : ByteArray) (m : Mc) (w : World) (hM : McIn B b t v wd m w) (hB : B ≤ w.heap.size) (hn : m.op.length ≤ 1099511627776) (hs : m.st = 14) (c : Nat) (hc : c < 256) (h : c = 69) :
  Calls Tryz.prog 75 #[.pointer (some ⟨b, 0, none⟩), .int .u8 (c : Int)] w fun e w' => StepAt B b t v m (numM m c) w e w' := by
 have hdum := And.intro hB (And.intro hn hc)
 clear hdum
 have hA := hM.at_
 have hA' := hid hA
 have hM' := hid hM
 have c1 : w.cell? ⟨b, 1, none⟩ = some (.int .i64 14) := by rw [(mcAt_of hA).c1, hs]; rfl
 have f1 := hA.frozen 1
 have hdg : digN c = false := by unfold digN; simp; omega
 have g101 : ((c : Int) == 101) = false := by simp; omega
 have g69 : ((c : Int) == 69) = true := by simp; omega
 have hE : Hid (numM m c = some { m with st := 15 }) := hid (by unfold numM; rw [if_neg (fun k => by have := k.1; omega), if_neg (fun k => by have := k.1; omega), if_neg (by omega), if_neg (fun k => by rw [hdg] at k; cases k.2), if_neg (by omega), if_neg (by omega), if_pos ⟨by omega, by omega⟩])
 have hdx := hid (digit16_calls c hc)
 rw [hdg] at hdx
 rw [hE.out]
 obtain ⟨X, hX⟩ : ∃ X, Hid ((some { m with st := 15 } : Option Mc) = X) := ⟨_, rfl⟩
 rw [hX.out]
 clear hM hA hs hB hn h
 go_enter Tryz.func75, Tryz.ntmps75
 go_wp2_with (first | (refine (hdx.out _).mono ?_; rintro e w1 ⟨rfl, hw1⟩; rw [hw1]; clear hw1))
 go_ret
 rw [← hX.out]
 exact stepAt_some hM'.out ((Only.refl _ _).set _ _) (by simpa [mcC] using hA'.out.set 1 (.int .i64 15)) rfl hM'.out.word
set_option maxRecDepth 10000 in
set_option maxHeartbeats 1000000 in
theorem num16_14r (B b : Nat) (t : TypeId) (v : Value) (wd : ByteArray) (m : Mc) (w : World) (hM : McIn B b t v wd m w) (hB : B ≤ w.heap.size) (hn : m.op.length ≤ 1099511627776) (hs : m.st = 14) (c : Nat) (hc : c < 256) (hdg : digN c = false) (h2 : c ≠ 101) (h3 : c ≠ 69) :
  Calls Tryz.prog 75 #[.pointer (some ⟨b, 0, none⟩), .int .u8 (c : Int)] w fun e w' => StepAt B b t v m (numM m c) w e w' := by
 have hdum := And.intro hB (And.intro hn hc)
 clear hdum
 have hA := hM.at_
 have hA' := hid hA
 have hM' := hid hM
 have c1 : w.cell? ⟨b, 1, none⟩ = some (.int .i64 14) := by rw [(mcAt_of hA).c1, hs]; rfl
 have f1 := hA.frozen 1
 have g101 : ((c : Int) == 101) = false := by simp; omega
 have g69 : ((c : Int) == 69) = false := by simp; omega
 have hE : Hid (numM m c = afterM m c) := hid (by unfold numM; rw [if_neg (fun k => by have := k.1; omega), if_neg (fun k => by have := k.1; omega), if_neg (by omega), if_neg (fun k => by rw [hdg] at k; cases k.2), if_neg (by omega), if_neg (by omega), if_neg (by omega), if_neg (by omega), if_neg (by omega)])
 have hdx := hid (digit16_calls c hc)
 rw [hdg] at hdx
 have haf := hid (after16_calls B b t v wd m c hc w hM hB hn)
 rw [hE.out]
 obtain ⟨X, hX⟩ : ∃ X, Hid (afterM m c = X) := ⟨_, rfl⟩
 rw [hX.out] at haf ⊢
 clear hM hA hs hB hn
 go_enter Tryz.func75, Tryz.ntmps75
 go_wp2_with (first | (refine (hdx.out _).mono ?_; rintro e w1 ⟨rfl, hw1⟩; rw [hw1]; clear hw1) | (refine (haf.out).mono ?_))
 rintro e w' hst
 obtain ⟨he, hst2⟩ := hst
 subst he
 have hst2' := hid hst2
 clear hst2
 go_wp2
 go_ret
 exact ⟨rfl, hst2'.out⟩
set_option maxRecDepth 10000 in
set_option maxHeartbeats 1000000 in
theorem num16_15s43 (B b : Nat) (t : TypeId) (v : Value) (wd : ByteArray) (m : Mc) (w : World) (hM : McIn B b t v wd m w) (hB : B ≤ w.heap.size) (hn : m.op.length ≤ 1099511627776) (hs : m.st = 15) (c : Nat) (hc : c < 256) (h : c = 43) :
  Calls Tryz.prog 75 #[.pointer (some ⟨b, 0, none⟩), .int .u8 (c : Int)] w fun e w' => StepAt B b t v m (numM m c) w e w' := by
 have hdum := And.intro hB (And.intro hn hc)
 clear hdum
 have hA := hM.at_
 have hA' := hid hA
 have hM' := hid hM
 have c1 : w.cell? ⟨b, 1, none⟩ = some (.int .i64 15) := by rw [(mcAt_of hA).c1, hs]; rfl
 have f1 := hA.frozen 1
 have g43 : ((c : Int) == 43) = true := by simp; omega
 have g45 : ((c : Int) == 45) = false := by simp; omega
 have hE : Hid (numM m c = some { m with st := 16 }) := hid (by unfold numM; rw [if_neg (fun k => by have := k.1; omega), if_neg (fun k => by have := k.1; omega), if_neg (by omega), if_neg (fun k => by have := k.1; omega), if_neg (by omega), if_neg (by omega), if_neg (by omega), if_pos ⟨hs, by omega⟩])
 rw [hE.out]
 obtain ⟨X, hX⟩ : ∃ X, Hid ((some { m with st := 16 } : Option Mc) = X) := ⟨_, rfl⟩
 rw [hX.out]
 clear hM hA hs hB hn h
 go_enter Tryz.func75, Tryz.ntmps75
 go_wp2
 go_ret
 rw [← hX.out]
 exact stepAt_some hM'.out ((Only.refl _ _).set _ _) (by simpa [mcC] using hA'.out.set 1 (.int .i64 16)) rfl hM'.out.word
set_option maxRecDepth 10000 in
set_option maxHeartbeats 1000000 in
theorem num16_15s45 (B b : Nat) (t : TypeId) (v : Value) (wd : ByteArray) (m : Mc) (w : World) (hM : McIn B b t v wd m w) (hB : B ≤ w.heap.size) (hn : m.op.length ≤ 1099511627776) (hs : m.st = 15) (c : Nat) (hc : c < 256) (h : c = 45) :
  Calls Tryz.prog 75 #[.pointer (some ⟨b, 0, none⟩), .int .u8 (c : Int)] w fun e w' => StepAt B b t v m (numM m c) w e w' := by
 have hdum := And.intro hB (And.intro hn hc)
 clear hdum
 have hA := hM.at_
 have hA' := hid hA
 have hM' := hid hM
 have c1 : w.cell? ⟨b, 1, none⟩ = some (.int .i64 15) := by rw [(mcAt_of hA).c1, hs]; rfl
 have f1 := hA.frozen 1
 have g43 : ((c : Int) == 43) = false := by simp; omega
 have g45 : ((c : Int) == 45) = true := by simp; omega
 have hE : Hid (numM m c = some { m with st := 16 }) := hid (by unfold numM; rw [if_neg (fun k => by have := k.1; omega), if_neg (fun k => by have := k.1; omega), if_neg (by omega), if_neg (fun k => by have := k.1; omega), if_neg (by omega), if_neg (by omega), if_neg (by omega), if_pos ⟨hs, by omega⟩])
 rw [hE.out]
 obtain ⟨X, hX⟩ : ∃ X, Hid ((some { m with st := 16 } : Option Mc) = X) := ⟨_, rfl⟩
 rw [hX.out]
 clear hM hA hs hB hn h
 go_enter Tryz.func75, Tryz.ntmps75
 go_wp2
 go_ret
 rw [← hX.out]
 exact stepAt_some hM'.out ((Only.refl _ _).set _ _) (by simpa [mcC] using hA'.out.set 1 (.int .i64 16)) rfl hM'.out.word
set_option maxRecDepth 10000 in
set_option maxHeartbeats 1000000 in
theorem num16_15r (B b : Nat) (t : TypeId) (v : Value) (wd : ByteArray) (m : Mc) (w : World) (hM : McIn B b t v wd m w) (hB : B ≤ w.heap.size) (hn : m.op.length ≤ 1099511627776) (hs : m.st = 15) (c : Nat) (hc : c < 256) (h1 : c ≠ 43) (h2 : c ≠ 45) :
  Calls Tryz.prog 75 #[.pointer (some ⟨b, 0, none⟩), .int .u8 (c : Int)] w fun e w' => StepAt B b t v m (numM m c) w e w' := by
 have hdum := And.intro hB (And.intro hn hc)
 clear hdum
 have hA := hM.at_
 have hA' := hid hA
 have hM' := hid hM
 have c1 : w.cell? ⟨b, 1, none⟩ = some (.int .i64 15) := by rw [(mcAt_of hA).c1, hs]; rfl
 have f1 := hA.frozen 1
 have g43 : ((c : Int) == 43) = false := by simp; omega
 have g45 : ((c : Int) == 45) = false := by simp; omega
 have hE : Hid (numM m c = if digN c = true then some { m with st := 17 } else none) := hid (by unfold numM; rw [if_neg (fun k => by have := k.1; omega), if_neg (fun k => by have := k.1; omega), if_neg (by omega), if_neg (fun k => by have := k.1; omega), if_neg (by omega), if_neg (by omega), if_neg (by omega), if_neg (by omega), if_pos (Or.inl hs)])
 have hdx := hid (digit16_calls c hc)
 obtain ⟨z, hz⟩ : ∃ z, Hid (digN c = z) := ⟨_, rfl⟩
 rw [hz.out] at hdx
 rw [hE.out, hz.out]
 obtain ⟨X, hX⟩ : ∃ X, Hid ((if z = true then some { m with st := 17 } else none : Option Mc) = X) := ⟨_, rfl⟩
 rw [hX.out]
 clear hM hA hs hB hn
 go_enter Tryz.func75, Tryz.ntmps75
 go_wp2_with (first | (refine (hdx.out _).mono ?_; rintro e w1 ⟨rfl, hw1⟩; rw [hw1]; clear hw1))
 go_ret
 rw [← hX.out]
 cases z with
  | true => exact stepAt_some hM'.out ((Only.refl _ _).set _ _) (by simpa [mcC] using hA'.out.set 1 (.int .i64 17)) rfl hM'.out.word
  | false => exact stepAt_none hM'.out ((Only.refl _ _).set _ _)
set_option maxRecDepth 10000 in
set_option maxHeartbeats 1000000 in
theorem num16_16 (B b : Nat) (t : TypeId) (v : Value) (wd : ByteArray) (m : Mc) (w : World) (hM : McIn B b t v wd m w) (hB : B ≤ w.heap.size) (hn : m.op.length ≤ 1099511627776) (hs : m.st = 16) (c : Nat) (hc : c < 256)  :
  Calls Tryz.prog 75 #[.pointer (some ⟨b, 0, none⟩), .int .u8 (c : Int)] w fun e w' => StepAt B b t v m (numM m c) w e w' := by
 have hdum := And.intro hB (And.intro hn hc)
 clear hdum
 have hA := hM.at_
 have hA' := hid hA
 have hM' := hid hM
 have c1 : w.cell? ⟨b, 1, none⟩ = some (.int .i64 16) := by rw [(mcAt_of hA).c1, hs]; rfl
 have f1 := hA.frozen 1
 have hE : Hid (numM m c = if digN c = true then some { m with st := 17 } else none) := hid (by unfold numM; rw [if_neg (fun k => by have := k.1; omega), if_neg (fun k => by have := k.1; omega), if_neg (by omega), if_neg (fun k => by have := k.1; omega), if_neg (by omega), if_neg (by omega), if_neg (by omega), if_neg (by omega), if_pos (Or.inr hs)])
 have hdx := hid (digit16_calls c hc)
 obtain ⟨z, hz⟩ : ∃ z, Hid (digN c = z) := ⟨_, rfl⟩
 rw [hz.out] at hdx
 rw [hE.out, hz.out]
 obtain ⟨X, hX⟩ : ∃ X, Hid ((if z = true then some { m with st := 17 } else none : Option Mc) = X) := ⟨_, rfl⟩
 rw [hX.out]
 clear hM hA hs hB hn
 go_enter Tryz.func75, Tryz.ntmps75
 go_wp2_with (first | (refine (hdx.out _).mono ?_; rintro e w1 ⟨rfl, hw1⟩; rw [hw1]; clear hw1))
 go_ret
 rw [← hX.out]
 cases z with
  | true => exact stepAt_some hM'.out ((Only.refl _ _).set _ _) (by simpa [mcC] using hA'.out.set 1 (.int .i64 17)) rfl hM'.out.word
  | false => exact stepAt_none hM'.out ((Only.refl _ _).set _ _)
set_option maxRecDepth 10000 in
set_option maxHeartbeats 1000000 in
theorem num16_17d (B b : Nat) (t : TypeId) (v : Value) (wd : ByteArray) (m : Mc) (w : World) (hM : McIn B b t v wd m w) (hB : B ≤ w.heap.size) (hn : m.op.length ≤ 1099511627776) (hs : m.st = 17) (c : Nat) (hc : c < 256) (hdg : digN c = true) :
  Calls Tryz.prog 75 #[.pointer (some ⟨b, 0, none⟩), .int .u8 (c : Int)] w fun e w' => StepAt B b t v m (numM m c) w e w' := by
 have hdum := And.intro hB (And.intro hn hc)
 clear hdum
 have hA := hM.at_
 have hA' := hid hA
 have hM' := hid hM
 have c1 : w.cell? ⟨b, 1, none⟩ = some (.int .i64 17) := by rw [(mcAt_of hA).c1, hs]; rfl
 have f1 := hA.frozen 1
 have hE : Hid (numM m c = some m) := hid (by unfold numM; rw [if_neg (fun k => by have := k.1; omega), if_neg (fun k => by have := k.1; omega), if_neg (by omega), if_pos ⟨Or.inr (Or.inr hs), hdg⟩])
 have hdx := hid (digit16_calls c hc)
 rw [hdg] at hdx
 rw [hE.out]
 obtain ⟨X, hX⟩ : ∃ X, Hid ((some m : Option Mc) = X) := ⟨_, rfl⟩
 rw [hX.out]
 clear hM hA hs hB hn
 go_enter Tryz.func75, Tryz.ntmps75
 go_wp2_with (first | (refine (hdx.out _).mono ?_; rintro e w1 ⟨rfl, hw1⟩; rw [hw1]; clear hw1))
 go_ret
 rw [← hX.out]
 exact stepAt_some hM'.out (Only.refl _ _) hA'.out rfl hM'.out.word
set_option maxRecDepth 10000 in
set_option maxHeartbeats 1000000 in
theorem num16_17r (B b : Nat) (t : TypeId) (v : Value) (wd : ByteArray) (m : Mc) (w : World) (hM : McIn B b t v wd m w) (hB : B ≤ w.heap.size) (hn : m.op.length ≤ 1099511627776) (hs : m.st = 17) (c : Nat) (hc : c < 256) (hdg : digN c = false) :
  Calls Tryz.prog 75 #[.pointer (some ⟨b, 0, none⟩), .int .u8 (c : Int)] w fun e w' => StepAt B b t v m (numM m c) w e w' := by
 have hdum := And.intro hB (And.intro hn hc)
 clear hdum
 have hA := hM.at_
 have hA' := hid hA
 have hM' := hid hM
 have c1 : w.cell? ⟨b, 1, none⟩ = some (.int .i64 17) := by rw [(mcAt_of hA).c1, hs]; rfl
 have f1 := hA.frozen 1
 have hE : Hid (numM m c = afterM m c) := hid (by unfold numM; rw [if_neg (fun k => by have := k.1; omega), if_neg (fun k => by have := k.1; omega), if_neg (by omega), if_neg (fun k => by rw [hdg] at k; cases k.2), if_neg (by omega), if_neg (by omega), if_neg (by omega), if_neg (by omega), if_neg (by omega)])
 have hdx := hid (digit16_calls c hc)
 rw [hdg] at hdx
 have haf := hid (after16_calls B b t v wd m c hc w hM hB hn)
 rw [hE.out]
 obtain ⟨X, hX⟩ : ∃ X, Hid (afterM m c = X) := ⟨_, rfl⟩
 rw [hX.out] at haf ⊢
 clear hM hA hs hB hn
 go_enter Tryz.func75, Tryz.ntmps75
 go_wp2_with (first | (refine (hdx.out _).mono ?_; rintro e w1 ⟨rfl, hw1⟩; rw [hw1]; clear hw1) | (refine (haf.out).mono ?_))
 rintro e w' hst
 obtain ⟨he, hst2⟩ := hst
 subst he
 have hst2' := hid hst2
 clear hst2
 go_wp2
 go_ret
 exact ⟨rfl, hst2'.out⟩
theorem num16_calls (B b : Nat) (t : TypeId) (v : Value) (wd : ByteArray) (m : Mc) (c : Nat) (hc : c < 256) (w : World) (hM : McIn B b t v wd m w) (hB : B ≤ w.heap.size) (hn : m.op.length ≤ 1099511627776) (h10 : 10 ≤ m.st) (h17 : m.st ≤ 17) :
  Calls Tryz.prog 75 #[.pointer (some ⟨b, 0, none⟩), .int .u8 (c : Int)] w fun e w' => StepAt B b t v m (numM m c) w e w' := by
 obtain hs | hs | hs | hs | hs | hs | hs | hs : m.st = 10 ∨ m.st = 11 ∨ m.st = 12 ∨ m.st = 13 ∨ m.st = 14 ∨ m.st = 15 ∨ m.st = 16 ∨ m.st = 17 := by omega
 ·by_cases h : c = 48
  ·exact num16_10z B b t v wd m w hM hB hn hs c hc h
  ·cases hdg : digN c with
   | true => exact num16_10d B b t v wd m w hM hB hn hs c hc hdg h
   | false => exact num16_10n B b t v wd m w hM hB hn hs c hc hdg
 ·by_cases h1 : c = 46
  ·exact num16_11p B b t v wd m w hM hB hn hs c hc h1
  by_cases h2 : c = 101
  ·exact num16_11e101 B b t v wd m w hM hB hn hs c hc h2
  by_cases h3 : c = 69
  ·exact num16_11e69 B b t v wd m w hM hB hn hs c hc h3
  exact num16_11r B b t v wd m w hM hB hn hs c hc h1 h2 h3
 ·by_cases h1 : c = 46
  ·exact num16_12p B b t v wd m w hM hB hn hs c hc h1
  by_cases h2 : c = 101
  ·exact num16_12e101 B b t v wd m w hM hB hn hs c hc h2
  by_cases h3 : c = 69
  ·exact num16_12e69 B b t v wd m w hM hB hn hs c hc h3
  cases hdg : digN c with
  | true => exact num16_12d B b t v wd m w hM hB hn hs c hc hdg
  | false => exact num16_12r B b t v wd m w hM hB hn hs c hc hdg h1 h2 h3
 ·exact num16_13 B b t v wd m w hM hB hn hs c hc
 ·by_cases h2 : c = 101
  ·exact num16_14e101 B b t v wd m w hM hB hn hs c hc h2
  by_cases h3 : c = 69
  ·exact num16_14e69 B b t v wd m w hM hB hn hs c hc h3
  cases hdg : digN c with
  | true => exact num16_14d B b t v wd m w hM hB hn hs c hc hdg
  | false => exact num16_14r B b t v wd m w hM hB hn hs c hc hdg h2 h3
 ·by_cases h1 : c = 43
  ·exact num16_15s43 B b t v wd m w hM hB hn hs c hc h1
  by_cases h2 : c = 45
  ·exact num16_15s45 B b t v wd m w hM hB hn hs c hc h2
  exact num16_15r B b t v wd m w hM hB hn hs c hc h1 h2
 ·exact num16_16 B b t v wd m w hM hB hn hs c hc
 ·cases hdg : digN c with
  | true => exact num16_17d B b t v wd m w hM hB hn hs c hc hdg
  | false => exact num16_17r B b t v wd m w hM hB hn hs c hc hdg
end Go.Proofs.YtkejlejhnnjdkaaGreatDoor
/- What the reference's machine does with a byte. -/
namespace Go.Proofs.YtkejlejhnnjdkaaGreatDoor
open Go.RowKit Go.Shelf
/-- What a machine must be, for a byte to be taken without a fault. -/
structure StepOk (m : Mc) : Prop where
 st : m.st ≤ 17
 lf : m.lf ≤ 4
 l8 : m.st = 8 → 1 ≤ m.lf
 w9 : m.st = 9 → m.wd ≠ []
 s12 : m.st = 1 ∨ m.st = 2 → m.op ≠ []
theorem stepAt_mk {B b : Nat} {t : TypeId} {v : Value} {wd : ByteArray} {m : Mc} {E : Option Mc} {w w' : World} (hM : McIn B b t v wd m w) (h : Only b w w') (hk : ∀ k, E = some k → At w' b (mcC v wd k) t) (hs : ∀ k, E = some k → k.op = m.op ∧ k.wd = m.wd) : StepAt B b t v m E w (.returned (.bool E.isSome)) w' := by
 cases E with
 | none => exact stepAt_none hM h
 | some k => exact stepAt_some hM h (hk k rfl) (hs k rfl).1 (by rw [(hs k rfl).2]; exact hM.word)
theorem char16_at (B b : Nat) (t : TypeId) (v : Value) (wd : ByteArray) (m : Mc) (c : Nat) (hc : c < 256) (w : World) (hM : McIn B b t v wd m w) (hl : m.lf ≤ 4) :
  Calls Tryz.prog 76 #[.pointer (some ⟨b, 0, none⟩), .int .u8 (c : Int)] w fun e w' => StepAt B b t v m (charM m c) w e w' := by
 refine (char16_calls b t v wd m c hc w hM.at_ hl).mono ?_
 rintro e w' ⟨rfl, ho, hk⟩
 exact stepAt_mk hM ho hk (fun k h => char_keeps h)
theorem esc16_at (B b : Nat) (t : TypeId) (v : Value) (wd : ByteArray) (m : Mc) (c : Nat) (hc : c < 256) (w : World) (hM : McIn B b t v wd m w) (hl : m.lf ≤ 4) (h8 : m.st = 8 → 1 ≤ m.lf) :
  Calls Tryz.prog 77 #[.pointer (some ⟨b, 0, none⟩), .int .u8 (c : Int)] w fun e w' => StepAt B b t v m (escM m c) w e w' := by
 refine (esc16_calls b t v wd m c hc w hM.at_ hl h8).mono ?_
 rintro e w' ⟨rfl, ho, hk⟩
 exact stepAt_mk hM ho hk (fun k h => esc_keeps h)
set_option maxRecDepth 10000 in
set_option maxHeartbeats 1000000 in
theorem step16_num (B b : Nat) (t : TypeId) (v : Value) (wd : ByteArray) (m : Mc) (w : World) (hM : McIn B b t v wd m w) (hB : B ≤ w.heap.size) (hn : m.op.length ≤ 1099511627776) (hF : StepOk m) (c : Nat) (hc : c < 256) (h10 : 10 ≤ m.st) :
  Calls Tryz.prog 54 #[.pointer (some ⟨b, 0, none⟩), .int .u8 (c : Int)] w fun e w' => StepAt B b t v m (stepM m c) w e w' := by
 have hdum := And.intro hB (And.intro hn (And.intro hc hF.st))
 clear hdum
 have hA := hM.at_
 have hA' := hid hA
 have hM' := hid hM
 obtain ⟨s, hs⟩ : ∃ s, m.st = s := ⟨_, rfl⟩
 have c1 : w.cell? ⟨b, 1, none⟩ = some (.int .i64 (s : Int)) := by rw [(mcAt_of hA).c1, hs]
 have g1 : (10 : Int) ≤ (s : Int) := by omega
 have hE : Hid (stepM m c = numM m c) := hid (by unfold stepM; rw [if_pos h10])
 have h17 := hF.st
 have hnn := num16_calls B b t v wd m c hc w hM hB hn h10 h17
 clear h17 h10 hs
 have haf := hid (hnn)
 rw [hE.out]
 obtain ⟨X, hX⟩ : ∃ X, Hid (numM m c = X) := ⟨_, rfl⟩
 rw [hX.out] at haf ⊢
 clear hM hA hB hn hF
 go_enter Tryz.func54, Tryz.ntmps54
 go_wp2_with (first | (refine (haf.out).mono ?_))
 rintro e w' hst
 obtain ⟨he, hst2⟩ := hst
 subst he
 have hst2' := hid hst2
 clear hst2
 go_wp2
 go_ret
 exact ⟨rfl, hst2'.out⟩
set_option maxRecDepth 10000 in
set_option maxHeartbeats 1000000 in
theorem step16_char (B b : Nat) (t : TypeId) (v : Value) (wd : ByteArray) (m : Mc) (w : World) (hM : McIn B b t v wd m w) (hB : B ≤ w.heap.size) (hn : m.op.length ≤ 1099511627776) (hF : StepOk m) (c : Nat) (hc : c < 256) (hs : m.st = 6) :
  Calls Tryz.prog 54 #[.pointer (some ⟨b, 0, none⟩), .int .u8 (c : Int)] w fun e w' => StepAt B b t v m (stepM m c) w e w' := by
 have hdum := And.intro hB (And.intro hn (And.intro hc hF.st))
 clear hdum
 have hA := hM.at_
 have hA' := hid hA
 have hM' := hid hM
 have c1 : w.cell? ⟨b, 1, none⟩ = some (.int .i64 6) := by rw [(mcAt_of hA).c1, hs]; rfl
 have hE : Hid (stepM m c = charM m c) := hid (by unfold stepM; rw [if_neg (by omega), if_pos hs])
 have hnn := char16_at B b t v wd m c hc w hM hF.lf
 clear hs
 have haf := hid (hnn)
 rw [hE.out]
 obtain ⟨X, hX⟩ : ∃ X, Hid (charM m c = X) := ⟨_, rfl⟩
 rw [hX.out] at haf ⊢
 clear hM hA hB hn hF
 go_enter Tryz.func54, Tryz.ntmps54
 go_wp2_with (first | (refine (haf.out).mono ?_))
 rintro e w' hst
 obtain ⟨he, hst2⟩ := hst
 subst he
 have hst2' := hid hst2
 clear hst2
 go_wp2
 go_ret
 exact ⟨rfl, hst2'.out⟩
set_option maxRecDepth 10000 in
set_option maxHeartbeats 1000000 in
theorem step16_esc7 (B b : Nat) (t : TypeId) (v : Value) (wd : ByteArray) (m : Mc) (w : World) (hM : McIn B b t v wd m w) (hB : B ≤ w.heap.size) (hn : m.op.length ≤ 1099511627776) (hF : StepOk m) (c : Nat) (hc : c < 256) (hs : m.st = 7) :
  Calls Tryz.prog 54 #[.pointer (some ⟨b, 0, none⟩), .int .u8 (c : Int)] w fun e w' => StepAt B b t v m (stepM m c) w e w' := by
 have hdum := And.intro hB (And.intro hn (And.intro hc hF.st))
 clear hdum
 have hA := hM.at_
 have hA' := hid hA
 have hM' := hid hM
 have c1 : w.cell? ⟨b, 1, none⟩ = some (.int .i64 7) := by rw [(mcAt_of hA).c1, hs]; rfl
 have hE : Hid (stepM m c = escM m c) := hid (by unfold stepM; rw [if_neg (by omega), if_neg (by omega), if_pos (by omega)])
 have hnn := esc16_at B b t v wd m c hc w hM hF.lf hF.l8
 clear hs
 have haf := hid (hnn)
 rw [hE.out]
 obtain ⟨X, hX⟩ : ∃ X, Hid (escM m c = X) := ⟨_, rfl⟩
 rw [hX.out] at haf ⊢
 clear hM hA hB hn hF
 go_enter Tryz.func54, Tryz.ntmps54
 go_wp2_with (first | (refine (haf.out).mono ?_))
 rintro e w' hst
 obtain ⟨he, hst2⟩ := hst
 subst he
 have hst2' := hid hst2
 clear hst2
 go_wp2
 go_ret
 exact ⟨rfl, hst2'.out⟩
set_option maxRecDepth 10000 in
set_option maxHeartbeats 1000000 in
theorem step16_esc8 (B b : Nat) (t : TypeId) (v : Value) (wd : ByteArray) (m : Mc) (w : World) (hM : McIn B b t v wd m w) (hB : B ≤ w.heap.size) (hn : m.op.length ≤ 1099511627776) (hF : StepOk m) (c : Nat) (hc : c < 256) (hs : m.st = 8) :
  Calls Tryz.prog 54 #[.pointer (some ⟨b, 0, none⟩), .int .u8 (c : Int)] w fun e w' => StepAt B b t v m (stepM m c) w e w' := by
 have hdum := And.intro hB (And.intro hn (And.intro hc hF.st))
 clear hdum
 have hA := hM.at_
 have hA' := hid hA
 have hM' := hid hM
 have c1 : w.cell? ⟨b, 1, none⟩ = some (.int .i64 8) := by rw [(mcAt_of hA).c1, hs]; rfl
 have hE : Hid (stepM m c = escM m c) := hid (by unfold stepM; rw [if_neg (by omega), if_neg (by omega), if_pos (by omega)])
 have hnn := esc16_at B b t v wd m c hc w hM hF.lf hF.l8
 clear hs
 have haf := hid (hnn)
 rw [hE.out]
 obtain ⟨X, hX⟩ : ∃ X, Hid (escM m c = X) := ⟨_, rfl⟩
 rw [hX.out] at haf ⊢
 clear hM hA hB hn hF
 go_enter Tryz.func54, Tryz.ntmps54
 go_wp2_with (first | (refine (haf.out).mono ?_))
 rintro e w' hst
 obtain ⟨he, hst2⟩ := hst
 subst he
 have hst2' := hid hst2
 clear hst2
 go_wp2
 go_ret
 exact ⟨rfl, hst2'.out⟩
set_option maxRecDepth 10000 in
set_option maxHeartbeats 1000000 in
theorem step16_word0 (B b : Nat) (t : TypeId) (v : Value) (wd : ByteArray) (m : Mc) (w : World) (hM : McIn B b t v wd m w) (hB : B ≤ w.heap.size) (hn : m.op.length ≤ 1099511627776) (hF : StepOk m) (c : Nat) (hc : c < 256) (hs : m.st = 9) (hne : ∀ x r, m.wd = x :: r → x ≠ c) :
  Calls Tryz.prog 54 #[.pointer (some ⟨b, 0, none⟩), .int .u8 (c : Int)] w fun e w' => StepAt B b t v m (stepM m c) w e w' := by
 have hdum := And.intro hB (And.intro hn (And.intro hc hF.st))
 clear hdum
 have hA := hM.at_
 have hA' := hid hA
 have hM' := hid hM
 have c1 : w.cell? ⟨b, 1, none⟩ = some (.int .i64 9) := by rw [(mcAt_of hA).c1, hs]; rfl
 have c3 := (mcAt_of hA).c3
 have f1 := hA.frozen 1
 have f3 := hA.frozen 3
 obtain ⟨x, r, hxr⟩ := List.exists_cons_of_ne_nil (hF.w9 hs)
 have hwd : byts wd = x :: r := by rw [hM.word, hxr]
 have hsz : wd.size = r.length + 1 := by rw [← byts_length, hwd]; rfl
 have hz0 : 0 < wd.size := by omega
 have hzi : (0 : Int) < (wd.size : Int) := by omega
 have hzi1 : (1 : Int) ≤ (wd.size : Int) := by omega
 have hx0 : (wd[0]'hz0).toNat = x := by
  have h : (byts wd)[0]? = some (wd[0]'hz0).toNat := by unfold byts; rw [List.getElem?_map, Array.getElem?_toList, Array.getElem?_eq_getElem (show 0 < wd.data.size from hz0)]; rfl
  rw [hwd] at h
  injection h with h
  exact h.symm
 have hxc := hne x r hxr
 have hxl : x < 256 := by rw [← hx0]; exact (wd[0]'hz0).toNat_lt
 have g1 : ((x : Int) != (c : Int)) = true := by simp; omega
 have hE : Hid (stepM m c = none) := hid (by unfold stepM; rw [if_neg (by omega), if_neg (by omega), if_neg (by omega), if_pos hs, hxr]; show (if x = c then _ else _) = _; rw [if_neg hxc])
 rw [hE.out]
 clear hM hA hB hn hF hs hne hxr hwd hsz hxc
 go_enter Tryz.func54, Tryz.ntmps54
 go_wp2
 go_ret
 exact stepAt_none hM'.out (Only.refl _ _)
set_option maxRecDepth 10000 in
set_option maxHeartbeats 1000000 in
theorem step16_word1 (B b : Nat) (t : TypeId) (v : Value) (wd : ByteArray) (m : Mc) (w : World) (hM : McIn B b t v wd m w) (hB : B ≤ w.heap.size) (hn : m.op.length ≤ 1099511627776) (hF : StepOk m) (c : Nat) (hc : c < 256) (hs : m.st = 9) (r : List Nat) (hr : m.wd = c :: r) (hre : r = []) :
  Calls Tryz.prog 54 #[.pointer (some ⟨b, 0, none⟩), .int .u8 (c : Int)] w fun e w' => StepAt B b t v m (stepM m c) w e w' := by
 have hdum := And.intro hB (And.intro hn (And.intro hc hF.st))
 clear hdum
 have hA := hM.at_
 have hA' := hid hA
 have hM' := hid hM
 have c1 : w.cell? ⟨b, 1, none⟩ = some (.int .i64 9) := by rw [(mcAt_of hA).c1, hs]; rfl
 have c3 := (mcAt_of hA).c3
 have f1 := hA.frozen 1
 have f3 := hA.frozen 3
 have hxr := hr
 have hwd : byts wd = c :: r := by rw [hM.word, hxr]
 have hsz : wd.size = r.length + 1 := by rw [← byts_length, hwd]; rfl
 have hz0 : 0 < wd.size := by omega
 have hzi : (0 : Int) < (wd.size : Int) := by omega
 have hzi1 : (1 : Int) ≤ (wd.size : Int) := by omega
 have hx0 : (wd[0]'hz0).toNat = c := by
  have h : (byts wd)[0]? = some (wd[0]'hz0).toNat := by unfold byts; rw [List.getElem?_map, Array.getElem?_toList, Array.getElem?_eq_getElem (show 0 < wd.data.size from hz0)]; rfl
  rw [hwd] at h
  injection h with h
  exact h.symm
 have g1 : ((c : Int) != (c : Int)) = false := by simp
 obtain ⟨wd', hwd'⟩ : ∃ u, wd.extract 1 wd.size = u := ⟨_, rfl⟩
 have hb' : byts wd' = r := by rw [← hwd', byts_extract, hwd]; simp [hsz]
 have hE : Hid (stepM m c = some { m with wd := r, st := 5 }) := hid (by unfold stepM; rw [if_neg (by omega), if_neg (by omega), if_neg (by omega), if_pos hs, hxr]; show (if c = c then some ({ m with wd := r, st := if r = [] then 5 else 9 } : Mc) else none) = _; rw [if_pos rfl, if_pos hre])
 have hb2 := hid hb'
 have hw0 : wd' = ⟨#[]⟩ := by apply byts_inj; rw [hb', hre]; rfl
 subst hw0
 rw [hE.out]
 clear hM hA hB hn hF hs hr hre hwd hb' hsz hxr
 go_enter Tryz.func54, Tryz.ntmps54
 go_wp2
 go_ret
 exact stepAt_some (wd' := ⟨#[]⟩) hM'.out (((Only.refl _ _).set _ _).set _ _) (by simpa [mcC] using (hA'.out.set 3 (.string ⟨#[]⟩)).set 1 (.int .i64 5)) rfl hb2.out
set_option maxRecDepth 10000 in
set_option maxHeartbeats 1000000 in
theorem step16_word2 (B b : Nat) (t : TypeId) (v : Value) (wd : ByteArray) (m : Mc) (w : World) (hM : McIn B b t v wd m w) (hB : B ≤ w.heap.size) (hn : m.op.length ≤ 1099511627776) (hF : StepOk m) (c : Nat) (hc : c < 256) (hs : m.st = 9) (r : List Nat) (hr : m.wd = c :: r) (hre : r ≠ []) :
  Calls Tryz.prog 54 #[.pointer (some ⟨b, 0, none⟩), .int .u8 (c : Int)] w fun e w' => StepAt B b t v m (stepM m c) w e w' := by
 have hdum := And.intro hB (And.intro hn (And.intro hc hF.st))
 clear hdum
 have hA := hM.at_
 have hA' := hid hA
 have hM' := hid hM
 have c1 : w.cell? ⟨b, 1, none⟩ = some (.int .i64 9) := by rw [(mcAt_of hA).c1, hs]; rfl
 have c3 := (mcAt_of hA).c3
 have f1 := hA.frozen 1
 have f3 := hA.frozen 3
 have hxr := hr
 have hwd : byts wd = c :: r := by rw [hM.word, hxr]
 have hsz : wd.size = r.length + 1 := by rw [← byts_length, hwd]; rfl
 have hz0 : 0 < wd.size := by omega
 have hzi : (0 : Int) < (wd.size : Int) := by omega
 have hzi1 : (1 : Int) ≤ (wd.size : Int) := by omega
 have hx0 : (wd[0]'hz0).toNat = c := by
  have h : (byts wd)[0]? = some (wd[0]'hz0).toNat := by unfold byts; rw [List.getElem?_map, Array.getElem?_toList, Array.getElem?_eq_getElem (show 0 < wd.data.size from hz0)]; rfl
  rw [hwd] at h
  injection h with h
  exact h.symm
 have g1 : ((c : Int) != (c : Int)) = false := by simp
 obtain ⟨wd', hwd'⟩ : ∃ u, wd.extract 1 wd.size = u := ⟨_, rfl⟩
 have hb' : byts wd' = r := by rw [← hwd', byts_extract, hwd]; simp [hsz]
 have hE : Hid (stepM m c = some { m with wd := r, st := 9 }) := hid (by unfold stepM; rw [if_neg (by omega), if_neg (by omega), if_neg (by omega), if_pos hs, hxr]; show (if c = c then some ({ m with wd := r, st := if r = [] then 5 else 9 } : Mc) else none) = _; rw [if_pos rfl, if_neg hre])
 have hb2 := hid hb'
 have hst9 := hid hs
 have e3 : wd'.toList ≠ [] := fun e => hre (by rw [← hb']; unfold byts; rw [← Lib.toList_data, e]; rfl)
 have e4 : (wd'.toList == []) = false := by rw [beq_eq_false_iff_ne]; exact e3
 clear e3
 rw [hE.out]
 clear hM hA hB hn hF hs hr hre hwd hb' hsz hxr
 go_enter Tryz.func54, Tryz.ntmps54
 go_wp2
 go_ret
 exact stepAt_some (wd' := wd') hM'.out ((Only.refl _ _).set _ _) (by have h5 := hA'.out.set 3 (.string wd'); have h6 := hst9.out; simpa [mcC, h6] using h5) rfl hb2.out
set_option maxRecDepth 10000 in
set_option maxHeartbeats 1000000 in
theorem step16_blank (B b : Nat) (t : TypeId) (v : Value) (wd : ByteArray) (m : Mc) (w : World) (hM : McIn B b t v wd m w) (hB : B ≤ w.heap.size) (hn : m.op.length ≤ 1099511627776) (hF : StepOk m) (c : Nat) (hc : c < 256) (h5 : m.st ≤ 5) (hbc : blankN c = true) :
  Calls Tryz.prog 54 #[.pointer (some ⟨b, 0, none⟩), .int .u8 (c : Int)] w fun e w' => StepAt B b t v m (stepM m c) w e w' := by
 have hdum := And.intro hB (And.intro hn (And.intro hc hF.st))
 clear hdum
 have hA := hM.at_
 have hA' := hid hA
 have hM' := hid hM
 obtain ⟨s, hs⟩ : ∃ s, m.st = s := ⟨_, rfl⟩
 have c1 : w.cell? ⟨b, 1, none⟩ = some (.int .i64 (s : Int)) := by rw [(mcAt_of hA).c1, hs]
 have hbl := hid (blank16_calls c hc)
 rw [hbc] at hbl
 have g1 : decide ((10 : Int) ≤ (s : Int)) = false := by simp; omega
 have g6 : ((s : Int) == 6) = false := by simp; omega
 have g7 : ((s : Int) == 7) = false := by simp; omega
 have g8 : ((s : Int) == 8) = false := by simp; omega
 have g9 : ((s : Int) == 9) = false := by simp; omega
 have hE : Hid (stepM m c = some m) := hid (by unfold stepM; rw [if_neg (by omega), if_neg (by omega), if_neg (by omega), if_neg (by omega), if_pos hbc])
 have hs5 : s ≤ 5 := by omega
 rw [hE.out]
 clear hM hA hB hn hF hbc h5 hs
 go_enter Tryz.func54, Tryz.ntmps54
 go_wp2_with (first | (refine (hbl.out _).mono ?_; rintro e w1 ⟨rfl, hw1⟩; rw [hw1]; clear hw1))
 go_ret
 exact stepAt_some hM'.out (Only.refl _ _) hA'.out rfl hM'.out.word
set_option maxRecDepth 10000 in
set_option maxHeartbeats 1000000 in
theorem step16_after (B b : Nat) (t : TypeId) (v : Value) (wd : ByteArray) (m : Mc) (w : World) (hM : McIn B b t v wd m w) (hB : B ≤ w.heap.size) (hn : m.op.length ≤ 1099511627776) (hF : StepOk m) (c : Nat) (hc : c < 256) (hs : m.st = 5) (hbc : blankN c = false) :
  Calls Tryz.prog 54 #[.pointer (some ⟨b, 0, none⟩), .int .u8 (c : Int)] w fun e w' => StepAt B b t v m (stepM m c) w e w' := by
 have hdum := And.intro hB (And.intro hn (And.intro hc hF.st))
 clear hdum
 have hA := hM.at_
 have hA' := hid hA
 have hM' := hid hM
 have c1 : w.cell? ⟨b, 1, none⟩ = some (.int .i64 5) := by rw [(mcAt_of hA).c1, hs]; rfl
 have hbl := hid (blank16_calls c hc)
 rw [hbc] at hbl
 have hE : Hid (stepM m c = afterM m c) := hid (by unfold stepM; rw [if_neg (by omega), if_neg (by omega), if_neg (by omega), if_neg (by omega), if_neg (by rw [hbc]; decide), if_pos hs])
 have hnn := after16_calls B b t v wd m c hc w hM hB hn
 clear hs hbc
 have haf := hid (hnn)
 rw [hE.out]
 obtain ⟨X, hX⟩ : ∃ X, Hid (afterM m c = X) := ⟨_, rfl⟩
 rw [hX.out] at haf ⊢
 clear hM hA hB hn hF
 go_enter Tryz.func54, Tryz.ntmps54
 go_wp2_with (first | (refine (hbl.out _).mono ?_; rintro e w1 ⟨rfl, hw1⟩; rw [hw1]; clear hw1) | (refine (haf.out).mono ?_))
 rintro e w' hst
 obtain ⟨he, hst2⟩ := hst
 subst he
 have hst2' := hid hst2
 clear hst2
 go_wp2
 go_ret
 exact ⟨rfl, hst2'.out⟩
set_option maxRecDepth 10000 in
set_option maxHeartbeats 1000000 in
theorem step16_colon (B b : Nat) (t : TypeId) (v : Value) (wd : ByteArray) (m : Mc) (w : World) (hM : McIn B b t v wd m w) (hB : B ≤ w.heap.size) (hn : m.op.length ≤ 1099511627776) (hF : StepOk m) (c : Nat) (hc : c < 256) (hs : m.st = 4) (hbc : blankN c = false) :
  Calls Tryz.prog 54 #[.pointer (some ⟨b, 0, none⟩), .int .u8 (c : Int)] w fun e w' => StepAt B b t v m (stepM m c) w e w' := by
 have hdum := And.intro hB (And.intro hn (And.intro hc hF.st))
 clear hdum
 have hA := hM.at_
 have hA' := hid hA
 have hM' := hid hM
 have c1 : w.cell? ⟨b, 1, none⟩ = some (.int .i64 4) := by rw [(mcAt_of hA).c1, hs]; rfl
 have f1 := hA.frozen 1
 have hbl := hid (blank16_calls c hc)
 rw [hbc] at hbl
 have hE : Hid (stepM m c = if c = 58 then some { m with st := 0 } else none) := hid (by unfold stepM; rw [if_neg (by omega), if_neg (by omega), if_neg (by omega), if_neg (by omega), if_neg (by rw [hbc]; decide), if_neg (by omega), if_pos hs])
 obtain ⟨z, hz⟩ : ∃ z, ((c : Int) == 58) = z := ⟨_, rfl⟩
 have hz2 : Hid (c = 58 ↔ z = true) := hid (by rw [← hz]; simp; omega)
 rw [hE.out]
 obtain ⟨X, hX⟩ : ∃ X, Hid ((if c = 58 then some { m with st := 0 } else none : Option Mc) = X) := ⟨_, rfl⟩
 rw [hX.out]
 clear hM hA hB hn hF hs hbc
 go_enter Tryz.func54, Tryz.ntmps54
 go_wp2_with (first | (refine (hbl.out _).mono ?_; rintro e w1 ⟨rfl, hw1⟩; rw [hw1]; clear hw1))
 go_ret
 rw [← hX.out]
 by_cases h58 : c = 58
 ·rw [if_pos h58]
  obtain rfl := hz2.out.1 h58
  exact stepAt_some hM'.out ((Only.refl _ _).set _ _) (by simpa [mcC] using hA'.out.set 1 (.int .i64 0)) rfl hM'.out.word
 ·rw [if_neg h58]
  obtain rfl : z = false := by cases z with
   | true => exact absurd (hz2.out.2 rfl) h58
   | false => rfl
  exact stepAt_none hM'.out ((Only.refl _ _).set _ _)
set_option maxRecDepth 10000 in
set_option maxHeartbeats 1000000 in
theorem step16_value0 (B b : Nat) (t : TypeId) (v : Value) (wd : ByteArray) (m : Mc) (w : World) (hM : McIn B b t v wd m w) (hB : B ≤ w.heap.size) (hn : m.op.length ≤ 1099511627776) (hF : StepOk m) (c : Nat) (hc : c < 256) (hs : m.st = 0) (hbc : blankN c = false) :
  Calls Tryz.prog 54 #[.pointer (some ⟨b, 0, none⟩), .int .u8 (c : Int)] w fun e w' => StepAt B b t v m (stepM m c) w e w' := by
 have hdum := And.intro hB (And.intro hn (And.intro hc hF.st))
 clear hdum
 have hA := hM.at_
 have hA' := hid hA
 have hM' := hid hM
 have c1 : w.cell? ⟨b, 1, none⟩ = some (.int .i64 0) := by rw [(mcAt_of hA).c1, hs]; rfl
 have hbl := hid (blank16_calls c hc)
 rw [hbc] at hbl
 have hE : Hid (stepM m c = valueM m c) := hid (by unfold stepM; rw [if_neg (by omega), if_neg (by omega), if_neg (by omega), if_neg (by omega), if_neg (by rw [hbc]; decide), if_neg (by omega), if_neg (by omega), if_pos hs])
 have hnn := value16_calls B b t v wd m c hc w hM hB hn
 clear hs hbc
 have haf := hid (hnn)
 rw [hE.out]
 obtain ⟨X, hX⟩ : ∃ X, Hid (valueM m c = X) := ⟨_, rfl⟩
 rw [hX.out] at haf ⊢
 clear hM hA hB hn hF
 go_enter Tryz.func54, Tryz.ntmps54
 go_wp2_with (first | (refine (hbl.out _).mono ?_; rintro e w1 ⟨rfl, hw1⟩; rw [hw1]; clear hw1) | (refine (haf.out).mono ?_))
 rintro e w' hst
 obtain ⟨he, hst2⟩ := hst
 subst he
 have hst2' := hid hst2
 clear hst2
 go_wp2
 go_ret
 exact ⟨rfl, hst2'.out⟩
set_option maxRecDepth 10000 in
set_option maxHeartbeats 1000000 in
theorem step16_value1 (B b : Nat) (t : TypeId) (v : Value) (wd : ByteArray) (m : Mc) (w : World) (hM : McIn B b t v wd m w) (hB : B ≤ w.heap.size) (hn : m.op.length ≤ 1099511627776) (hF : StepOk m) (c : Nat) (hc : c < 256) (hs : m.st = 1) (hbc : blankN c = false) (h93 : c ≠ 93) :
  Calls Tryz.prog 54 #[.pointer (some ⟨b, 0, none⟩), .int .u8 (c : Int)] w fun e w' => StepAt B b t v m (stepM m c) w e w' := by
 have hdum := And.intro hB (And.intro hn (And.intro hc hF.st))
 clear hdum
 have hA := hM.at_
 have hA' := hid hA
 have hM' := hid hM
 have c1 : w.cell? ⟨b, 1, none⟩ = some (.int .i64 1) := by rw [(mcAt_of hA).c1, hs]; rfl
 have g93 : ((c : Int) == 93) = false := by simp; omega
 have hbl := hid (blank16_calls c hc)
 rw [hbc] at hbl
 have hE : Hid (stepM m c = valueM m c) := hid (by unfold stepM; rw [if_neg (by omega), if_neg (by omega), if_neg (by omega), if_neg (by omega), if_neg (by rw [hbc]; decide), if_neg (by omega), if_neg (by omega), if_neg (by omega), if_neg (by omega), if_pos hs])
 have hnn := value16_calls B b t v wd m c hc w hM hB hn
 clear hs hbc h93
 have haf := hid (hnn)
 rw [hE.out]
 obtain ⟨X, hX⟩ : ∃ X, Hid (valueM m c = X) := ⟨_, rfl⟩
 rw [hX.out] at haf ⊢
 clear hM hA hB hn hF
 go_enter Tryz.func54, Tryz.ntmps54
 go_wp2_with (first | (refine (hbl.out _).mono ?_; rintro e w1 ⟨rfl, hw1⟩; rw [hw1]; clear hw1) | (refine (haf.out).mono ?_))
 rintro e w' hst
 obtain ⟨he, hst2⟩ := hst
 subst he
 have hst2' := hid hst2
 clear hst2
 go_wp2
 go_ret
 exact ⟨rfl, hst2'.out⟩
set_option maxRecDepth 10000 in
set_option maxHeartbeats 1000000 in
theorem step16_name2 (B b : Nat) (t : TypeId) (v : Value) (wd : ByteArray) (m : Mc) (w : World) (hM : McIn B b t v wd m w) (hB : B ≤ w.heap.size) (hn : m.op.length ≤ 1099511627776) (hF : StepOk m) (c : Nat) (hc : c < 256) (hs : m.st = 2) (hbc : blankN c = false) (h125 : c ≠ 125) :
  Calls Tryz.prog 54 #[.pointer (some ⟨b, 0, none⟩), .int .u8 (c : Int)] w fun e w' => StepAt B b t v m (stepM m c) w e w' := by
 have hdum := And.intro hB (And.intro hn (And.intro hc hF.st))
 clear hdum
 have hA := hM.at_
 have hA' := hid hA
 have hM' := hid hM
 have c1 : w.cell? ⟨b, 1, none⟩ = some (.int .i64 2) := by rw [(mcAt_of hA).c1, hs]; rfl
 have c2 := (mcAt_of hA).c2
 have f1 := hA.frozen 1
 have f2 := hA.frozen 2
 have g125 : ((c : Int) == 125) = false := by simp; omega
 have hbl := hid (blank16_calls c hc)
 rw [hbc] at hbl
 have hE : Hid (stepM m c = if c = 34 then some { m with nm := true, st := 6 } else none) := hid (by unfold stepM; rw [if_neg (by omega), if_neg (by omega), if_neg (by omega), if_neg (by omega), if_neg (by rw [hbc]; decide), if_neg (by omega), if_neg (by omega), if_neg (by omega), if_neg (by omega), if_neg (by omega)])
 obtain ⟨z, hz⟩ : ∃ z, ((c : Int) == 34) = z := ⟨_, rfl⟩
 have hz2 : Hid (c = 34 ↔ z = true) := hid (by rw [← hz]; simp; omega)
 rw [hE.out]
 obtain ⟨X, hX⟩ : ∃ X, Hid ((if c = 34 then some { m with nm := true, st := 6 } else none : Option Mc) = X) := ⟨_, rfl⟩
 rw [hX.out]
 clear hM hA hB hn hF hs hbc h125
 go_enter Tryz.func54, Tryz.ntmps54
 go_wp2_with (first | (refine (hbl.out _).mono ?_; rintro e w1 ⟨rfl, hw1⟩; rw [hw1]; clear hw1))
 go_ret
 rw [← hX.out]
 by_cases h34 : c = 34
 ·rw [if_pos h34]
  obtain rfl := hz2.out.1 h34
  exact stepAt_some hM'.out (((Only.refl _ _).set _ _).set _ _) (by simpa [mcC] using (hA'.out.set 2 (.bool true)).set 1 (.int .i64 6)) rfl hM'.out.word
 ·rw [if_neg h34]
  obtain rfl : z = false := by cases z with
   | true => exact absurd (hz2.out.2 rfl) h34
   | false => rfl
  exact stepAt_none hM'.out (((Only.refl _ _).set _ _).set _ _)
set_option maxRecDepth 10000 in
set_option maxHeartbeats 1000000 in
theorem step16_name3 (B b : Nat) (t : TypeId) (v : Value) (wd : ByteArray) (m : Mc) (w : World) (hM : McIn B b t v wd m w) (hB : B ≤ w.heap.size) (hn : m.op.length ≤ 1099511627776) (hF : StepOk m) (c : Nat) (hc : c < 256) (hs : m.st = 3) (hbc : blankN c = false)  :
  Calls Tryz.prog 54 #[.pointer (some ⟨b, 0, none⟩), .int .u8 (c : Int)] w fun e w' => StepAt B b t v m (stepM m c) w e w' := by
 have hdum := And.intro hB (And.intro hn (And.intro hc hF.st))
 clear hdum
 have hA := hM.at_
 have hA' := hid hA
 have hM' := hid hM
 have c1 : w.cell? ⟨b, 1, none⟩ = some (.int .i64 3) := by rw [(mcAt_of hA).c1, hs]; rfl
 have c2 := (mcAt_of hA).c2
 have f1 := hA.frozen 1
 have f2 := hA.frozen 2
 have hbl := hid (blank16_calls c hc)
 rw [hbc] at hbl
 have hE : Hid (stepM m c = if c = 34 then some { m with nm := true, st := 6 } else none) := hid (by unfold stepM; rw [if_neg (by omega), if_neg (by omega), if_neg (by omega), if_neg (by omega), if_neg (by rw [hbc]; decide), if_neg (by omega), if_neg (by omega), if_neg (by omega), if_neg (by omega), if_neg (by omega)])
 obtain ⟨z, hz⟩ : ∃ z, ((c : Int) == 34) = z := ⟨_, rfl⟩
 have hz2 : Hid (c = 34 ↔ z = true) := hid (by rw [← hz]; simp; omega)
 rw [hE.out]
 obtain ⟨X, hX⟩ : ∃ X, Hid ((if c = 34 then some { m with nm := true, st := 6 } else none : Option Mc) = X) := ⟨_, rfl⟩
 rw [hX.out]
 clear hM hA hB hn hF hs hbc
 go_enter Tryz.func54, Tryz.ntmps54
 go_wp2_with (first | (refine (hbl.out _).mono ?_; rintro e w1 ⟨rfl, hw1⟩; rw [hw1]; clear hw1))
 go_ret
 rw [← hX.out]
 by_cases h34 : c = 34
 ·rw [if_pos h34]
  obtain rfl := hz2.out.1 h34
  exact stepAt_some hM'.out (((Only.refl _ _).set _ _).set _ _) (by simpa [mcC] using (hA'.out.set 2 (.bool true)).set 1 (.int .i64 6)) rfl hM'.out.word
 ·rw [if_neg h34]
  obtain rfl : z = false := by cases z with
   | true => exact absurd (hz2.out.2 rfl) h34
   | false => rfl
  exact stepAt_none hM'.out (((Only.refl _ _).set _ _).set _ _)
set_option maxRecDepth 10000 in
set_option maxHeartbeats 1000000 in
theorem step16_pop1 (B b : Nat) (t : TypeId) (v : Value) (wd : ByteArray) (m : Mc) (w : World) (hM : McIn B b t v wd m w) (hB : B ≤ w.heap.size) (hn : m.op.length ≤ 1099511627776) (hF : StepOk m) (c : Nat) (hc : c < 256) (hs : m.st = 1) (hcc : c = 93) :
  Calls Tryz.prog 54 #[.pointer (some ⟨b, 0, none⟩), .int .u8 (c : Int)] w fun e w' => StepAt B b t v m (stepM m c) w e w' := by
 have hdum := And.intro hB (And.intro hn (And.intro hc hF.st))
 clear hdum
 have hA := hM.at_
 have hA' := hid hA
 have hM' := hid hM
 have c1 : w.cell? ⟨b, 1, none⟩ = some (.int .i64 1) := by rw [(mcAt_of hA).c1, hs]; rfl
 have f0 := hA.frozen 0
 have f1 := hA.frozen 1
 have c0 := (mcAt_of hA).c0
 have hbc : blankN c = false := by rw [hcc]; decide
 have hbl := hid (blank16_calls c hc)
 rw [hbc] at hbl
 have g93 : ((c : Int) == 93) = true := by simp; omega
 have g125 : ((c : Int) == 125) = false := by simp; omega
 have hE : Hid (stepM m c = some { m with op := m.op.dropLast, st := 5 }) := hid (by unfold stepM; rw [if_neg (by omega), if_neg (by omega), if_neg (by omega), if_neg (by omega), if_neg (by rw [hbc]; decide), if_neg (by omega), if_neg (by omega), if_neg (by omega), if_pos (by omega)])
 obtain ⟨n, hnn⟩ : ∃ n, m.op.length = n := ⟨_, rfl⟩
 have hpos : n ≠ 0 := fun e => hF.s12 (by omega) (List.eq_nil_of_length_eq_zero (by omega))
 obtain ⟨N, hN⟩ : ∃ N, n = N + 1 := ⟨n - 1, by omega⟩
 obtain ⟨g, cap, hv, hcap⟩ : ∃ g cap, v = .slice (some ⟨g, 0, none⟩) (N + 1) cap ∧ N + 1 ≤ cap := by
  rcases hM'.out.row.2 with ⟨-, h⟩ | ⟨g, cap, cur, h, -, -, hc2, -⟩
  ·exact absurd (hnn.symm.trans h) hpos
  ·exact ⟨g, cap, by rw [h]; show Value.slice _ m.op.length _ = _; rw [hnn, hN], by have h3 : m.op.length ≤ cap := hc2; omega⟩
 subst hv
 have hln : Hid (m.op.length = N + 1) := hid (by omega)
 have q1 : (N : Int) + 1 ≤ 1099511627776 := by omega
 have q2 : ((N : Int) + 1) - 1 = (N : Int) := by omega
 have q3 : (N : Int) ≤ (cap : Int) := by omega
 have q4 : N ≤ cap := by omega
 have q5 : ((N + 1 : Nat) : Int) - 1 = (N : Int) := by omega
 rw [hE.out]
 clear hpos hN hnn hn hM hA hB hF hs hbc hcc
 go_enter Tryz.func54, Tryz.ntmps54
 go_wp2_with (first | (refine (hbl.out _).mono ?_; rintro e w1 ⟨rfl, hw1⟩; rw [hw1]; clear hw1))
 go_region
 go_wp2
 go_ret
 refine ⟨rfl, BelX.of_only ((((Only.refl _ _).drew).set _ _).set _ _), fun k hk => ?_, fun hk => by cases hk⟩
 injection hk with hk
 subst hk
 refine ⟨.slice (some ⟨g, 0, none⟩) N cap, wd, ?_, ?_, hM'.out.word, hM'.out.lt⟩
 ·simpa [mcC] using ((hA'.out.set 0 (.slice (some ⟨g, 0, none⟩) N cap)).set 1 (.int .i64 5)).drew
 ·have h5 := own_only (own_pop (show w.ownsRow B 5 1 (.slice (some ⟨g, 0, none⟩) (N + 1) cap) (N + 1) (opC m.op) from hln.out ▸ hM'.out.row)) hM'.out.lt ((((Only.refl b w).drew).set 0 (.slice (some ⟨g, 0, none⟩) N cap)).set 1 (.int .i64 5))
  rw [opC_drop] at h5
  show (World.setCell _ _ _).ownsRow B 5 1 _ m.op.dropLast.length (opC m.op.dropLast)
  rw [List.length_dropLast, hln.out]
  exact h5
set_option maxRecDepth 10000 in
set_option maxHeartbeats 1000000 in
theorem step16_pop2 (B b : Nat) (t : TypeId) (v : Value) (wd : ByteArray) (m : Mc) (w : World) (hM : McIn B b t v wd m w) (hB : B ≤ w.heap.size) (hn : m.op.length ≤ 1099511627776) (hF : StepOk m) (c : Nat) (hc : c < 256) (hs : m.st = 2) (hcc : c = 125) :
  Calls Tryz.prog 54 #[.pointer (some ⟨b, 0, none⟩), .int .u8 (c : Int)] w fun e w' => StepAt B b t v m (stepM m c) w e w' := by
 have hdum := And.intro hB (And.intro hn (And.intro hc hF.st))
 clear hdum
 have hA := hM.at_
 have hA' := hid hA
 have hM' := hid hM
 have c1 : w.cell? ⟨b, 1, none⟩ = some (.int .i64 2) := by rw [(mcAt_of hA).c1, hs]; rfl
 have f0 := hA.frozen 0
 have f1 := hA.frozen 1
 have c0 := (mcAt_of hA).c0
 have hbc : blankN c = false := by rw [hcc]; decide
 have hbl := hid (blank16_calls c hc)
 rw [hbc] at hbl
 have g93 : ((c : Int) == 93) = false := by simp; omega
 have g125 : ((c : Int) == 125) = true := by simp; omega
 have hE : Hid (stepM m c = some { m with op := m.op.dropLast, st := 5 }) := hid (by unfold stepM; rw [if_neg (by omega), if_neg (by omega), if_neg (by omega), if_neg (by omega), if_neg (by rw [hbc]; decide), if_neg (by omega), if_neg (by omega), if_neg (by omega), if_pos (by omega)])
 obtain ⟨n, hnn⟩ : ∃ n, m.op.length = n := ⟨_, rfl⟩
 have hpos : n ≠ 0 := fun e => hF.s12 (by omega) (List.eq_nil_of_length_eq_zero (by omega))
 obtain ⟨N, hN⟩ : ∃ N, n = N + 1 := ⟨n - 1, by omega⟩
 obtain ⟨g, cap, hv, hcap⟩ : ∃ g cap, v = .slice (some ⟨g, 0, none⟩) (N + 1) cap ∧ N + 1 ≤ cap := by
  rcases hM'.out.row.2 with ⟨-, h⟩ | ⟨g, cap, cur, h, -, -, hc2, -⟩
  ·exact absurd (hnn.symm.trans h) hpos
  ·exact ⟨g, cap, by rw [h]; show Value.slice _ m.op.length _ = _; rw [hnn, hN], by have h3 : m.op.length ≤ cap := hc2; omega⟩
 subst hv
 have hln : Hid (m.op.length = N + 1) := hid (by omega)
 have q1 : (N : Int) + 1 ≤ 1099511627776 := by omega
 have q2 : ((N : Int) + 1) - 1 = (N : Int) := by omega
 have q3 : (N : Int) ≤ (cap : Int) := by omega
 have q4 : N ≤ cap := by omega
 have q5 : ((N + 1 : Nat) : Int) - 1 = (N : Int) := by omega
 rw [hE.out]
 clear hpos hN hnn hn hM hA hB hF hs hbc hcc
 go_enter Tryz.func54, Tryz.ntmps54
 go_wp2_with (first | (refine (hbl.out _).mono ?_; rintro e w1 ⟨rfl, hw1⟩; rw [hw1]; clear hw1))
 go_region
 go_wp2
 go_ret
 refine ⟨rfl, BelX.of_only ((((Only.refl _ _).drew).set _ _).set _ _), fun k hk => ?_, fun hk => by cases hk⟩
 injection hk with hk
 subst hk
 refine ⟨.slice (some ⟨g, 0, none⟩) N cap, wd, ?_, ?_, hM'.out.word, hM'.out.lt⟩
 ·simpa [mcC] using ((hA'.out.set 0 (.slice (some ⟨g, 0, none⟩) N cap)).set 1 (.int .i64 5)).drew
 ·have h5 := own_only (own_pop (show w.ownsRow B 5 1 (.slice (some ⟨g, 0, none⟩) (N + 1) cap) (N + 1) (opC m.op) from hln.out ▸ hM'.out.row)) hM'.out.lt ((((Only.refl b w).drew).set 0 (.slice (some ⟨g, 0, none⟩) N cap)).set 1 (.int .i64 5))
  rw [opC_drop] at h5
  show (World.setCell _ _ _).ownsRow B 5 1 _ m.op.dropLast.length (opC m.op.dropLast)
  rw [List.length_dropLast, hln.out]
  exact h5
theorem step16_calls (B b : Nat) (t : TypeId) (v : Value) (wd : ByteArray) (m : Mc) (w : World) (hM : McIn B b t v wd m w) (hB : B ≤ w.heap.size) (hn : m.op.length ≤ 1099511627776) (hF : StepOk m) (c : Nat) (hc : c < 256) :
  Calls Tryz.prog 54 #[.pointer (some ⟨b, 0, none⟩), .int .u8 (c : Int)] w fun e w' => StepAt B b t v m (stepM m c) w e w' := by
 by_cases h10 : 10 ≤ m.st
 ·exact step16_num B b t v wd m w hM hB hn hF c hc h10
 by_cases h6 : m.st = 6
 ·exact step16_char B b t v wd m w hM hB hn hF c hc h6
 by_cases h7 : m.st = 7
 ·exact step16_esc7 B b t v wd m w hM hB hn hF c hc h7
 by_cases h8 : m.st = 8
 ·exact step16_esc8 B b t v wd m w hM hB hn hF c hc h8
 by_cases h9 : m.st = 9
 ·obtain ⟨x, r, hxr⟩ := List.exists_cons_of_ne_nil (hF.w9 h9)
  by_cases hx : x = c
  ·subst hx
   by_cases hr : r = []
   ·exact step16_word1 B b t v wd m w hM hB hn hF x hc h9 r hxr hr
   ·exact step16_word2 B b t v wd m w hM hB hn hF x hc h9 r hxr hr
  ·exact step16_word0 B b t v wd m w hM hB hn hF c hc h9 (fun y q hy => by rw [hxr] at hy; injection hy with e1 e2; rw [← e1]; exact hx)
 cases hbc : blankN c with
 | true => exact step16_blank B b t v wd m w hM hB hn hF c hc (by omega) hbc
 | false =>
  by_cases h5 : m.st = 5
  ·exact step16_after B b t v wd m w hM hB hn hF c hc h5 hbc
  by_cases h4 : m.st = 4
  ·exact step16_colon B b t v wd m w hM hB hn hF c hc h4 hbc
  by_cases h0 : m.st = 0
  ·exact step16_value0 B b t v wd m w hM hB hn hF c hc h0 hbc
  by_cases h1 : m.st = 1
  ·by_cases h93 : c = 93
   ·exact step16_pop1 B b t v wd m w hM hB hn hF c hc h1 h93
   ·exact step16_value1 B b t v wd m w hM hB hn hF c hc h1 hbc h93
  by_cases h2 : m.st = 2
  ·by_cases h125 : c = 125
   ·exact step16_pop2 B b t v wd m w hM hB hn hF c hc h2 h125
   ·exact step16_name2 B b t v wd m w hM hB hn hF c hc h2 hbc h125
  exact step16_name3 B b t v wd m w hM hB hn hF c hc (by omega) hbc
end Go.Proofs.YtkejlejhnnjdkaaGreatDoor
/- VaRun, RefVa9, RefVa10, RefVa11, RefVa12, one behind the other. -/
/- The machine behind so many bytes: what it must be at each place. -/
namespace Go.Proofs.YtkejlejhnnjdkaaGreatDoor
open Go.RowKit Go.Shelf
theorem RunOk.ok {n : Nat} {m : Mc} (h : RunOk n m) : StepOk m :=
 ⟨h.fit.st, h.lf, h.fit2.l8, h.fit2.w9, fun k e => by
  rcases k with k | k
  ·have := h.fit.s1 k
   unfold topN at this
   rw [e] at this
   simp at this
  ·have := h.fit.s2 (.inl k)
   unfold topN at this
   rw [e] at this
   simp at this⟩
end Go.Proofs.YtkejlejhnnjdkaaGreatDoor
/- How far the reference's machine comes in a text; whether it is behind a whole document. -/
namespace Go.Proofs.YtkejlejhnnjdkaaGreatDoor
open Go.RowKit Go.Shelf
theorem own_base {B B' n : Nat} {v : Value} {xs : List Value} {w : World} (h : w.ownsRow B 5 1 v n xs) (hB : B' ≤ B) : w.ownsRow B' 5 1 v n xs := by
 refine ⟨h.1, ?_⟩
 rcases h.2 with h | ⟨g, cap, cur, h1, h2, h3⟩
 ·exact .inl h
 ·exact .inr ⟨g, cap, cur, h1, by omega, h3⟩
theorem own_form {B n : Nat} {v : Value} {xs : List Value} {w : World} (h : w.ownsRow B 5 1 v n xs) : ∃ ao k cap, v = .slice ao k cap := by
 rcases h.2 with ⟨h, _⟩ | ⟨g, cap, cur, h1, _⟩
 ·exact ⟨_, _, _, h⟩
 ·exact ⟨_, _, _, h1⟩
theorem At.belx {o : Option Nat} {b k : Nat} {cs : Array Value} {t : TypeId} {w w' : World} (h : At w k cs t) (hx : BelX o b w w') (hb : k ≠ b) (ho : some k ≠ o) : At w' k cs t := (hx.block k h.lt hb ho).trans h
theorem below_belx {o : Option Nat} {n b : Nat} {w W W' : World} (h : Below n w W) (hx : BelX o b W W') (hn : n ≤ W.heap.size) (hb : n ≤ b) (ho : ∀ k, o = some k → n ≤ k) : Below n w W' :=
 h.trans ⟨hx.os, hx.tape, hx.output, hx.size, fun k hk => hx.block k (by omega) (by omega) (fun e => by have := ho k e.symm; omega)⟩
/-- The machine's cells at the beginning. -/
def mcZ : Array Value := mcC (.slice none 0 0) ⟨#[]⟩ mc0
theorem sizeMac : (Tryz.prog.info? 54).map (·.size) = some 7 := by kernel_rfl
theorem ret_mac {fn : Func} {p u : Tmp} {R : Ending → World → Prop} {a : Act} {w : World} {b : Nat} {v : Value} {wd : ByteArray} {m : Mc} (hres : fn.results = #[.tmp u, .cell p 54]) (hp : a.tmps.getD p undef = .pointer (some ⟨b, 0, none⟩))
  (h : At w b (mcC v wd m) 54) (hd : a.defers = []) (hR : R (.returned (.tuple #[a.tmps.getD u undef, .agg (mcC v wd m)])) w) : bodyPost Tryz.prog fn R .ret a w := by
 refine bodyPost_ret (v := .tuple #[a.tmps.getD u undef, .agg (mcC v wd m)]) ?_ hd hR
 have hl : (loadVar 54 ⟨b, 0, none⟩).run Tryz.prog w = .ok (.agg (mcC v wd m)) w := run_loadVar_row (P := Tryz.prog) w b 54 54 (mcC v wd m) (0, 0) _ h Tryz.underlying54 rfl sizeMac
 have hp' : a.tmps[p]?.getD undef = .pointer (some ⟨b, 0, none⟩) := by simpa using hp
 simp [results, hres, hp', asAddr, hl]
theorem set_mac {w : World} {b : Nat} {v : Value} {wd : ByteArray} {m : Mc} (h : At w b mcZ 54) :
  At ((((((((w.setCell ⟨b, 0, none⟩ v).setCell ⟨b, 1, none⟩ (.int .i64 (m.st : Int))).setCell ⟨b, 2, none⟩ (.bool m.nm)).setCell ⟨b, 3, none⟩ (.string wd)).setCell ⟨b, 4, none⟩ (.int .i64 (m.lf : Int))).setCell ⟨b, 5, none⟩ (.int .i64 (m.lo : Int))).setCell ⟨b, 6, none⟩ (.int .i64 (m.hi : Int))).drew) b (mcC v wd m) 54 ∧
  Only b w ((((((((w.setCell ⟨b, 0, none⟩ v).setCell ⟨b, 1, none⟩ (.int .i64 (m.st : Int))).setCell ⟨b, 2, none⟩ (.bool m.nm)).setCell ⟨b, 3, none⟩ (.string wd)).setCell ⟨b, 4, none⟩ (.int .i64 (m.lf : Int))).setCell ⟨b, 5, none⟩ (.int .i64 (m.lo : Int))).setCell ⟨b, 6, none⟩ (.int .i64 (m.hi : Int))).drew) := by
 refine ⟨?_, (((((((((Only.refl _ _).set _ _).set _ _).set _ _).set _ _).set _ _).set _ _).set _ _)).drew⟩
 have h7 := (((((((h.set 0 v).set 1 (.int .i64 (m.st : Int))).set 2 (.bool m.nm)).set 3 (.string wd)).set 4 (.int .i64 (m.lf : Int))).set 5 (.int .i64 (m.lo : Int))).set 6 (.int .i64 (m.hi : Int))).drew
 simpa [mcZ, mcC] using h7
/-- Between two rounds of run: the machine behind the first i bytes. -/
structure RunI (w0 : World) (b : Nat) (s : ByteArray) (i : Nat) (v : Value) (wd : ByteArray) (m : Mc) (W : World) : Prop where
 mac : McIn (b + 1) b 54 v wd m W
 take : takeM mc0 ((byts s).take i) = some m
 ok : RunOk i m
 res : At W w0.heap.size mcZ 54
 bel : Below w0.heap.size w0 W
set_option maxRecDepth 10000 in
set_option maxHeartbeats 2000000 in
theorem run16_calls (s : ByteArray) (hs : s.size ≤ 1048576) (w : World) :
  Calls Tryz.prog 34 #[.string s] w fun e w' => ∃ k m v wd, runM mc0 (byts s) = (k, m) ∧ e = .returned (.tuple #[.int .i64 ((k : Nat) : Int), .agg (mcC v wd m)]) ∧ w'.ownsRow w.heap.size 5 1 v m.op.length (opC m.op) ∧ byts wd = m.wd ∧ Below w.heap.size w w' := by
 have hsi : (s.size : Int) ≤ 1048576 := by omega
 obtain ⟨W0, hW0⟩ : ∃ W0, (w.alloc (.cells mcZ 54)).alloc (.cells mcZ 54) = W0 := ⟨_, rfl⟩
 obtain ⟨b, hb⟩ : ∃ b, w.heap.size + 1 = b := ⟨_, rfl⟩
 have hI0 : RunI w b s 0 (.slice none 0 0) ⟨#[]⟩ mc0 W0 := by
  have hsz : (w.alloc (.cells mcZ 54)).heap.size = b := by rw [World.size_alloc]; exact hb
  refine ⟨⟨?_, World.ownsRow_nil _ _ _ _, rfl, by omega⟩, rfl, runOk0, ?_, ?_⟩
  ·rw [← hW0, ← hsz]
   exact At.new _ _ _
  ·rw [← hW0]
   exact (At.new _ _ _).alloc _
  ·rw [← hW0]
   exact ((Below.refl _ _).alloc (Nat.le_refl _) _).alloc (by rw [World.size_alloc]; omega) _
 have hI0' := hid hI0
 clear hI0
 go_enter Tryz.func34, Tryz.ntmps34
 go_wp2
 rw [show (w.alloc (.cells #[.slice none 0 0, .int .i64 0, .bool false, .string ⟨#[]⟩, .int .i64 0, .int .i64 0, .int .i64 0] 54)).alloc (.cells #[.slice none 0 0, .int .i64 0, .bool false, .string ⟨#[]⟩, .int .i64 0, .int .i64 0, .int .i64 0] 54) = W0 from hW0]
 clear hW0
 go_loopw [5, 6] (fun ii _ wr => ∃ (i : Nat) (v : Value) (wd : ByteArray) (m : Mc), i ≤ s.size ∧ ii = .int .i64 (i : Int) ∧ Hid (RunI w b s i v wd m wr)) (fun ii _ _ => s.size - (intOf ii).toNat)
 case atStart => exact ⟨0, _, _, _, Nat.zero_le _, rfl, hI0'⟩
 case round =>
  clear hI0'
  obtain ⟨i, v, wd, m, hi, rfl, hI⟩ := hrel
  obtain ⟨ao, nn, cap, rfl⟩ := own_form hI.out.mac.row
  have hC := mcAt_of hI.out.mac.at_
  have c0 := hC.c0
  have c1 := hC.c1
  have c2 := hC.c2
  have c3 := hC.c3
  have c4 := hC.c4
  have c5 := hC.c5
  have c6 := hC.c6
  clear hC
  have hbl := hid (show b < wr.heap.size from hI.out.mac.at_.lt)
  by_cases hlt : i < s.size
  ·have hli : (i : Int) < (s.size : Int) := by omega
   obtain ⟨x, hX⟩ : ∃ x, Hid ((s[i]'hlt).toNat = x) := ⟨_, rfl⟩
   have hxl : x < 256 := by rw [← hX.out]; exact (s[i]'hlt).toNat_lt
   have hx := hX.out
   have hget : Hid ((byts s)[i]? = some x) := hid (by
    unfold byts
    rw [List.getElem?_map, Array.getElem?_toList, Array.getElem?_eq_getElem (show i < s.data.size from hlt)]
    show some _ = some _
    rw [← hx]
    rfl)
   obtain ⟨W1, hW1⟩ : ∃ W1, wr.alloc (.cells #[.slice ao nn cap, .int .i64 (m.st : Int), .bool m.nm, .string wd, .int .i64 (m.lf : Int), .int .i64 (m.lo : Int), .int .i64 (m.hi : Int)] 54) = W1 := ⟨_, rfl⟩
   have hM1 : McIn (b + 1) b 54 (.slice ao nn cap) wd m W1 := by
    rw [← hW1]
    exact ⟨hI.out.mac.at_.alloc _, World.ownsRow.alloc hI.out.mac.row _, hI.out.mac.word, hI.out.mac.lt⟩
   have hs1 : W1.heap.size = wr.heap.size + 1 := by rw [← hW1, World.size_alloc]
   have hst := hid (step16_calls (b + 1) b 54 (.slice ao nn cap) wd m W1 hM1 (by have := hbl.out; omega) (by have := hI.out.ok.op; omega) hI.out.ok.ok x hxl)
   have hw1 := hid (show At W1 wr.heap.size (mcC (.slice ao nn cap) wd m) 54 by rw [← hW1]; exact At.new _ _ _)
   have hr1 := hid (show At W1 w.heap.size mcZ 54 by rw [← hW1]; exact hI.out.res.alloc _)
   have hB1 := hid (show Below w.heap.size w W1 by rw [← hW1]; exact hI.out.bel.alloc hI.out.bel.size _)
   have hs1' := hid hs1
   clear hM1 hs1
   go_wp2_with fail
   refine hst.out.mono ?_
   rintro e W2 ⟨rfl, hbx, hk, hno⟩
   cases hE : stepM m x with
   | none =>
    rw [hE] at hno
    have hrow2 := hid (hno rfl)
    have hw2 := hw1.out.belx hbx (by have := hbl.out; omega) (fun e => by have := (hI.out.mac.row.lt _ e.symm).2; omega)
    have hr2 := hr1.out.belx hbx (by omega) (fun e => by have := (hI.out.mac.row.lt _ e.symm).1; omega)
    have hB2 := hid (below_belx hB1.out hbx (by have := hs1'.out; have := hbl.out; omega) (by omega) (fun k e => by have := (hI.out.mac.row.lt k e).1; omega))
    have hrun := hid (run_at (byts s) i mc0 m x hI.out.take hget.out hE)
    have hword := hid hI.out.mac.word
    have hr2' := hid hr2
    have d := mcAt_of hw2
    have d0 := d.c0
    have d1 := d.c1
    have d2 := d.c2
    have d3 := d.c3
    have d4 := d.c4
    have d5 := d.c5
    have d6 := d.c6
    have e0 := hr2.cell 0
    have e1 := hr2.cell 1
    have e2 := hr2.cell 2
    have e3 := hr2.cell 3
    have e4 := hr2.cell 4
    have e5 := hr2.cell 5
    have e6 := hr2.cell 6
    simp only [mcZ, mcC, List.getElem?_toArray, List.getElem?_cons_zero, List.getElem?_cons_succ] at e0 e1 e2 e3 e4 e5 e6
    have f0 := hr2.frozen 0
    have f1 := hr2.frozen 1
    have f2 := hr2.frozen 2
    have f3 := hr2.frozen 3
    have f4 := hr2.frozen 4
    have f5 := hr2.frozen 5
    have f6 := hr2.frozen 6
    have hne : ¬ (wr.heap.size = w.heap.size) := by have := hbl.out; omega
    clear hno hk hbx hw2 hr2 d c0 c1 c2 c3 c4 c5 c6 hW1
    go_wp2
    go_region
    have hset := set_mac (v := .slice ao nn cap) (wd := wd) (m := m) hr2'.out
    obtain ⟨W3, hW3⟩ : ∃ W3, (((((((W2.setCell ⟨w.heap.size, 0, none⟩ (.slice ao nn cap)).setCell ⟨w.heap.size, 1, none⟩ (.int .i64 (m.st : Int))).setCell ⟨w.heap.size, 2, none⟩ (.bool m.nm)).setCell ⟨w.heap.size, 3, none⟩ (.string wd)).setCell ⟨w.heap.size, 4, none⟩ (.int .i64 (m.lf : Int))).setCell ⟨w.heap.size, 5, none⟩ (.int .i64 (m.lo : Int))).setCell ⟨w.heap.size, 6, none⟩ (.int .i64 (m.hi : Int))).drew = W3 := ⟨_, rfl⟩
    rw [hW3] at hset ⊢
    have hset' := hid hset
    clear hset hW3
    go_wp2
    refine ret_mac rfl rfl hset'.out.1 rfl ⟨_, m, _, wd, hrun.out, rfl, own_base (own_only hrow2.out (by omega) hset'.out.2) (by omega), hword.out, hB2.out.trans (hset'.out.2.below (Nat.le_refl _))⟩
   | some k =>
    rw [hE] at hk
    obtain ⟨v', wd', hM2⟩ := hk k rfl
    have hfin : RunI w b s (i + 1) v' wd' k W2 :=
     ⟨hM2, take_next hI.out.take hget.out hE, hI.out.ok.step hE, hr1.out.belx hbx (by omega) (fun e => by have := (hI.out.mac.row.lt _ e.symm).1; omega), below_belx hB1.out hbx (by have := hs1'.out; have := hbl.out; omega) (by omega) (fun k e => by have := (hI.out.mac.row.lt k e).1; omega)⟩
    have hfin' := hid hfin
    clear hno hk hfin hbx hM2
    go_wp2
    exact ⟨⟨i + 1, v', wd', k, by omega, by simp, hfin'⟩, by simp [intOf]; omega⟩
  ·obtain rfl : i = s.size := by omega
   have hrun := hid (run_all (byts s) mc0 m (by have := hI.out.take; rwa [List.take_of_length_le (by rw [byts_length]; exact Nat.le_refl _)] at this))
   have hr2 := hI.out.res
   have hr2' := hid hr2
   have e0 := hr2.cell 0
   have e1 := hr2.cell 1
   have e2 := hr2.cell 2
   have e3 := hr2.cell 3
   have e4 := hr2.cell 4
   have e5 := hr2.cell 5
   have e6 := hr2.cell 6
   simp only [mcZ, mcC, List.getElem?_toArray, List.getElem?_cons_zero, List.getElem?_cons_succ] at e0 e1 e2 e3 e4 e5 e6
   have f0 := hr2.frozen 0
   have f1 := hr2.frozen 1
   have f2 := hr2.frozen 2
   have f3 := hr2.frozen 3
   have f4 := hr2.frozen 4
   have f5 := hr2.frozen 5
   have f6 := hr2.frozen 6
   have hne : ¬ (b = w.heap.size) := by omega
   clear hr2
   go_wp2
   go_region
   have hset := set_mac (v := .slice ao nn cap) (wd := wd) (m := m) hr2'.out
   obtain ⟨W3, hW3⟩ : ∃ W3, (((((((wr.setCell ⟨w.heap.size, 0, none⟩ (.slice ao nn cap)).setCell ⟨w.heap.size, 1, none⟩ (.int .i64 (m.st : Int))).setCell ⟨w.heap.size, 2, none⟩ (.bool m.nm)).setCell ⟨w.heap.size, 3, none⟩ (.string wd)).setCell ⟨w.heap.size, 4, none⟩ (.int .i64 (m.lf : Int))).setCell ⟨w.heap.size, 5, none⟩ (.int .i64 (m.lo : Int))).setCell ⟨w.heap.size, 6, none⟩ (.int .i64 (m.hi : Int))).drew = W3 := ⟨_, rfl⟩
   rw [hW3] at hset ⊢
   have hset' := hid hset
   clear hset hW3
   go_wp2
   refine ret_mac rfl rfl hset'.out.1 rfl ⟨_, m, _, wd, by rw [hrun.out, byts_length], rfl, own_base (own_only hI.out.mac.row (by omega) hset'.out.2) (by omega), hI.out.mac.word, hI.out.bel.trans (hset'.out.2.below (Nat.le_refl _))⟩
end Go.Proofs.YtkejlejhnnjdkaaGreatDoor
/- Whether the reference's machine is behind a whole document. -/
namespace Go.Proofs.YtkejlejhnnjdkaaGreatDoor
open Go.RowKit Go.Shelf
theorem own_len {B : Nat} {v : Value} {n : Nat} {xs : List Value} {w : World} (h : w.ownsRow B 5 1 v n xs) : ∃ ao cap, v = .slice ao n cap := by
 rcases h.2 with ⟨h, h0⟩ | ⟨g, cap, cur, h1, _⟩
 ·exact ⟨none, 0, by rw [h, h0]⟩
 ·exact ⟨_, cap, h1⟩
set_option maxRecDepth 10000 in
set_option maxHeartbeats 1000000 in
theorem whole16_calls (b : Nat) (t : TypeId) (ao : Option Addr) (cap : Nat) (wd : ByteArray) (m : Mc) (w : World) (hA : At w b (mcC (.slice ao m.op.length cap) wd m) t) (hn : m.op.length ≤ 1099511627776) :
  Calls Tryz.prog 35 #[.pointer (some ⟨b, 0, none⟩)] w fun e w' => e = .returned (.bool (wholeM m)) ∧ w' = w := by
 have c0 := (mcAt_of hA).c0
 have c1 := (mcAt_of hA).c1
 obtain ⟨s, hs⟩ : ∃ s, m.st = s := ⟨_, rfl⟩
 obtain ⟨n, hnn⟩ : ∃ n, m.op.length = n := ⟨_, rfl⟩
 have hwh : wholeM m = (decide (n = 0) && decide (s = 5 ∨ s = 11 ∨ s = 12 ∨ s = 14 ∨ s = 17)) := by
  unfold wholeM
  rw [hs]
  congr 1
  rw [← hnn]
  cases m.op <;> simp
 rw [hwh]
 rw [hs] at c1
 rw [hnn] at c0 hn
 clear hA hwh hs hnn
 by_cases h0 : n = 0
 ·subst h0
  by_cases k5 : s = 5
  ·rw [show (decide ((0 : Nat) = 0) && decide (s = 5 ∨ s = 11 ∨ s = 12 ∨ s = 14 ∨ s = 17)) = true by simp; omega]
   have g5 : ((s : Int) == 5) = true := by simp; omega
   clear k5
   go_enter Tryz.func35, Tryz.ntmps35
   go_wp2
   go_ret
   exact ⟨rfl, rfl⟩
  have g5 : ((s : Int) == 5) = false := by simp; omega
  by_cases k11 : s = 11
  ·rw [show (decide ((0 : Nat) = 0) && decide (s = 5 ∨ s = 11 ∨ s = 12 ∨ s = 14 ∨ s = 17)) = true by simp; omega]
   have g11 : ((s : Int) == 11) = true := by simp; omega
   clear k11
   go_enter Tryz.func35, Tryz.ntmps35
   go_wp2
   go_ret
   exact ⟨rfl, rfl⟩
  have g11 : ((s : Int) == 11) = false := by simp; omega
  by_cases k12 : s = 12
  ·rw [show (decide ((0 : Nat) = 0) && decide (s = 5 ∨ s = 11 ∨ s = 12 ∨ s = 14 ∨ s = 17)) = true by simp; omega]
   have g12 : ((s : Int) == 12) = true := by simp; omega
   clear k12
   go_enter Tryz.func35, Tryz.ntmps35
   go_wp2
   go_ret
   exact ⟨rfl, rfl⟩
  have g12 : ((s : Int) == 12) = false := by simp; omega
  by_cases k14 : s = 14
  ·rw [show (decide ((0 : Nat) = 0) && decide (s = 5 ∨ s = 11 ∨ s = 12 ∨ s = 14 ∨ s = 17)) = true by simp; omega]
   have g14 : ((s : Int) == 14) = true := by simp; omega
   clear k14
   go_enter Tryz.func35, Tryz.ntmps35
   go_wp2
   go_ret
   exact ⟨rfl, rfl⟩
  have g14 : ((s : Int) == 14) = false := by simp; omega
  by_cases k17 : s = 17
  ·rw [show (decide ((0 : Nat) = 0) && decide (s = 5 ∨ s = 11 ∨ s = 12 ∨ s = 14 ∨ s = 17)) = true by simp; omega]
   have g17 : ((s : Int) == 17) = true := by simp; omega
   clear k17
   go_enter Tryz.func35, Tryz.ntmps35
   go_wp2
   go_ret
   exact ⟨rfl, rfl⟩
  have g17 : ((s : Int) == 17) = false := by simp; omega
  rw [show (decide ((0 : Nat) = 0) && decide (s = 5 ∨ s = 11 ∨ s = 12 ∨ s = 14 ∨ s = 17)) = false by simp; omega]
  clear k5 k11 k12 k14 k17
  go_enter Tryz.func35, Tryz.ntmps35
  go_wp2
  go_ret
  exact ⟨rfl, rfl⟩
 ·rw [show (decide (n = 0) && decide (s = 5 ∨ s = 11 ∨ s = 12 ∨ s = 14 ∨ s = 17)) = false by simp; intro h; exact absurd h h0]
  have g0 : ((n : Int) == 0) = false := by simp; omega
  clear h0
  go_enter Tryz.func35, Tryz.ntmps35
  go_wp2
  go_ret
  exact ⟨rfl, rfl⟩
end Go.Proofs.YtkejlejhnnjdkaaGreatDoor
/- What the reference's Check answers. -/
namespace Go.Proofs.YtkejlejhnnjdkaaGreatDoor
open Go.RowKit Go.Shelf
set_option maxRecDepth 10000 in
set_option maxHeartbeats 2000000 in
theorem check16_calls (s : ByteArray) (hs : s.size ≤ 1048576) (d : Int) (w : World) :
  Calls Tryz.prog 18 #[.string s, .int .i64 d] w fun e w' => ChkP s d w e w' := by
 have hsi : (s.size : Int) ≤ 1048576 := by omega
 obtain ⟨W0, hW0⟩ : ∃ W0, w.alloc (.cells #[.int .i64 0, .int .i64 0] 27) = W0 := ⟨_, rfl⟩
 have hA0 : At W0 w.heap.size #[.int .i64 0, .int .i64 0] 27 := by rw [← hW0]; exact At.new _ _ _
 have hB0 : Below w.heap.size w W0 := by rw [← hW0]; exact (Below.refl _ _).alloc (Nat.le_refl _) _
 have c0 := hA0.cell 0
 have c1 := hA0.cell 1
 simp only [List.getElem?_toArray, List.getElem?_cons_zero, List.getElem?_cons_succ] at c0 c1
 have f0 := hA0.frozen 0
 have f1 := hA0.frozen 1
 have hA0' := hid hA0
 have hB0' := hid hB0
 have hs0 := hid (show w.heap.size < W0.heap.size from hA0.lt)
 clear hA0 hB0
 by_cases h1 : d < 1
 ·go_enter Tryz.func18, Tryz.ntmps18
  go_wp2
  refine ret_ver rfl rfl (hA0'.out.two_ver) rfl ⟨0, 0, 2, rfl, .inl ⟨.inl h1, rfl, rfl, rfl⟩, (hB0'.out.setCell (Nat.le_refl _) _).setCell (Nat.le_refl _) _⟩
 by_cases h2 : 1024 < d
 ·go_enter Tryz.func18, Tryz.ntmps18
  go_wp2
  refine ret_ver rfl rfl (hA0'.out.two_ver) rfl ⟨0, 0, 2, rfl, .inl ⟨.inr h2, rfl, rfl, rfl⟩, (hB0'.out.setCell (Nat.le_refl _) _).setCell (Nat.le_refl _) _⟩
 have hdd : Hid (1 ≤ d ∧ d ≤ 1024) := hid (by omega)
 have hrun := hid (run16_calls s hs W0)
 go_enter Tryz.func18, Tryz.ntmps18
 go_wp2_with fail
 refine hrun.out.mono ?_
 rintro e W1 ⟨k, m, v, wd, hkm, rfl, hrow, hword, hB1⟩
 obtain ⟨ao, cap, rfl⟩ := own_len hrow
 have hrk := run_ok (byts s)
 rw [hkm, byts_length] at hrk
 have hk1 : k ≤ s.size := hrk.2
 have hop0 : m.op.length ≤ s.size := hrk.1.op
 have hop : m.op.length ≤ 1048576 := by omega
 have hkm' := hid hkm
 have hA1 := hA0'.out.keptAll hB1
 have hBB1 := hid (hB0'.out.trans (hB1.mono (by have := hs0.out; omega)))
 obtain ⟨W2, hW2⟩ : ∃ W2, W1.alloc (.cells #[.slice ao m.op.length cap, .int .i64 (m.st : Int), .bool m.nm, .string wd, .int .i64 (m.lf : Int), .int .i64 (m.lo : Int), .int .i64 (m.hi : Int)] 54) = W2 := ⟨_, rfl⟩
 have hM2 : At W2 W1.heap.size (mcC (.slice ao m.op.length cap) wd m) 54 := by rw [← hW2]; exact At.new _ _ _
 have hA2 : At W2 w.heap.size #[.int .i64 0, .int .i64 0] 27 := by rw [← hW2]; exact hA1.alloc _
 have hB2 : Below w.heap.size w W2 := by rw [← hW2]; exact hBB1.out.alloc hBB1.out.size _
 have hwh := hid (whole16_calls W1.heap.size 54 ao cap wd m W2 hM2 (by omega))
 obtain ⟨b2, hb2⟩ : ∃ b2, W1.heap.size = b2 := ⟨_, rfl⟩
 obtain ⟨z, hz⟩ : ∃ z, Hid (wholeM m = z) := ⟨_, rfl⟩
 rw [hb2] at hwh
 rw [hz.out] at hwh
 have c0 := hA2.cell 0
 have c1 := hA2.cell 1
 simp only [List.getElem?_toArray, List.getElem?_cons_zero, List.getElem?_cons_succ] at c0 c1
 have f0 := hA2.frozen 0
 have f1 := hA2.frozen 1
 have hA2' := hid hA2
 have hB2' := hid hB2
 have hki : (k : Int) ≤ 1048576 := by omega
 clear hrun hkm hrk hA1 hM2 hA2 hB2 hrow hword hB1 hop hop0
 dsimp only [mcC]
 by_cases hlt : k < s.size
 ·have hli : (k : Int) < (s.size : Int) := by omega
  go_wp2
  exact ret_ver rfl rfl (hA2'.out.two_ver) rfl ⟨2, k, 0, rfl, .inr ⟨hdd.out, rfl, k, m, hkm'.out, .inl ⟨.inl hlt, rfl, rfl⟩⟩, (hB2'.out.setCell (Nat.le_refl _) _).setCell (Nat.le_refl _) _⟩
 obtain rfl : k = s.size := by omega
 clear hlt hk1
 go_wp2_with fail
 refine hwh.out.mono ?_
 rintro e W3 ⟨rfl, hw3⟩
 rw [hw3]
 clear hw3 hwh
 cases z with
 | false =>
  go_wp2
  exact ret_ver rfl rfl (hA2'.out.two_ver) rfl ⟨2, s.size, 0, rfl, .inr ⟨hdd.out, rfl, s.size, m, hkm'.out, .inl ⟨.inr hz.out, rfl, rfl⟩⟩, (hB2'.out.setCell (Nat.le_refl _) _).setCell (Nat.le_refl _) _⟩
 | true =>
  go_wp2_with fail
  refine (depths_calls s (by omega) W2).mono ?_
  rintro e W4 ⟨v4, rfl, hrow4, hB4⟩
  obtain ⟨g, cap4, rfl, -, hcells⟩ := depL_row hrow4
  have hcells' := hid hcells
  have hA4 := hA2'.out.keptAll hB4
  have hB4' := hid (hB2'.out.trans (hB4.mono hB2'.out.size))
  clear c0 c1 f0 f1 hcells hrow4 hB4
  have c0 := hA4.cell 0
  have c1 := hA4.cell 1
  simp only [List.getElem?_toArray, List.getElem?_cons_zero, List.getElem?_cons_succ] at c0 c1
  have f0 := hA4.frozen 0
  have f1 := hA4.frozen 1
  have hA4' := hid hA4
  clear hA4 hW2 hb2
  have hd1 := hdd.out.1
  have hd2 := hdd.out.2
  go_wp2
  go_loopw [9] (fun ii wr => ∃ i : Nat, i ≤ s.size ∧ ii = .int .i64 (i : Int) ∧ Hid (∀ j, j < i → ((depS s (j + 1) : Nat) : Int) ≤ d) ∧ wr = W4) (fun ii _ => s.size - (intOf ii).toNat)
  case atStart => exact ⟨0, Nat.zero_le _, rfl, hid (fun j hj => by omega), rfl⟩
  case round =>
   obtain ⟨i, hi, rfl, hno, rfl⟩ := hrel
   by_cases hlt : i < s.size
   ·have hli : (i : Int) < (s.size : Int) := by omega
    obtain ⟨D, hD⟩ : ∃ D : Nat, Hid (depS s (i + 1) = D) := ⟨_, rfl⟩
    have hc := hcells'.out (i + 1) (by omega)
    rw [hD.out] at hc
    have hadd : (⟨g, 0, none⟩ : Addr).add (i + 1) = ⟨g, i + 1, none⟩ := by simp [Addr.add]
    have l1 : (i : Int) + 1 < (s.size : Int) + 1 := by omega
    have l2 : ((i : Int) + 1).toNat = i + 1 := by omega
    by_cases hdp : d < (D : Int)
    ·go_wp2
     exact ret_ver rfl rfl (hA4'.out.two_ver) rfl ⟨3, i, 0, rfl, .inr ⟨hdd.out, rfl, s.size, m, hkm'.out, .inr ⟨rfl, hz.out, .inl ⟨i, hlt, by rw [hD.out]; exact hdp, hno.out, rfl, rfl⟩⟩⟩, (hB4'.out.setCell (Nat.le_refl _) _).setCell (Nat.le_refl _) _⟩
    ·go_wp2
     go_roundw
     case rel => exact ⟨i + 1, by omega, by simp, hid (fun j hj => by
      by_cases e : j = i
      ·subst e
       rw [hD.out]
       omega
      ·exact hno.out j (by omega)), trivial⟩
     case measure => simp [intOf]; omega
   ·obtain rfl : i = s.size := by omega
    go_wp2
    exact ret_ver rfl rfl (hA4'.out.two_ver) rfl ⟨1, s.size, 0, rfl, .inr ⟨hdd.out, rfl, s.size, m, hkm'.out, .inr ⟨rfl, hz.out, .inr ⟨hno.out, rfl, rfl⟩⟩⟩, (hB4'.out.setCell (Nat.le_refl _) _).setCell (Nat.le_refl _) _⟩
end Go.Proofs.YtkejlejhnnjdkaaGreatDoor
/- What the reference's Depth and Scalar answer. -/
namespace Go.Proofs.YtkejlejhnnjdkaaGreatDoor
open Go.RowKit Go.Shelf
end Go.Proofs.YtkejlejhnnjdkaaGreatDoor
