/-
 RefVa, RefVa2, RefVa3, RefVa3c, RefVa4, one behind the other.
-/
import Derived.Test.YtkejlejhnnjdkaaGreatDoorPack1
import Derived.Test.YtkejlejhnnjdkaaGreatDoorPack6
import Derived.Laws.AppendOwn
/- What the reference of documents answers of a byte. -/
namespace Go.Proofs.YtkejlejhnnjdkaaGreatDoor
open Go.RowKit Go.Shelf
set_option maxRecDepth 10000 in
theorem blank16_calls (c : Nat) (hc : c < 256) (w : World) : Calls Tryz.prog 78 #[.int .u8 (c : Int)] w fun e w' => e = .returned (.bool (blankN c)) ∧ w' = w := by
 by_cases h0 : c = 32 ∨ c = 9 ∨ c = 10 ∨ c = 13
 ·have hz : blankN c = true := decide_eq_true h0
  rw [hz]
  rcases h0 with h | h | h | h <;> subst h <;> clear hz
  ·go_enter Tryz.func78, Tryz.ntmps78
   go_wp2
   go_ret
   exact ⟨rfl, rfl⟩
  ·go_enter Tryz.func78, Tryz.ntmps78
   go_wp2
   go_ret
   exact ⟨rfl, rfl⟩
  ·go_enter Tryz.func78, Tryz.ntmps78
   go_wp2
   go_ret
   exact ⟨rfl, rfl⟩
  ·go_enter Tryz.func78, Tryz.ntmps78
   go_wp2
   go_ret
   exact ⟨rfl, rfl⟩
 ·have hz : blankN c = false := decide_eq_false h0
  rw [hz]
  have g1 : ¬ (c : Int) = 32 := by omega
  have g2 : ¬ (c : Int) = 9 := by omega
  have g3 : ¬ (c : Int) = 10 := by omega
  have g4 : ¬ (c : Int) = 13 := by omega
  clear hz h0
  go_enter Tryz.func78, Tryz.ntmps78
  go_wp2
  go_ret
  refine ⟨?_, rfl⟩
  show Ending.returned (.bool ((c : Int) == 32 || (c : Int) == 9 || (c : Int) == 10 || (c : Int) == 13)) = _
  simp [g1, g2, g3, g4]
set_option maxRecDepth 10000 in
theorem digit16_calls (c : Nat) (hc : c < 256) (w : World) : Calls Tryz.prog 114 #[.int .u8 (c : Int)] w fun e w' => e = .returned (.bool (digN c)) ∧ w' = w := by
 obtain ⟨z, hz⟩ : ∃ z, Hid (digN c = z) := ⟨_, rfl⟩
 rw [hz.out]
 have hz2 := hz.out
 unfold digN at hz2
 by_cases h1 : 48 ≤ c
 ·go_enter Tryz.func114, Tryz.ntmps114
  go_wp2
  go_ret
  refine ⟨?_, rfl⟩
  show Ending.returned (.bool (decide ((c : Int) ≤ 57))) = _
  have : decide ((c : Int) ≤ 57) = z := by
   rw [← hz2, Bool.eq_iff_iff, decide_eq_true_eq, decide_eq_true_eq]
   omega
  rw [this]
 ·rw [decide_eq_false (by omega)] at hz2
  subst hz2
  clear hz
  have h3 : c < 48 := by omega
  go_enter Tryz.func114, Tryz.ntmps114
  go_wp2
  go_ret
  exact ⟨rfl, rfl⟩
set_option maxRecDepth 10000 in
theorem hex16_calls (c : Nat) (hc : c < 256) (w : World) : Calls Tryz.prog 115 #[.int .u8 (c : Int)] w fun e w' => e = .returned (.bool (hexN c)) ∧ w' = w := by
 obtain ⟨z, hz⟩ : ∃ z, Hid (hexN c = z) := ⟨_, rfl⟩
 obtain ⟨d, hd⟩ : ∃ d, Hid (digN c = d) := ⟨_, rfl⟩
 rw [hz.out]
 have hdx := hid (digit16_calls c hc)
 rw [hd.out] at hdx
 go_enter Tryz.func115, Tryz.ntmps115
 go_wp2_with fail
 refine Calls.mono (hdx.out _) ?_
 rintro e w1 ⟨rfl, hw1⟩
 obtain rfl := hw1.symm
 clear hw1 hdx
 have hz2 := hid hz.out
 have hd2 := hid hd.out
 clear hz hd
 cases d with
 | true =>
  go_wp2
  go_ret
  refine ⟨?_, rfl⟩
  have : z = true := by
   rw [← hz2.out]
   have := hd2.out
   simp only [hexN, digN, decide_eq_true_eq] at this ⊢
   omega
  subst this
  rfl
 | false =>
  by_cases h1 : 97 ≤ c
  ·by_cases h2 : c ≤ 102
   ·have : z = true := by
     rw [← hz2.out]
     simp only [hexN, decide_eq_true_eq]
     omega
    subst this
    go_wp2
    go_ret
    refine ⟨?_, rfl⟩
    simp
   ·have : z = false := by
     rw [← hz2.out]
     simp only [hexN, decide_eq_false_iff_not]
     omega
    subst this
    have h3 : 103 ≤ c := by omega
    go_wp2
    go_ret
    refine ⟨?_, rfl⟩
    simp
    try omega
  ·have h3 : c < 97 := by omega
   by_cases h4 : 65 ≤ c
   ·have hw : z = decide (c ≤ 70) := by
     rw [← hz2.out, Bool.eq_iff_iff]
     have := hd2.out
     simp only [hexN, digN, decide_eq_true_eq, decide_eq_false_iff_not] at this ⊢
     omega
    subst hw
    go_wp2
    go_ret
    refine ⟨?_, rfl⟩
    simp
    try omega
   ·have h5 : c < 65 := by omega
    have : z = false := by
     rw [← hz2.out]
     have := hd2.out
     simp only [hexN, digN, decide_eq_false_iff_not] at this ⊢
     omega
    subst this
    go_wp2
    go_ret
    refine ⟨?_, rfl⟩
    rfl
end Go.Proofs.YtkejlejhnnjdkaaGreatDoor
/- What the reference's machine does with a byte behind a backslash. -/
namespace Go.Proofs.YtkejlejhnnjdkaaGreatDoor
open Go.RowKit Go.Shelf
/-- The cells of a machine. -/
def mcC (v : Value) (wd : ByteArray) (m : Mc) : Array Value := #[v, .int .i64 (m.st : Int), .bool m.nm, .string wd, .int .i64 (m.lf : Int), .int .i64 (m.lo : Int), .int .i64 (m.hi : Int)]
set_option maxRecDepth 10000 in
set_option maxHeartbeats 1000000 in
theorem esc16_calls (b : Nat) (t : TypeId) (v : Value) (wd : ByteArray) (m : Mc) (c : Nat) (hc : c < 256) (w : World) (hA : At w b (mcC v wd m) t) (hl : m.lf ≤ 4) (h8 : m.st = 8 → 1 ≤ m.lf) :
  Calls Tryz.prog 77 #[.pointer (some ⟨b, 0, none⟩), .int .u8 (c : Int)] w fun e w' => e = .returned (.bool (escM m c).isSome) ∧ Only b w w' ∧ ∀ k, escM m c = some k → At w' b (mcC v wd k) t := by
 have hA' := hid hA
 have c1 : w.cell? ⟨b, 1, none⟩ = some (.int .i64 (m.st : Int)) := by rw [hA.cell]; simp [mcC]
 have c4 : w.cell? ⟨b, 4, none⟩ = some (.int .i64 (m.lf : Int)) := by rw [hA.cell]; simp [mcC]
 have f1 := hA.frozen 1
 have f4 := hA.frozen 4
 clear hA
 by_cases e8 : m.st = 8
 ·have hge := h8 e8
  have hdx := hid (hex16_calls c hc)
  obtain ⟨E, hE⟩ : ∃ E, Hid (escM m c = E) := ⟨_, rfl⟩
  rw [hE.out]
  have hE2 : E = if hexN c = true then some { m with lf := m.lf - 1, st := if m.lf = 1 then 6 else 8 } else none := by rw [← hE.out]; unfold escM; rw [if_pos e8]
  obtain ⟨z, hz⟩ : ∃ z, Hid (hexN c = z) := ⟨_, rfl⟩
  rw [hz.out] at hdx hE2
  have hEz : Hid (E.isSome = z) := hid (by rw [hE2]; cases z <;> rfl)
  have hEk : Hid (∀ k, E = some k → k = { m with lf := m.lf - 1, st := if m.lf = 1 then 6 else 8 }) := hid (by
   intro k hk
   rw [hE2] at hk
   cases z with
   | false => simp at hk
   | true => simp only [if_true] at hk; injection hk with hk; exact hk.symm)
  clear hE hE2 hz h8
  replace c1 : w.cell? ⟨b, 1, none⟩ = some (.int .i64 8) := by rw [c1, e8]; rfl
  by_cases h1 : m.lf = 1
  ·replace c4 : w.cell? ⟨b, 4, none⟩ = some (.int .i64 1) := by rw [c4, h1]; rfl
   go_enter Tryz.func77, Tryz.ntmps77
   go_wp2_with (first | (refine (hdx.out _).mono ?_; rintro e w1 ⟨rfl, hw1⟩; rw [hw1]; clear hw1))
   go_ret
   refine ⟨by rw [hEz.out]; rfl, ((Only.refl _ _).set _ _).set _ _, ?_⟩
   intro k hk
   rw [hEk.out k hk]
   simpa [mcC, h1] using (hA'.out.set 4 (.int .i64 0)).set 1 (.int .i64 6)
  ·obtain ⟨L, hL⟩ : ∃ L : Nat, m.lf = L + 2 := ⟨m.lf - 2, by omega⟩
   have hL3 : L ≤ 2 := by omega
   replace c4 : w.cell? ⟨b, 4, none⟩ = some (.int .i64 ((L : Int) + 2)) := by rw [c4, hL]; simp
   have g1 : ¬ ((L : Int) + 2 - 1 = 0) := by omega
   go_enter Tryz.func77, Tryz.ntmps77
   go_wp2_with (first | (refine (hdx.out _).mono ?_; rintro e w1 ⟨rfl, hw1⟩; rw [hw1]; clear hw1))
   go_ret
   refine ⟨by rw [hEz.out]; rfl, (Only.refl _ _).set _ _, ?_⟩
   intro k hk
   rw [hEk.out k hk]
   have := hA'.out.set 4 (.int .i64 ((L : Int) + 2 - 1))
   simpa [mcC, e8, hL, show ((L : Int) + 2 - 1) = (L : Int) + 1 by omega] using this
 ·have e8' : ¬ ((m.st : Int) = 8) := by omega
  have hE : Hid (escM m c = if c = 34 ∨ c = 92 ∨ c = 47 ∨ c = 98 ∨ c = 102 ∨ c = 110 ∨ c = 114 ∨ c = 116 then some { m with st := 6 } else if c = 117 then some { m with st := 8, lf := 4 } else none) := hid (by unfold escM; rw [if_neg e8])
  rw [hE.out]
  clear hE h8
  by_cases h1 : c = 34 ∨ c = 92 ∨ c = 47 ∨ c = 98 ∨ c = 102 ∨ c = 110 ∨ c = 114 ∨ c = 116
  ·rw [if_pos h1]
   have fin : ∀ k, some { m with st := 6 } = some k → At (w.setCell ⟨b, 1, none⟩ (.int .i64 6)) b (mcC v wd k) t := by
    intro k hk
    injection hk with hk
    subst hk
    simpa [mcC] using hA'.out.set 1 (.int .i64 6)
   replace fin := hid fin
   rcases h1 with h | h | h | h | h | h | h | h <;> subst h
   all_goals
    go_enter Tryz.func77, Tryz.ntmps77
    go_wp2
    go_ret
    exact ⟨rfl, (Only.refl _ _).set _ _, fin.out⟩
  ·rw [if_neg h1]
   by_cases h2 : c = 117
   ·rw [if_pos h2]
    subst h2
    clear h1
    go_enter Tryz.func77, Tryz.ntmps77
    go_wp2
    go_ret
    refine ⟨rfl, (((Only.refl _ _).set _ _).set _ _).set _ _, ?_⟩
    intro k hk
    injection hk with hk
    subst hk
    simpa [mcC] using ((hA'.out.set 1 (.int .i64 6)).set 1 (.int .i64 8)).set 4 (.int .i64 4)
   ·rw [if_neg h2]
    have g1 : ¬ (c : Int) = 34 := by omega
    have g2 : ¬ (c : Int) = 92 := by omega
    have g3 : ¬ (c : Int) = 47 := by omega
    have g4 : ¬ (c : Int) = 98 := by omega
    have g5 : ¬ (c : Int) = 102 := by omega
    have g6 : ¬ (c : Int) = 110 := by omega
    have g7 : ¬ (c : Int) = 114 := by omega
    have g8 : ¬ (c : Int) = 116 := by omega
    have g9 : ¬ (c : Int) = 117 := by omega
    clear h1 h2
    go_enter Tryz.func77, Tryz.ntmps77
    go_wp2
    go_ret
    exact ⟨rfl, (Only.refl _ _).set _ _, fun k hk => by cases hk⟩
end Go.Proofs.YtkejlejhnnjdkaaGreatDoor
/- What the reference's machine does with a byte within a text. -/
namespace Go.Proofs.YtkejlejhnnjdkaaGreatDoor
open Go.RowKit Go.Shelf
/-- The machine's cells, one by one. -/
structure McAt (w : World) (b : Nat) (v : Value) (wd : ByteArray) (m : Mc) : Prop where
 c0 : w.cell? ⟨b, 0, none⟩ = some v
 c1 : w.cell? ⟨b, 1, none⟩ = some (.int .i64 (m.st : Int))
 c2 : w.cell? ⟨b, 2, none⟩ = some (.bool m.nm)
 c3 : w.cell? ⟨b, 3, none⟩ = some (.string wd)
 c4 : w.cell? ⟨b, 4, none⟩ = some (.int .i64 (m.lf : Int))
 c5 : w.cell? ⟨b, 5, none⟩ = some (.int .i64 (m.lo : Int))
 c6 : w.cell? ⟨b, 6, none⟩ = some (.int .i64 (m.hi : Int))
theorem mcAt_of {w : World} {b : Nat} {t : TypeId} {v : Value} {wd : ByteArray} {m : Mc} (hA : At w b (mcC v wd m) t) : McAt w b v wd m :=
 ⟨by rw [hA.cell]; simp [mcC], by rw [hA.cell]; simp [mcC], by rw [hA.cell]; simp [mcC], by rw [hA.cell]; simp [mcC], by rw [hA.cell]; simp [mcC], by rw [hA.cell]; simp [mcC], by rw [hA.cell]; simp [mcC]⟩
set_option maxRecDepth 10000 in
set_option maxHeartbeats 400000 in
theorem char16_a (b : Nat) (t : TypeId) (v : Value) (wd : ByteArray) (m : Mc) (w : World) (hA : At w b (mcC v wd m) t) (hz : m.lf = 0) (c : Nat) (h1 : 0 ≤ c) (h2 : c ≤ 31) :
  Calls Tryz.prog 76 #[.pointer (some ⟨b, 0, none⟩), .int .u8 (c : Int)] w fun e w' => e = .returned (.bool false) ∧ w' = ((w.setCell ⟨b, 5, none⟩ (.int .i64 128)).setCell ⟨b, 6, none⟩ (.int .i64 191)) := by
  have hM := mcAt_of hA
  have c4 : w.cell? ⟨b, 4, none⟩ = some (.int .i64 0) := by rw [hM.c4, hz]; rfl
  have c1 := hM.c1
  have c5 := hM.c5
  have c6 := hM.c6
  have f1 := hA.frozen 1
  have f2 := hA.frozen 2
  have f4 := hA.frozen 4
  have f5 := hA.frozen 5
  have f6 := hA.frozen 6
  have g0 : ((c : Int) == 34) = false := by simp; omega
  have g1 : ((c : Int) == 92) = false := by simp; omega
  have g2 : decide ((32 : Int) ≤ (c : Int)) = false := by simp; omega
  have g3 : decide ((c : Int) < 128) = true := by simp; omega
  have g4 : decide ((194 : Int) ≤ (c : Int)) = false := by simp; omega
  have g5 : decide ((c : Int) < 224) = true := by simp; omega
  have g6 : decide ((224 : Int) ≤ (c : Int)) = false := by simp; omega
  have g7 : decide ((c : Int) < 240) = true := by simp; omega
  have g8 : decide ((240 : Int) ≤ (c : Int)) = false := by simp; omega
  have g9 : decide ((c : Int) < 245) = true := by simp; omega
  have g10 : ((c : Int) == 224) = false := by simp; omega
  have g11 : ((c : Int) == 237) = false := by simp; omega
  have g12 : ((c : Int) == 240) = false := by simp; omega
  have g13 : ((c : Int) == 244) = false := by simp; omega
  have hci : (c : Int) < 256 := by omega
  clear hM hA h1
  go_enter Tryz.func76, Tryz.ntmps76
  go_wp2
  go_ret
  exact ⟨rfl, rfl⟩
set_option maxRecDepth 10000 in
set_option maxHeartbeats 400000 in
theorem char16_qn (b : Nat) (t : TypeId) (v : Value) (wd : ByteArray) (m : Mc) (w : World) (hA : At w b (mcC v wd m) t) (hz : m.lf = 0) (hn : m.nm = true) :
  Calls Tryz.prog 76 #[.pointer (some ⟨b, 0, none⟩), .int .u8 34] w fun e w' => e = .returned (.bool true) ∧ w' = (((w.setCell ⟨b, 5, none⟩ (.int .i64 128)).setCell ⟨b, 6, none⟩ (.int .i64 191)).setCell ⟨b, 1, none⟩ (.int .i64 4)) := by
  have hM := mcAt_of hA
  have c4 : w.cell? ⟨b, 4, none⟩ = some (.int .i64 0) := by rw [hM.c4, hz]; rfl
  have c1 := hM.c1
  have c5 := hM.c5
  have c6 := hM.c6
  have c2 : w.cell? ⟨b, 2, none⟩ = some (.bool true) := by rw [hM.c2, hn]
  have f1 := hA.frozen 1
  have f2 := hA.frozen 2
  have f4 := hA.frozen 4
  have f5 := hA.frozen 5
  have f6 := hA.frozen 6
  clear hM hA
  go_enter Tryz.func76, Tryz.ntmps76
  go_wp2
  go_ret
  exact ⟨rfl, rfl⟩
set_option maxRecDepth 10000 in
set_option maxHeartbeats 400000 in
theorem char16_q (b : Nat) (t : TypeId) (v : Value) (wd : ByteArray) (m : Mc) (w : World) (hA : At w b (mcC v wd m) t) (hz : m.lf = 0) (hn : m.nm = false) :
  Calls Tryz.prog 76 #[.pointer (some ⟨b, 0, none⟩), .int .u8 34] w fun e w' => e = .returned (.bool true) ∧ w' = (((w.setCell ⟨b, 5, none⟩ (.int .i64 128)).setCell ⟨b, 6, none⟩ (.int .i64 191)).setCell ⟨b, 1, none⟩ (.int .i64 5)) := by
  have hM := mcAt_of hA
  have c4 : w.cell? ⟨b, 4, none⟩ = some (.int .i64 0) := by rw [hM.c4, hz]; rfl
  have c1 := hM.c1
  have c5 := hM.c5
  have c6 := hM.c6
  have c2 : w.cell? ⟨b, 2, none⟩ = some (.bool false) := by rw [hM.c2, hn]
  have f1 := hA.frozen 1
  have f2 := hA.frozen 2
  have f4 := hA.frozen 4
  have f5 := hA.frozen 5
  have f6 := hA.frozen 6
  clear hM hA
  go_enter Tryz.func76, Tryz.ntmps76
  go_wp2
  go_ret
  exact ⟨rfl, rfl⟩
set_option maxRecDepth 10000 in
set_option maxHeartbeats 400000 in
theorem char16_s (b : Nat) (t : TypeId) (v : Value) (wd : ByteArray) (m : Mc) (w : World) (hA : At w b (mcC v wd m) t) (hz : m.lf = 0) :
  Calls Tryz.prog 76 #[.pointer (some ⟨b, 0, none⟩), .int .u8 92] w fun e w' => e = .returned (.bool true) ∧ w' = (((w.setCell ⟨b, 5, none⟩ (.int .i64 128)).setCell ⟨b, 6, none⟩ (.int .i64 191)).setCell ⟨b, 1, none⟩ (.int .i64 7)) := by
  have hM := mcAt_of hA
  have c4 : w.cell? ⟨b, 4, none⟩ = some (.int .i64 0) := by rw [hM.c4, hz]; rfl
  have c1 := hM.c1
  have c5 := hM.c5
  have c6 := hM.c6
  have f1 := hA.frozen 1
  have f2 := hA.frozen 2
  have f4 := hA.frozen 4
  have f5 := hA.frozen 5
  have f6 := hA.frozen 6
  clear hM hA
  go_enter Tryz.func76, Tryz.ntmps76
  go_wp2
  go_ret
  exact ⟨rfl, rfl⟩
set_option maxRecDepth 10000 in
set_option maxHeartbeats 400000 in
theorem char16_b (b : Nat) (t : TypeId) (v : Value) (wd : ByteArray) (m : Mc) (w : World) (hA : At w b (mcC v wd m) t) (hz : m.lf = 0) (c : Nat) (h1 : 32 ≤ c) (h2 : c ≤ 33) :
  Calls Tryz.prog 76 #[.pointer (some ⟨b, 0, none⟩), .int .u8 (c : Int)] w fun e w' => e = .returned (.bool true) ∧ w' = ((w.setCell ⟨b, 5, none⟩ (.int .i64 128)).setCell ⟨b, 6, none⟩ (.int .i64 191)) := by
  have hM := mcAt_of hA
  have c4 : w.cell? ⟨b, 4, none⟩ = some (.int .i64 0) := by rw [hM.c4, hz]; rfl
  have c1 := hM.c1
  have c5 := hM.c5
  have c6 := hM.c6
  have f1 := hA.frozen 1
  have f2 := hA.frozen 2
  have f4 := hA.frozen 4
  have f5 := hA.frozen 5
  have f6 := hA.frozen 6
  have g0 : ((c : Int) == 34) = false := by simp; omega
  have g1 : ((c : Int) == 92) = false := by simp; omega
  have g2 : decide ((32 : Int) ≤ (c : Int)) = true := by simp; omega
  have g3 : decide ((c : Int) < 128) = true := by simp; omega
  have g4 : decide ((194 : Int) ≤ (c : Int)) = false := by simp; omega
  have g5 : decide ((c : Int) < 224) = true := by simp; omega
  have g6 : decide ((224 : Int) ≤ (c : Int)) = false := by simp; omega
  have g7 : decide ((c : Int) < 240) = true := by simp; omega
  have g8 : decide ((240 : Int) ≤ (c : Int)) = false := by simp; omega
  have g9 : decide ((c : Int) < 245) = true := by simp; omega
  have g10 : ((c : Int) == 224) = false := by simp; omega
  have g11 : ((c : Int) == 237) = false := by simp; omega
  have g12 : ((c : Int) == 240) = false := by simp; omega
  have g13 : ((c : Int) == 244) = false := by simp; omega
  have hci : (c : Int) < 256 := by omega
  clear hM hA h1
  go_enter Tryz.func76, Tryz.ntmps76
  go_wp2
  go_ret
  exact ⟨rfl, rfl⟩
set_option maxRecDepth 10000 in
set_option maxHeartbeats 400000 in
theorem char16_c (b : Nat) (t : TypeId) (v : Value) (wd : ByteArray) (m : Mc) (w : World) (hA : At w b (mcC v wd m) t) (hz : m.lf = 0) (c : Nat) (h1 : 35 ≤ c) (h2 : c ≤ 91) :
  Calls Tryz.prog 76 #[.pointer (some ⟨b, 0, none⟩), .int .u8 (c : Int)] w fun e w' => e = .returned (.bool true) ∧ w' = ((w.setCell ⟨b, 5, none⟩ (.int .i64 128)).setCell ⟨b, 6, none⟩ (.int .i64 191)) := by
  have hM := mcAt_of hA
  have c4 : w.cell? ⟨b, 4, none⟩ = some (.int .i64 0) := by rw [hM.c4, hz]; rfl
  have c1 := hM.c1
  have c5 := hM.c5
  have c6 := hM.c6
  have f1 := hA.frozen 1
  have f2 := hA.frozen 2
  have f4 := hA.frozen 4
  have f5 := hA.frozen 5
  have f6 := hA.frozen 6
  have g0 : ((c : Int) == 34) = false := by simp; omega
  have g1 : ((c : Int) == 92) = false := by simp; omega
  have g2 : decide ((32 : Int) ≤ (c : Int)) = true := by simp; omega
  have g3 : decide ((c : Int) < 128) = true := by simp; omega
  have g4 : decide ((194 : Int) ≤ (c : Int)) = false := by simp; omega
  have g5 : decide ((c : Int) < 224) = true := by simp; omega
  have g6 : decide ((224 : Int) ≤ (c : Int)) = false := by simp; omega
  have g7 : decide ((c : Int) < 240) = true := by simp; omega
  have g8 : decide ((240 : Int) ≤ (c : Int)) = false := by simp; omega
  have g9 : decide ((c : Int) < 245) = true := by simp; omega
  have g10 : ((c : Int) == 224) = false := by simp; omega
  have g11 : ((c : Int) == 237) = false := by simp; omega
  have g12 : ((c : Int) == 240) = false := by simp; omega
  have g13 : ((c : Int) == 244) = false := by simp; omega
  have hci : (c : Int) < 256 := by omega
  clear hM hA h1
  go_enter Tryz.func76, Tryz.ntmps76
  go_wp2
  go_ret
  exact ⟨rfl, rfl⟩
set_option maxRecDepth 10000 in
set_option maxHeartbeats 400000 in
theorem char16_d (b : Nat) (t : TypeId) (v : Value) (wd : ByteArray) (m : Mc) (w : World) (hA : At w b (mcC v wd m) t) (hz : m.lf = 0) (c : Nat) (h1 : 93 ≤ c) (h2 : c ≤ 127) :
  Calls Tryz.prog 76 #[.pointer (some ⟨b, 0, none⟩), .int .u8 (c : Int)] w fun e w' => e = .returned (.bool true) ∧ w' = ((w.setCell ⟨b, 5, none⟩ (.int .i64 128)).setCell ⟨b, 6, none⟩ (.int .i64 191)) := by
  have hM := mcAt_of hA
  have c4 : w.cell? ⟨b, 4, none⟩ = some (.int .i64 0) := by rw [hM.c4, hz]; rfl
  have c1 := hM.c1
  have c5 := hM.c5
  have c6 := hM.c6
  have f1 := hA.frozen 1
  have f2 := hA.frozen 2
  have f4 := hA.frozen 4
  have f5 := hA.frozen 5
  have f6 := hA.frozen 6
  have g0 : ((c : Int) == 34) = false := by simp; omega
  have g1 : ((c : Int) == 92) = false := by simp; omega
  have g2 : decide ((32 : Int) ≤ (c : Int)) = true := by simp; omega
  have g3 : decide ((c : Int) < 128) = true := by simp; omega
  have g4 : decide ((194 : Int) ≤ (c : Int)) = false := by simp; omega
  have g5 : decide ((c : Int) < 224) = true := by simp; omega
  have g6 : decide ((224 : Int) ≤ (c : Int)) = false := by simp; omega
  have g7 : decide ((c : Int) < 240) = true := by simp; omega
  have g8 : decide ((240 : Int) ≤ (c : Int)) = false := by simp; omega
  have g9 : decide ((c : Int) < 245) = true := by simp; omega
  have g10 : ((c : Int) == 224) = false := by simp; omega
  have g11 : ((c : Int) == 237) = false := by simp; omega
  have g12 : ((c : Int) == 240) = false := by simp; omega
  have g13 : ((c : Int) == 244) = false := by simp; omega
  have hci : (c : Int) < 256 := by omega
  clear hM hA h1
  go_enter Tryz.func76, Tryz.ntmps76
  go_wp2
  go_ret
  exact ⟨rfl, rfl⟩
set_option maxRecDepth 10000 in
set_option maxHeartbeats 400000 in
theorem char16_e (b : Nat) (t : TypeId) (v : Value) (wd : ByteArray) (m : Mc) (w : World) (hA : At w b (mcC v wd m) t) (hz : m.lf = 0) (c : Nat) (h1 : 128 ≤ c) (h2 : c ≤ 193) :
  Calls Tryz.prog 76 #[.pointer (some ⟨b, 0, none⟩), .int .u8 (c : Int)] w fun e w' => e = .returned (.bool false) ∧ w' = ((w.setCell ⟨b, 5, none⟩ (.int .i64 128)).setCell ⟨b, 6, none⟩ (.int .i64 191)) := by
  have hM := mcAt_of hA
  have c4 : w.cell? ⟨b, 4, none⟩ = some (.int .i64 0) := by rw [hM.c4, hz]; rfl
  have c1 := hM.c1
  have c5 := hM.c5
  have c6 := hM.c6
  have f1 := hA.frozen 1
  have f2 := hA.frozen 2
  have f4 := hA.frozen 4
  have f5 := hA.frozen 5
  have f6 := hA.frozen 6
  have g0 : ((c : Int) == 34) = false := by simp; omega
  have g1 : ((c : Int) == 92) = false := by simp; omega
  have g2 : decide ((32 : Int) ≤ (c : Int)) = true := by simp; omega
  have g3 : decide ((c : Int) < 128) = false := by simp; omega
  have g4 : decide ((194 : Int) ≤ (c : Int)) = false := by simp; omega
  have g5 : decide ((c : Int) < 224) = true := by simp; omega
  have g6 : decide ((224 : Int) ≤ (c : Int)) = false := by simp; omega
  have g7 : decide ((c : Int) < 240) = true := by simp; omega
  have g8 : decide ((240 : Int) ≤ (c : Int)) = false := by simp; omega
  have g9 : decide ((c : Int) < 245) = true := by simp; omega
  have g10 : ((c : Int) == 224) = false := by simp; omega
  have g11 : ((c : Int) == 237) = false := by simp; omega
  have g12 : ((c : Int) == 240) = false := by simp; omega
  have g13 : ((c : Int) == 244) = false := by simp; omega
  have hci : (c : Int) < 256 := by omega
  clear hM hA h1
  go_enter Tryz.func76, Tryz.ntmps76
  go_wp2
  go_ret
  exact ⟨rfl, rfl⟩
set_option maxRecDepth 10000 in
set_option maxHeartbeats 400000 in
theorem char16_f (b : Nat) (t : TypeId) (v : Value) (wd : ByteArray) (m : Mc) (w : World) (hA : At w b (mcC v wd m) t) (hz : m.lf = 0) (c : Nat) (h1 : 194 ≤ c) (h2 : c ≤ 223) :
  Calls Tryz.prog 76 #[.pointer (some ⟨b, 0, none⟩), .int .u8 (c : Int)] w fun e w' => e = .returned (.bool true) ∧ w' = (((w.setCell ⟨b, 5, none⟩ (.int .i64 128)).setCell ⟨b, 6, none⟩ (.int .i64 191)).setCell ⟨b, 4, none⟩ (.int .i64 1)) := by
  have hM := mcAt_of hA
  have c4 : w.cell? ⟨b, 4, none⟩ = some (.int .i64 0) := by rw [hM.c4, hz]; rfl
  have c1 := hM.c1
  have c5 := hM.c5
  have c6 := hM.c6
  have f1 := hA.frozen 1
  have f2 := hA.frozen 2
  have f4 := hA.frozen 4
  have f5 := hA.frozen 5
  have f6 := hA.frozen 6
  have g0 : ((c : Int) == 34) = false := by simp; omega
  have g1 : ((c : Int) == 92) = false := by simp; omega
  have g2 : decide ((32 : Int) ≤ (c : Int)) = true := by simp; omega
  have g3 : decide ((c : Int) < 128) = false := by simp; omega
  have g4 : decide ((194 : Int) ≤ (c : Int)) = true := by simp; omega
  have g5 : decide ((c : Int) < 224) = true := by simp; omega
  have g6 : decide ((224 : Int) ≤ (c : Int)) = false := by simp; omega
  have g7 : decide ((c : Int) < 240) = true := by simp; omega
  have g8 : decide ((240 : Int) ≤ (c : Int)) = false := by simp; omega
  have g9 : decide ((c : Int) < 245) = true := by simp; omega
  have g10 : ((c : Int) == 224) = false := by simp; omega
  have g11 : ((c : Int) == 237) = false := by simp; omega
  have g12 : ((c : Int) == 240) = false := by simp; omega
  have g13 : ((c : Int) == 244) = false := by simp; omega
  have hci : (c : Int) < 256 := by omega
  clear hM hA h1
  go_enter Tryz.func76, Tryz.ntmps76
  go_wp2
  go_ret
  exact ⟨rfl, rfl⟩
set_option maxRecDepth 10000 in
set_option maxHeartbeats 400000 in
theorem char16_g (b : Nat) (t : TypeId) (v : Value) (wd : ByteArray) (m : Mc) (w : World) (hA : At w b (mcC v wd m) t) (hz : m.lf = 0) :
  Calls Tryz.prog 76 #[.pointer (some ⟨b, 0, none⟩), .int .u8 224] w fun e w' => e = .returned (.bool true) ∧ w' = ((((w.setCell ⟨b, 5, none⟩ (.int .i64 128)).setCell ⟨b, 6, none⟩ (.int .i64 191)).setCell ⟨b, 4, none⟩ (.int .i64 2)).setCell ⟨b, 5, none⟩ (.int .i64 160)) := by
  have hM := mcAt_of hA
  have c4 : w.cell? ⟨b, 4, none⟩ = some (.int .i64 0) := by rw [hM.c4, hz]; rfl
  have c1 := hM.c1
  have c5 := hM.c5
  have c6 := hM.c6
  have f1 := hA.frozen 1
  have f2 := hA.frozen 2
  have f4 := hA.frozen 4
  have f5 := hA.frozen 5
  have f6 := hA.frozen 6
  clear hM hA
  go_enter Tryz.func76, Tryz.ntmps76
  go_wp2
  go_ret
  exact ⟨rfl, rfl⟩
set_option maxRecDepth 10000 in
set_option maxHeartbeats 400000 in
theorem char16_h (b : Nat) (t : TypeId) (v : Value) (wd : ByteArray) (m : Mc) (w : World) (hA : At w b (mcC v wd m) t) (hz : m.lf = 0) (c : Nat) (h1 : 225 ≤ c) (h2 : c ≤ 236) :
  Calls Tryz.prog 76 #[.pointer (some ⟨b, 0, none⟩), .int .u8 (c : Int)] w fun e w' => e = .returned (.bool true) ∧ w' = (((w.setCell ⟨b, 5, none⟩ (.int .i64 128)).setCell ⟨b, 6, none⟩ (.int .i64 191)).setCell ⟨b, 4, none⟩ (.int .i64 2)) := by
  have hM := mcAt_of hA
  have c4 : w.cell? ⟨b, 4, none⟩ = some (.int .i64 0) := by rw [hM.c4, hz]; rfl
  have c1 := hM.c1
  have c5 := hM.c5
  have c6 := hM.c6
  have f1 := hA.frozen 1
  have f2 := hA.frozen 2
  have f4 := hA.frozen 4
  have f5 := hA.frozen 5
  have f6 := hA.frozen 6
  have g0 : ((c : Int) == 34) = false := by simp; omega
  have g1 : ((c : Int) == 92) = false := by simp; omega
  have g2 : decide ((32 : Int) ≤ (c : Int)) = true := by simp; omega
  have g3 : decide ((c : Int) < 128) = false := by simp; omega
  have g4 : decide ((194 : Int) ≤ (c : Int)) = true := by simp; omega
  have g5 : decide ((c : Int) < 224) = false := by simp; omega
  have g6 : decide ((224 : Int) ≤ (c : Int)) = true := by simp; omega
  have g7 : decide ((c : Int) < 240) = true := by simp; omega
  have g8 : decide ((240 : Int) ≤ (c : Int)) = false := by simp; omega
  have g9 : decide ((c : Int) < 245) = true := by simp; omega
  have g10 : ((c : Int) == 224) = false := by simp; omega
  have g11 : ((c : Int) == 237) = false := by simp; omega
  have g12 : ((c : Int) == 240) = false := by simp; omega
  have g13 : ((c : Int) == 244) = false := by simp; omega
  have hci : (c : Int) < 256 := by omega
  clear hM hA h1
  go_enter Tryz.func76, Tryz.ntmps76
  go_wp2
  go_ret
  exact ⟨rfl, rfl⟩
set_option maxRecDepth 10000 in
set_option maxHeartbeats 400000 in
theorem char16_i (b : Nat) (t : TypeId) (v : Value) (wd : ByteArray) (m : Mc) (w : World) (hA : At w b (mcC v wd m) t) (hz : m.lf = 0) :
  Calls Tryz.prog 76 #[.pointer (some ⟨b, 0, none⟩), .int .u8 237] w fun e w' => e = .returned (.bool true) ∧ w' = ((((w.setCell ⟨b, 5, none⟩ (.int .i64 128)).setCell ⟨b, 6, none⟩ (.int .i64 191)).setCell ⟨b, 4, none⟩ (.int .i64 2)).setCell ⟨b, 6, none⟩ (.int .i64 159)) := by
  have hM := mcAt_of hA
  have c4 : w.cell? ⟨b, 4, none⟩ = some (.int .i64 0) := by rw [hM.c4, hz]; rfl
  have c1 := hM.c1
  have c5 := hM.c5
  have c6 := hM.c6
  have f1 := hA.frozen 1
  have f2 := hA.frozen 2
  have f4 := hA.frozen 4
  have f5 := hA.frozen 5
  have f6 := hA.frozen 6
  clear hM hA
  go_enter Tryz.func76, Tryz.ntmps76
  go_wp2
  go_ret
  exact ⟨rfl, rfl⟩
set_option maxRecDepth 10000 in
set_option maxHeartbeats 400000 in
theorem char16_j (b : Nat) (t : TypeId) (v : Value) (wd : ByteArray) (m : Mc) (w : World) (hA : At w b (mcC v wd m) t) (hz : m.lf = 0) (c : Nat) (h1 : 238 ≤ c) (h2 : c ≤ 239) :
  Calls Tryz.prog 76 #[.pointer (some ⟨b, 0, none⟩), .int .u8 (c : Int)] w fun e w' => e = .returned (.bool true) ∧ w' = (((w.setCell ⟨b, 5, none⟩ (.int .i64 128)).setCell ⟨b, 6, none⟩ (.int .i64 191)).setCell ⟨b, 4, none⟩ (.int .i64 2)) := by
  have hM := mcAt_of hA
  have c4 : w.cell? ⟨b, 4, none⟩ = some (.int .i64 0) := by rw [hM.c4, hz]; rfl
  have c1 := hM.c1
  have c5 := hM.c5
  have c6 := hM.c6
  have f1 := hA.frozen 1
  have f2 := hA.frozen 2
  have f4 := hA.frozen 4
  have f5 := hA.frozen 5
  have f6 := hA.frozen 6
  have g0 : ((c : Int) == 34) = false := by simp; omega
  have g1 : ((c : Int) == 92) = false := by simp; omega
  have g2 : decide ((32 : Int) ≤ (c : Int)) = true := by simp; omega
  have g3 : decide ((c : Int) < 128) = false := by simp; omega
  have g4 : decide ((194 : Int) ≤ (c : Int)) = true := by simp; omega
  have g5 : decide ((c : Int) < 224) = false := by simp; omega
  have g6 : decide ((224 : Int) ≤ (c : Int)) = true := by simp; omega
  have g7 : decide ((c : Int) < 240) = true := by simp; omega
  have g8 : decide ((240 : Int) ≤ (c : Int)) = false := by simp; omega
  have g9 : decide ((c : Int) < 245) = true := by simp; omega
  have g10 : ((c : Int) == 224) = false := by simp; omega
  have g11 : ((c : Int) == 237) = false := by simp; omega
  have g12 : ((c : Int) == 240) = false := by simp; omega
  have g13 : ((c : Int) == 244) = false := by simp; omega
  have hci : (c : Int) < 256 := by omega
  clear hM hA h1
  go_enter Tryz.func76, Tryz.ntmps76
  go_wp2
  go_ret
  exact ⟨rfl, rfl⟩
set_option maxRecDepth 10000 in
set_option maxHeartbeats 400000 in
theorem char16_k (b : Nat) (t : TypeId) (v : Value) (wd : ByteArray) (m : Mc) (w : World) (hA : At w b (mcC v wd m) t) (hz : m.lf = 0) :
  Calls Tryz.prog 76 #[.pointer (some ⟨b, 0, none⟩), .int .u8 240] w fun e w' => e = .returned (.bool true) ∧ w' = ((((w.setCell ⟨b, 5, none⟩ (.int .i64 128)).setCell ⟨b, 6, none⟩ (.int .i64 191)).setCell ⟨b, 4, none⟩ (.int .i64 3)).setCell ⟨b, 5, none⟩ (.int .i64 144)) := by
  have hM := mcAt_of hA
  have c4 : w.cell? ⟨b, 4, none⟩ = some (.int .i64 0) := by rw [hM.c4, hz]; rfl
  have c1 := hM.c1
  have c5 := hM.c5
  have c6 := hM.c6
  have f1 := hA.frozen 1
  have f2 := hA.frozen 2
  have f4 := hA.frozen 4
  have f5 := hA.frozen 5
  have f6 := hA.frozen 6
  clear hM hA
  go_enter Tryz.func76, Tryz.ntmps76
  go_wp2
  go_ret
  exact ⟨rfl, rfl⟩
set_option maxRecDepth 10000 in
set_option maxHeartbeats 400000 in
theorem char16_l (b : Nat) (t : TypeId) (v : Value) (wd : ByteArray) (m : Mc) (w : World) (hA : At w b (mcC v wd m) t) (hz : m.lf = 0) (c : Nat) (h1 : 241 ≤ c) (h2 : c ≤ 243) :
  Calls Tryz.prog 76 #[.pointer (some ⟨b, 0, none⟩), .int .u8 (c : Int)] w fun e w' => e = .returned (.bool true) ∧ w' = (((w.setCell ⟨b, 5, none⟩ (.int .i64 128)).setCell ⟨b, 6, none⟩ (.int .i64 191)).setCell ⟨b, 4, none⟩ (.int .i64 3)) := by
  have hM := mcAt_of hA
  have c4 : w.cell? ⟨b, 4, none⟩ = some (.int .i64 0) := by rw [hM.c4, hz]; rfl
  have c1 := hM.c1
  have c5 := hM.c5
  have c6 := hM.c6
  have f1 := hA.frozen 1
  have f2 := hA.frozen 2
  have f4 := hA.frozen 4
  have f5 := hA.frozen 5
  have f6 := hA.frozen 6
  have g0 : ((c : Int) == 34) = false := by simp; omega
  have g1 : ((c : Int) == 92) = false := by simp; omega
  have g2 : decide ((32 : Int) ≤ (c : Int)) = true := by simp; omega
  have g3 : decide ((c : Int) < 128) = false := by simp; omega
  have g4 : decide ((194 : Int) ≤ (c : Int)) = true := by simp; omega
  have g5 : decide ((c : Int) < 224) = false := by simp; omega
  have g6 : decide ((224 : Int) ≤ (c : Int)) = true := by simp; omega
  have g7 : decide ((c : Int) < 240) = false := by simp; omega
  have g8 : decide ((240 : Int) ≤ (c : Int)) = true := by simp; omega
  have g9 : decide ((c : Int) < 245) = true := by simp; omega
  have g10 : ((c : Int) == 224) = false := by simp; omega
  have g11 : ((c : Int) == 237) = false := by simp; omega
  have g12 : ((c : Int) == 240) = false := by simp; omega
  have g13 : ((c : Int) == 244) = false := by simp; omega
  have hci : (c : Int) < 256 := by omega
  clear hM hA h1
  go_enter Tryz.func76, Tryz.ntmps76
  go_wp2
  go_ret
  exact ⟨rfl, rfl⟩
set_option maxRecDepth 10000 in
set_option maxHeartbeats 400000 in
theorem char16_m (b : Nat) (t : TypeId) (v : Value) (wd : ByteArray) (m : Mc) (w : World) (hA : At w b (mcC v wd m) t) (hz : m.lf = 0) :
  Calls Tryz.prog 76 #[.pointer (some ⟨b, 0, none⟩), .int .u8 244] w fun e w' => e = .returned (.bool true) ∧ w' = ((((w.setCell ⟨b, 5, none⟩ (.int .i64 128)).setCell ⟨b, 6, none⟩ (.int .i64 191)).setCell ⟨b, 4, none⟩ (.int .i64 3)).setCell ⟨b, 6, none⟩ (.int .i64 143)) := by
  have hM := mcAt_of hA
  have c4 : w.cell? ⟨b, 4, none⟩ = some (.int .i64 0) := by rw [hM.c4, hz]; rfl
  have c1 := hM.c1
  have c5 := hM.c5
  have c6 := hM.c6
  have f1 := hA.frozen 1
  have f2 := hA.frozen 2
  have f4 := hA.frozen 4
  have f5 := hA.frozen 5
  have f6 := hA.frozen 6
  clear hM hA
  go_enter Tryz.func76, Tryz.ntmps76
  go_wp2
  go_ret
  exact ⟨rfl, rfl⟩
set_option maxRecDepth 10000 in
set_option maxHeartbeats 400000 in
theorem char16_n (b : Nat) (t : TypeId) (v : Value) (wd : ByteArray) (m : Mc) (w : World) (hA : At w b (mcC v wd m) t) (hz : m.lf = 0) (c : Nat) (h1 : 245 ≤ c) (h2 : c ≤ 255) :
  Calls Tryz.prog 76 #[.pointer (some ⟨b, 0, none⟩), .int .u8 (c : Int)] w fun e w' => e = .returned (.bool false) ∧ w' = ((w.setCell ⟨b, 5, none⟩ (.int .i64 128)).setCell ⟨b, 6, none⟩ (.int .i64 191)) := by
  have hM := mcAt_of hA
  have c4 : w.cell? ⟨b, 4, none⟩ = some (.int .i64 0) := by rw [hM.c4, hz]; rfl
  have c1 := hM.c1
  have c5 := hM.c5
  have c6 := hM.c6
  have f1 := hA.frozen 1
  have f2 := hA.frozen 2
  have f4 := hA.frozen 4
  have f5 := hA.frozen 5
  have f6 := hA.frozen 6
  have g0 : ((c : Int) == 34) = false := by simp; omega
  have g1 : ((c : Int) == 92) = false := by simp; omega
  have g2 : decide ((32 : Int) ≤ (c : Int)) = true := by simp; omega
  have g3 : decide ((c : Int) < 128) = false := by simp; omega
  have g4 : decide ((194 : Int) ≤ (c : Int)) = true := by simp; omega
  have g5 : decide ((c : Int) < 224) = false := by simp; omega
  have g6 : decide ((224 : Int) ≤ (c : Int)) = true := by simp; omega
  have g7 : decide ((c : Int) < 240) = false := by simp; omega
  have g8 : decide ((240 : Int) ≤ (c : Int)) = true := by simp; omega
  have g9 : decide ((c : Int) < 245) = false := by simp; omega
  have g10 : ((c : Int) == 224) = false := by simp; omega
  have g11 : ((c : Int) == 237) = false := by simp; omega
  have g12 : ((c : Int) == 240) = false := by simp; omega
  have g13 : ((c : Int) == 244) = false := by simp; omega
  have hci : (c : Int) < 256 := by omega
  clear hM hA h1
  go_enter Tryz.func76, Tryz.ntmps76
  go_wp2
  go_ret
  exact ⟨rfl, rfl⟩
set_option maxRecDepth 10000 in
set_option maxHeartbeats 400000 in
theorem char16_x1 (b : Nat) (t : TypeId) (v : Value) (wd : ByteArray) (m : Mc) (w : World) (hA : At w b (mcC v wd m) t) (K : Nat) (hL : m.lf = K) (hL0 : 0 < K) (hL4 : K ≤ 5) (c : Nat) (hc : c < 256) (hlt : c < m.lo) :
  Calls Tryz.prog 76 #[.pointer (some ⟨b, 0, none⟩), .int .u8 (c : Int)] w fun e w' => e = .returned (.bool false) ∧ w' = w := by
  have hM := mcAt_of hA
  have c4 : w.cell? ⟨b, 4, none⟩ = some (.int .i64 (K : Int)) := by rw [hM.c4, hL]
  obtain ⟨lo, hlo'⟩ : ∃ x, m.lo = x := ⟨_, rfl⟩
  obtain ⟨hi, hhi'⟩ : ∃ x, m.hi = x := ⟨_, rfl⟩
  have c5 : w.cell? ⟨b, 5, none⟩ = some (.int .i64 (lo : Int)) := by rw [hM.c5, hlo']
  have c6 : w.cell? ⟨b, 6, none⟩ = some (.int .i64 (hi : Int)) := by rw [hM.c6, hhi']
  rw [hlo'] at hlt
  skip
  have g1 : decide ((c : Int) < (lo : Int)) = true := by simp; omega
  skip
  have g0 : (0 : Int) < (K : Int) := by omega
  have g3 : (K : Int) ≤ 5 := by omega
  have f4 := hA.frozen 4
  have f5 := hA.frozen 5
  have f6 := hA.frozen 6
  clear hM hA
  go_enter Tryz.func76, Tryz.ntmps76
  go_wp2
  go_ret
  exact ⟨rfl, rfl⟩
set_option maxRecDepth 10000 in
set_option maxHeartbeats 400000 in
theorem char16_x2 (b : Nat) (t : TypeId) (v : Value) (wd : ByteArray) (m : Mc) (w : World) (hA : At w b (mcC v wd m) t) (K : Nat) (hL : m.lf = K) (hL0 : 0 < K) (hL4 : K ≤ 5) (c : Nat) (hc : c < 256) (hlt : ¬ c < m.lo) (hgt : m.hi < c) :
  Calls Tryz.prog 76 #[.pointer (some ⟨b, 0, none⟩), .int .u8 (c : Int)] w fun e w' => e = .returned (.bool false) ∧ w' = w := by
  have hM := mcAt_of hA
  have c4 : w.cell? ⟨b, 4, none⟩ = some (.int .i64 (K : Int)) := by rw [hM.c4, hL]
  obtain ⟨lo, hlo'⟩ : ∃ x, m.lo = x := ⟨_, rfl⟩
  obtain ⟨hi, hhi'⟩ : ∃ x, m.hi = x := ⟨_, rfl⟩
  have c5 : w.cell? ⟨b, 5, none⟩ = some (.int .i64 (lo : Int)) := by rw [hM.c5, hlo']
  have c6 : w.cell? ⟨b, 6, none⟩ = some (.int .i64 (hi : Int)) := by rw [hM.c6, hhi']
  rw [hlo'] at hlt
  rw [hhi'] at hgt
  have g1 : decide ((c : Int) < (lo : Int)) = false := by simp; omega
  have g2 : decide ((hi : Int) < (c : Int)) = true := by simp; omega
  have g0 : (0 : Int) < (K : Int) := by omega
  have g3 : (K : Int) ≤ 5 := by omega
  have f4 := hA.frozen 4
  have f5 := hA.frozen 5
  have f6 := hA.frozen 6
  clear hM hA
  go_enter Tryz.func76, Tryz.ntmps76
  go_wp2
  go_ret
  exact ⟨rfl, rfl⟩
set_option maxRecDepth 10000 in
set_option maxHeartbeats 400000 in
theorem char16_x3 (b : Nat) (t : TypeId) (v : Value) (wd : ByteArray) (m : Mc) (w : World) (hA : At w b (mcC v wd m) t) (K : Nat) (hL : m.lf = K) (hL0 : 0 < K) (hL4 : K ≤ 5) (c : Nat) (hc : c < 256) (hlt : ¬ c < m.lo) (hgt : ¬ m.hi < c) :
  Calls Tryz.prog 76 #[.pointer (some ⟨b, 0, none⟩), .int .u8 (c : Int)] w fun e w' => e = .returned (.bool true) ∧ w' = ((w.setCell ⟨b, 4, none⟩ (.int .i64 ((K : Int) - 1))).setCell ⟨b, 5, none⟩ (.int .i64 128)).setCell ⟨b, 6, none⟩ (.int .i64 191) := by
  have hM := mcAt_of hA
  have c4 : w.cell? ⟨b, 4, none⟩ = some (.int .i64 (K : Int)) := by rw [hM.c4, hL]
  obtain ⟨lo, hlo'⟩ : ∃ x, m.lo = x := ⟨_, rfl⟩
  obtain ⟨hi, hhi'⟩ : ∃ x, m.hi = x := ⟨_, rfl⟩
  have c5 : w.cell? ⟨b, 5, none⟩ = some (.int .i64 (lo : Int)) := by rw [hM.c5, hlo']
  have c6 : w.cell? ⟨b, 6, none⟩ = some (.int .i64 (hi : Int)) := by rw [hM.c6, hhi']
  rw [hlo'] at hlt
  rw [hhi'] at hgt
  have g1 : decide ((c : Int) < (lo : Int)) = false := by simp; omega
  have g2 : decide ((hi : Int) < (c : Int)) = false := by simp; omega
  have g0 : (0 : Int) < (K : Int) := by omega
  have g3 : (K : Int) ≤ 5 := by omega
  have f4 := hA.frozen 4
  have f5 := hA.frozen 5
  have f6 := hA.frozen 6
  clear hM hA
  go_enter Tryz.func76, Tryz.ntmps76
  go_wp2
  go_ret
  exact ⟨rfl, rfl⟩
end Go.Proofs.YtkejlejhnnjdkaaGreatDoor
/- What the reference's machine does with a byte within a text, put together. -/
namespace Go.Proofs.YtkejlejhnnjdkaaGreatDoor
open Go.RowKit Go.Shelf
set_option maxHeartbeats 2000000 in
theorem char16_calls (b : Nat) (t : TypeId) (v : Value) (wd : ByteArray) (m : Mc) (c : Nat) (hc : c < 256) (w : World) (hA : At w b (mcC v wd m) t) (hl : m.lf ≤ 4) :
  Calls Tryz.prog 76 #[.pointer (some ⟨b, 0, none⟩), .int .u8 (c : Int)] w fun e w' => e = .returned (.bool (charM m c).isSome) ∧ Only b w w' ∧ ∀ k, charM m c = some k → At w' b (mcC v wd k) t := by
 by_cases h0 : 0 < m.lf
 ·obtain ⟨K, hL⟩ : ∃ K : Nat, m.lf = K := ⟨_, rfl⟩
  have hK0 : 0 < K := by omega
  by_cases h1 : c < m.lo
  ·have e : charM m c = none := by unfold charM; rw [if_pos h0, if_pos (Or.inl h1)]
   refine (char16_x1 b t v wd m w hA K hL hK0 (by omega) c hc h1).mono ?_
   rintro _ _ ⟨rfl, rfl⟩
   rw [e]
   exact ⟨rfl, Only.refl _ _, fun k hk => by cases hk⟩
  ·by_cases h2 : m.hi < c
   ·have e : charM m c = none := by unfold charM; rw [if_pos h0, if_pos (Or.inr h2)]
    refine (char16_x2 b t v wd m w hA K hL hK0 (by omega) c hc h1 h2).mono ?_
    rintro _ _ ⟨rfl, rfl⟩
    rw [e]
    exact ⟨rfl, Only.refl _ _, fun k hk => by cases hk⟩
   ·have e : charM m c = some { m with lf := K - 1, lo := 128, hi := 191 } := by unfold charM; rw [if_pos h0, if_neg (by omega), hL]
    refine (char16_x3 b t v wd m w hA K hL hK0 (by omega) c hc h1 h2).mono ?_
    rintro _ _ ⟨rfl, rfl⟩
    rw [e]
    refine ⟨rfl, (((Only.refl _ _).set _ _).set _ _).set _ _, fun k hk => ?_⟩
    injection hk with hk
    subst hk
    rw [show ((K : Int) - 1) = ((K - 1 : Nat) : Int) by omega]
    simpa [mcC] using ((hA.set 4 (.int .i64 ((K - 1 : Nat) : Int))).set 5 (.int .i64 128)).set 6 (.int .i64 191)
 have hz : m.lf = 0 := by omega
 by_cases ka : 0 ≤ c ∧ c ≤ 31
 ·obtain ⟨h1, h2⟩ := ka
  have e : charM m c = none := by unfold charM; rw [if_neg h0, if_neg (fun h => by have := h.1; omega), if_neg (by omega), if_neg (by omega), if_neg (by omega), if_neg (by omega), if_neg (by omega), if_neg (by omega)]
  refine (char16_a b t v wd m w hA hz c h1 h2).mono ?_
  rintro _ _ ⟨rfl, rfl⟩
  rw [e]
  exact ⟨rfl, (((Only.refl _ _).set _ _).set _ _), fun k hk => by cases hk⟩
 by_cases kqn : c = 34 ∧ m.nm = true
 ·obtain ⟨rfl, hn⟩ := kqn
  have e : charM m 34 = some { m with st := 4, lo := 128, hi := 191 } := by unfold charM; rw [if_neg h0, if_pos ⟨rfl, hn⟩]
  refine (char16_qn b t v wd m w hA hz hn).mono ?_
  rintro _ _ ⟨rfl, rfl⟩
  rw [e]
  refine ⟨rfl, ((((Only.refl _ _).set _ _).set _ _).set _ _), fun k hk => ?_⟩
  injection hk with hk
  subst hk
  simpa [mcC, hz] using (((hA.set 5 (.int .i64 128)).set 6 (.int .i64 191)).set 1 (.int .i64 4))
 by_cases kq : c = 34 ∧ m.nm = false
 ·obtain ⟨rfl, hn⟩ := kq
  have e : charM m 34 = some { m with st := 5, lo := 128, hi := 191 } := by unfold charM; rw [if_neg h0, if_neg (fun h => by rw [hn] at h; cases h.2), if_pos rfl]
  refine (char16_q b t v wd m w hA hz hn).mono ?_
  rintro _ _ ⟨rfl, rfl⟩
  rw [e]
  refine ⟨rfl, ((((Only.refl _ _).set _ _).set _ _).set _ _), fun k hk => ?_⟩
  injection hk with hk
  subst hk
  simpa [mcC, hz] using (((hA.set 5 (.int .i64 128)).set 6 (.int .i64 191)).set 1 (.int .i64 5))
 by_cases ks : c = 92
 ·subst ks
  have e : charM m 92 = some { m with st := 7, lo := 128, hi := 191 } := by unfold charM; rw [if_neg h0, if_neg (fun h => by have := h.1; omega), if_neg (by omega), if_pos rfl]
  refine (char16_s b t v wd m w hA hz).mono ?_
  rintro _ _ ⟨rfl, rfl⟩
  rw [e]
  refine ⟨rfl, ((((Only.refl _ _).set _ _).set _ _).set _ _), fun k hk => ?_⟩
  injection hk with hk
  subst hk
  simpa [mcC, hz] using (((hA.set 5 (.int .i64 128)).set 6 (.int .i64 191)).set 1 (.int .i64 7))
 by_cases kb : 32 ≤ c ∧ c ≤ 33
 ·obtain ⟨h1, h2⟩ := kb
  have e : charM m c = some { m with lo := 128, hi := 191 } := by unfold charM; rw [if_neg h0, if_neg (fun h => by have := h.1; omega), if_neg (by omega), if_neg (by omega), if_pos (by omega)]
  refine (char16_b b t v wd m w hA hz c h1 h2).mono ?_
  rintro _ _ ⟨rfl, rfl⟩
  rw [e]
  refine ⟨rfl, (((Only.refl _ _).set _ _).set _ _), fun k hk => ?_⟩
  injection hk with hk
  subst hk
  simpa [mcC, hz] using ((hA.set 5 (.int .i64 128)).set 6 (.int .i64 191))
 by_cases kc : 35 ≤ c ∧ c ≤ 91
 ·obtain ⟨h1, h2⟩ := kc
  have e : charM m c = some { m with lo := 128, hi := 191 } := by unfold charM; rw [if_neg h0, if_neg (fun h => by have := h.1; omega), if_neg (by omega), if_neg (by omega), if_pos (by omega)]
  refine (char16_c b t v wd m w hA hz c h1 h2).mono ?_
  rintro _ _ ⟨rfl, rfl⟩
  rw [e]
  refine ⟨rfl, (((Only.refl _ _).set _ _).set _ _), fun k hk => ?_⟩
  injection hk with hk
  subst hk
  simpa [mcC, hz] using ((hA.set 5 (.int .i64 128)).set 6 (.int .i64 191))
 by_cases kd : 93 ≤ c ∧ c ≤ 127
 ·obtain ⟨h1, h2⟩ := kd
  have e : charM m c = some { m with lo := 128, hi := 191 } := by unfold charM; rw [if_neg h0, if_neg (fun h => by have := h.1; omega), if_neg (by omega), if_neg (by omega), if_pos (by omega)]
  refine (char16_d b t v wd m w hA hz c h1 h2).mono ?_
  rintro _ _ ⟨rfl, rfl⟩
  rw [e]
  refine ⟨rfl, (((Only.refl _ _).set _ _).set _ _), fun k hk => ?_⟩
  injection hk with hk
  subst hk
  simpa [mcC, hz] using ((hA.set 5 (.int .i64 128)).set 6 (.int .i64 191))
 by_cases ke : 128 ≤ c ∧ c ≤ 193
 ·obtain ⟨h1, h2⟩ := ke
  have e : charM m c = none := by unfold charM; rw [if_neg h0, if_neg (fun h => by have := h.1; omega), if_neg (by omega), if_neg (by omega), if_neg (by omega), if_neg (by omega), if_neg (by omega), if_neg (by omega)]
  refine (char16_e b t v wd m w hA hz c h1 h2).mono ?_
  rintro _ _ ⟨rfl, rfl⟩
  rw [e]
  exact ⟨rfl, (((Only.refl _ _).set _ _).set _ _), fun k hk => by cases hk⟩
 by_cases kf : 194 ≤ c ∧ c ≤ 223
 ·obtain ⟨h1, h2⟩ := kf
  have e : charM m c = some { m with lf := 1, lo := 128, hi := 191 } := by unfold charM; rw [if_neg h0, if_neg (fun h => by have := h.1; omega), if_neg (by omega), if_neg (by omega), if_neg (by omega), if_pos (by omega)]
  refine (char16_f b t v wd m w hA hz c h1 h2).mono ?_
  rintro _ _ ⟨rfl, rfl⟩
  rw [e]
  refine ⟨rfl, ((((Only.refl _ _).set _ _).set _ _).set _ _), fun k hk => ?_⟩
  injection hk with hk
  subst hk
  simpa [mcC, hz] using (((hA.set 5 (.int .i64 128)).set 6 (.int .i64 191)).set 4 (.int .i64 1))
 by_cases kg : c = 224
 ·subst kg
  have e : charM m 224 = some { m with lf := 2, lo := 160, hi := 191 } := by unfold charM; rw [if_neg h0, if_neg (fun h => by have := h.1; omega), if_neg (by omega), if_neg (by omega), if_neg (by omega), if_neg (by omega), if_pos (by omega), show lowB 224 = 160 from rfl, show highB 224 = 191 from rfl]
  refine (char16_g b t v wd m w hA hz).mono ?_
  rintro _ _ ⟨rfl, rfl⟩
  rw [e]
  refine ⟨rfl, (((((Only.refl _ _).set _ _).set _ _).set _ _).set _ _), fun k hk => ?_⟩
  injection hk with hk
  subst hk
  simpa [mcC, hz] using ((((hA.set 5 (.int .i64 128)).set 6 (.int .i64 191)).set 4 (.int .i64 2)).set 5 (.int .i64 160))
 by_cases kh : 225 ≤ c ∧ c ≤ 236
 ·obtain ⟨h1, h2⟩ := kh
  have e : charM m c = some { m with lf := 2, lo := 128, hi := 191 } := by unfold charM; rw [if_neg h0, if_neg (fun h => by have := h.1; omega), if_neg (by omega), if_neg (by omega), if_neg (by omega), if_neg (by omega), if_pos (by omega), show lowB c = 128 by unfold lowB; rw [if_neg (by omega), if_neg (by omega)], show highB c = 191 by unfold highB; rw [if_neg (by omega), if_neg (by omega)]]
  refine (char16_h b t v wd m w hA hz c h1 h2).mono ?_
  rintro _ _ ⟨rfl, rfl⟩
  rw [e]
  refine ⟨rfl, ((((Only.refl _ _).set _ _).set _ _).set _ _), fun k hk => ?_⟩
  injection hk with hk
  subst hk
  simpa [mcC, hz] using (((hA.set 5 (.int .i64 128)).set 6 (.int .i64 191)).set 4 (.int .i64 2))
 by_cases ki : c = 237
 ·subst ki
  have e : charM m 237 = some { m with lf := 2, lo := 128, hi := 159 } := by unfold charM; rw [if_neg h0, if_neg (fun h => by have := h.1; omega), if_neg (by omega), if_neg (by omega), if_neg (by omega), if_neg (by omega), if_pos (by omega), show lowB 237 = 128 from rfl, show highB 237 = 159 from rfl]
  refine (char16_i b t v wd m w hA hz).mono ?_
  rintro _ _ ⟨rfl, rfl⟩
  rw [e]
  refine ⟨rfl, (((((Only.refl _ _).set _ _).set _ _).set _ _).set _ _), fun k hk => ?_⟩
  injection hk with hk
  subst hk
  simpa [mcC, hz] using ((((hA.set 5 (.int .i64 128)).set 6 (.int .i64 191)).set 4 (.int .i64 2)).set 6 (.int .i64 159))
 by_cases kj : 238 ≤ c ∧ c ≤ 239
 ·obtain ⟨h1, h2⟩ := kj
  have e : charM m c = some { m with lf := 2, lo := 128, hi := 191 } := by unfold charM; rw [if_neg h0, if_neg (fun h => by have := h.1; omega), if_neg (by omega), if_neg (by omega), if_neg (by omega), if_neg (by omega), if_pos (by omega), show lowB c = 128 by unfold lowB; rw [if_neg (by omega), if_neg (by omega)], show highB c = 191 by unfold highB; rw [if_neg (by omega), if_neg (by omega)]]
  refine (char16_j b t v wd m w hA hz c h1 h2).mono ?_
  rintro _ _ ⟨rfl, rfl⟩
  rw [e]
  refine ⟨rfl, ((((Only.refl _ _).set _ _).set _ _).set _ _), fun k hk => ?_⟩
  injection hk with hk
  subst hk
  simpa [mcC, hz] using (((hA.set 5 (.int .i64 128)).set 6 (.int .i64 191)).set 4 (.int .i64 2))
 by_cases kk : c = 240
 ·subst kk
  have e : charM m 240 = some { m with lf := 3, lo := 144, hi := 191 } := by unfold charM; rw [if_neg h0, if_neg (fun h => by have := h.1; omega), if_neg (by omega), if_neg (by omega), if_neg (by omega), if_neg (by omega), if_neg (by omega), if_pos (by omega), show lowB 240 = 144 from rfl, show highB 240 = 191 from rfl]
  refine (char16_k b t v wd m w hA hz).mono ?_
  rintro _ _ ⟨rfl, rfl⟩
  rw [e]
  refine ⟨rfl, (((((Only.refl _ _).set _ _).set _ _).set _ _).set _ _), fun k hk => ?_⟩
  injection hk with hk
  subst hk
  simpa [mcC, hz] using ((((hA.set 5 (.int .i64 128)).set 6 (.int .i64 191)).set 4 (.int .i64 3)).set 5 (.int .i64 144))
 by_cases kl : 241 ≤ c ∧ c ≤ 243
 ·obtain ⟨h1, h2⟩ := kl
  have e : charM m c = some { m with lf := 3, lo := 128, hi := 191 } := by unfold charM; rw [if_neg h0, if_neg (fun h => by have := h.1; omega), if_neg (by omega), if_neg (by omega), if_neg (by omega), if_neg (by omega), if_neg (by omega), if_pos (by omega), show lowB c = 128 by unfold lowB; rw [if_neg (by omega), if_neg (by omega)], show highB c = 191 by unfold highB; rw [if_neg (by omega), if_neg (by omega)]]
  refine (char16_l b t v wd m w hA hz c h1 h2).mono ?_
  rintro _ _ ⟨rfl, rfl⟩
  rw [e]
  refine ⟨rfl, ((((Only.refl _ _).set _ _).set _ _).set _ _), fun k hk => ?_⟩
  injection hk with hk
  subst hk
  simpa [mcC, hz] using (((hA.set 5 (.int .i64 128)).set 6 (.int .i64 191)).set 4 (.int .i64 3))
 by_cases km : c = 244
 ·subst km
  have e : charM m 244 = some { m with lf := 3, lo := 128, hi := 143 } := by unfold charM; rw [if_neg h0, if_neg (fun h => by have := h.1; omega), if_neg (by omega), if_neg (by omega), if_neg (by omega), if_neg (by omega), if_neg (by omega), if_pos (by omega), show lowB 244 = 128 from rfl, show highB 244 = 143 from rfl]
  refine (char16_m b t v wd m w hA hz).mono ?_
  rintro _ _ ⟨rfl, rfl⟩
  rw [e]
  refine ⟨rfl, (((((Only.refl _ _).set _ _).set _ _).set _ _).set _ _), fun k hk => ?_⟩
  injection hk with hk
  subst hk
  simpa [mcC, hz] using ((((hA.set 5 (.int .i64 128)).set 6 (.int .i64 191)).set 4 (.int .i64 3)).set 6 (.int .i64 143))
 by_cases kn : 245 ≤ c ∧ c ≤ 255
 ·obtain ⟨h1, h2⟩ := kn
  have e : charM m c = none := by unfold charM; rw [if_neg h0, if_neg (fun h => by have := h.1; omega), if_neg (by omega), if_neg (by omega), if_neg (by omega), if_neg (by omega), if_neg (by omega), if_neg (by omega)]
  refine (char16_n b t v wd m w hA hz c h1 h2).mono ?_
  rintro _ _ ⟨rfl, rfl⟩
  rw [e]
  exact ⟨rfl, (((Only.refl _ _).set _ _).set _ _), fun k hk => by cases hk⟩
 exfalso
 cases hn : m.nm with
 | true => have h34 : c ≠ 34 := fun e => kqn ⟨e, hn⟩; clear kqn kq; omega
 | false => have h34 : c ≠ 34 := fun e => kq ⟨e, hn⟩; clear kqn kq; omega
end Go.Proofs.YtkejlejhnnjdkaaGreatDoor
/- The reference's machine in memory; which bracket was opened last. -/
namespace Go.Proofs.YtkejlejhnnjdkaaGreatDoor
open Go.RowKit Go.Shelf
/-- The cells of a row of bytes. -/
def opC (l : List Nat) : List Value := l.map fun n => .int .u8 ((n : Nat) : Int)
theorem opC_app (a b : List Nat) : opC (a ++ b) = opC a ++ opC b := by simp [opC]
/-- All is as it was, but the block b and the block o. -/
structure BelX (o : Option Nat) (b : Nat) (w w' : World) : Prop where
 os : w'.os = w.os
 tape : w'.tape = w.tape
 output : w'.output = w.output
 size : w.heap.size ≤ w'.heap.size
 block : ∀ k, k < w.heap.size → k ≠ b → some k ≠ o → w'.heap[k]? = w.heap[k]?
theorem BelX.refl (o : Option Nat) (b : Nat) (w : World) : BelX o b w w := ⟨rfl, rfl, rfl, Nat.le_refl _, fun _ _ _ _ => rfl⟩
theorem BelX.trans {o : Option Nat} {b : Nat} {x y z : World} (h : BelX o b x y) (k : BelX o b y z) : BelX o b x z :=
 ⟨k.os.trans h.os, k.tape.trans h.tape, k.output.trans h.output, Nat.le_trans h.size k.size, fun i hi hb ho => (k.block i (by have := h.size; omega) hb ho).trans (h.block i hi hb ho)⟩
theorem BelX.of_only {o : Option Nat} {b : Nat} {w w' : World} (h : Only b w w') : BelX o b w w' := ⟨h.1.os, h.1.tape, h.1.output, h.1.size, fun k _ hk _ => h.2.2 k hk⟩
theorem BelX.of_below {o : Option Nat} {b : Nat} {w w' : World} (h : Below w.heap.size w w') : BelX o b w w' := ⟨h.os, h.tape, h.output, h.size, fun k hk _ _ => h.block k hk⟩
theorem BelX.of_grown {o : Option Nat} {b : Nat} {w w' : World} (h : w.grownBy w' o) : BelX o b w w' :=
 ⟨h.os, h.tape, h.output, h.size, fun k hk _ ho => h.block k hk ho⟩
theorem BelX.of_alloc {o : Option Nat} {b : Nat} (w : World) (x : Obj) : BelX o b w (w.alloc x) := BelX.of_grown (World.grownBy_alloc w x o)
/-- A machine in memory: its cells in the block b, the row of its brackets from B on. -/
structure McIn (B b : Nat) (t : TypeId) (v : Value) (wd : ByteArray) (m : Mc) (w : World) : Prop where
 at_ : At w b (mcC v wd m) t
 row : w.ownsRow B 5 1 v m.op.length (opC m.op)
 word : byts wd = m.wd
 lt : b < B
theorem own_only {B b n : Nat} {v : Value} {xs : List Value} {w w' : World} (h : w.ownsRow B 5 1 v n xs) (hb : b < B) (ho : Only b w w') : w'.ownsRow B 5 1 v n xs :=
 h.kept (row := some b) ⟨ho.1.os, ho.1.tape, ho.1.output, ho.1.size, fun k _ hk => ho.2.2 k (fun e => hk (by rw [e]))⟩ (by
  cases hv : v.ownBlock with
  | none => exact .inl rfl
  | some g => exact .inr (fun e => by have := (h.lt g hv).1; injection e with e; omega))
theorem own_below {B n : Nat} {v : Value} {xs : List Value} {w w' : World} (h : w.ownsRow B 5 1 v n xs) (hb : Below w.heap.size w w') : w'.ownsRow B 5 1 v n xs :=
 h.kept (row := none) ⟨hb.os, hb.tape, hb.output, hb.size, fun k hk _ => hb.block k hk⟩ (by cases v.ownBlock <;> simp)
set_option maxRecDepth 10000 in
set_option maxHeartbeats 1000000 in
theorem top16_calls (B b : Nat) (t : TypeId) (v : Value) (wd : ByteArray) (m : Mc) (w : World) (hM : McIn B b t v wd m w) (hn : m.op.length ≤ 1099511627776) :
  Calls Tryz.prog 116 #[.pointer (some ⟨b, 0, none⟩)] w fun e w' => e = .returned (.int .u8 ((topN m : Nat) : Int)) ∧ Below w.heap.size w w' := by
 have c0 := (mcAt_of hM.at_).c0
 rcases hM.row.2 with ⟨rfl, h0⟩ | ⟨g, cap, cur, hv, hb, hgg, hcap, hmx, hsz, htk⟩
 ·have he : m.op = [] := List.eq_nil_of_length_eq_zero h0
  have ht : topN m = 0 := by unfold topN; rw [he]; rfl
  rw [ht]
  clear hM ht he h0
  go_enter Tryz.func116, Tryz.ntmps116
  go_wp2
  go_ret
  exact ⟨rfl, by repeat (first | with_reducible exact Below.refl _ _ | with_reducible refine Below.setCell ?_ (by first | (simp; done) | (simp; omega)) _ | with_reducible refine below_drewN ?_ _ | with_reducible refine Below.alloc ?_ (by first | (simp; done) | (simp; omega)) _ | with_reducible refine Below.drew ?_)⟩
 ·rw [hv] at c0
  obtain ⟨n, hnn⟩ : ∃ n, m.op.length = n := ⟨_, rfl⟩
  rw [hnn] at c0 hn
  by_cases h0 : n = 0
  ·have he : m.op = [] := List.eq_nil_of_length_eq_zero (by omega)
   have ht : topN m = 0 := by unfold topN; rw [he]; rfl
   rw [ht]
   subst h0
   clear hM ht he hv hgg hmx hsz htk hcap
   go_enter Tryz.func116, Tryz.ntmps116
   go_wp2
   go_ret
   exact ⟨rfl, by repeat (first | with_reducible exact Below.refl _ _ | with_reducible refine Below.setCell ?_ (by first | (simp; done) | (simp; omega)) _ | with_reducible refine below_drewN ?_ _ | with_reducible refine Below.alloc ?_ (by first | (simp; done) | (simp; omega)) _ | with_reducible refine Below.drew ?_)⟩
  ·obtain ⟨N, hN⟩ : ∃ N, n = N + 1 := ⟨n - 1, by omega⟩
   obtain ⟨x, hx⟩ : ∃ x, Hid (topN m = x) := ⟨_, rfl⟩
   have hget : (opC m.op)[N]? = some (.int .u8 (x : Int)) := by
    unfold opC
    rw [List.getElem?_map, List.getElem?_eq_getElem (by omega), ← hx.out]
    unfold topN
    rw [List.getLastD_eq_getLast?, List.getLast?_eq_getElem?, List.getElem?_eq_getElem (by omega)]
    simp [hnn, hN]
   have hcell := hM.row.cells (g := g) (by rw [hv]; rfl) N _ hget
   have hadd : (⟨g, 0, none⟩ : Addr).add N = ⟨g, N, none⟩ := by by_cases h : N = 0 <;> simp [Addr.add, h]
   rw [hadd] at hcell
   rw [hx.out]
   have g0 : ((n : Int) == 0) = false := by simp; omega
   have g1 : (n : Int) - 1 = (N : Int) := by omega
   have g2 : (N : Int) < (n : Int) := by omega
   have g3 : N < n := by omega
   have g4 : (n : Int) ≤ 1099511627776 := by omega
   clear hM hv hgg hmx hsz htk hcap hget hN h0 hnn
   go_enter Tryz.func116, Tryz.ntmps116
   go_wp2
   go_region
   go_wp2
   go_ret
   exact ⟨rfl, by repeat (first | with_reducible exact Below.refl _ _ | with_reducible refine Below.setCell ?_ (by first | (simp; done) | (simp; omega)) _ | with_reducible refine below_drewN ?_ _ | with_reducible refine Below.alloc ?_ (by first | (simp; done) | (simp; omega)) _ | with_reducible refine Below.drew ?_)⟩
end Go.Proofs.YtkejlejhnnjdkaaGreatDoor
