/-
 The parser of package tree in memory; its small functions: kind, blanks, null, truth, goesOn.
-/
import Derived.Test.YtkejlejhnnjdkaaGreatDoorPack8
import Derived.Test.YtkejlejhnnjdkaaGreatDoorTpF
import Derived.Test.YtkejlejhnnjdkaaGreatDoorTrE2
import Derived.Test.YtkejlejhnnjdkaaGreatDoorTrO
import Derived.Deep.DeepCutAuto
import Derived.Deep.RegionHeld
import Derived.BigQuiet
namespace Go.Proofs.YtkejlejhnnjdkaaGreatDoor
open Go.RowKit Go.Shelf
/-- The calls that take a value, in their list. -/
def takesC (b : Nat) : Array Value := #[.nilFunc, .func (.func 26) #[.pointer (some ⟨b, 0, none⟩)] #[], .func (.func 27) #[.pointer (some ⟨b, 0, none⟩)] #[], .func (.func 28) #[.pointer (some ⟨b, 0, none⟩)] #[], .func (.func 29) #[.pointer (some ⟨b, 0, none⟩)] #[], .func (.func 30) #[.pointer (some ⟨b, 0, none⟩)] #[], .func (.func 31) #[.pointer (some ⟨b, 0, none⟩)] #[]]
/-- A parser in memory. -/
structure PaI (b g : Nat) (s : ByteArray) (i : Nat) (w : World) : Prop where
 at_ : At w b #[.string s, .int .i64 (i : Int), .slice (some ⟨g, 0, none⟩) 7 7] 42
 tk : At w g (takesC b) 32
 ne : g ≠ b
/-- All is as it was but the block b and what is new. -/
structure PFr (b : Nat) (w w' : World) : Prop where
 os : w'.os = w.os
 tape : w'.tape = w.tape
 output : w'.output = w.output
 size : w.heap.size ≤ w'.heap.size
 block : ∀ k, k < w.heap.size → k ≠ b → w'.heap[k]? = w.heap[k]?
theorem PFr.refl (b : Nat) (w : World) : PFr b w w := ⟨rfl, rfl, rfl, Nat.le_refl _, fun _ _ _ => rfl⟩
theorem PFr.trans {b : Nat} {x y z : World} (h : PFr b x y) (k : PFr b y z) : PFr b x z :=
 ⟨k.os.trans h.os, k.tape.trans h.tape, k.output.trans h.output, Nat.le_trans h.size k.size, fun i hi hb => (k.block i (Nat.lt_of_lt_of_le hi h.size) hb).trans (h.block i hi hb)⟩
theorem PFr.of_below {b : Nat} {w w' : World} (h : Below w.heap.size w w') : PFr b w w' := ⟨h.os, h.tape, h.output, h.size, fun k hk _ => h.block k hk⟩
theorem PFr.set {b : Nat} {w w' : World} (h : PFr b w w') (k : Nat) (v : Value) : PFr b w (w'.setCell ⟨b, k, none⟩ v) :=
 ⟨h.os, h.tape, h.output, by simpa using h.size, fun i hi hb => (Below.heap_setCell w' ⟨b, k, none⟩ v i hb).trans (h.block i hi hb)⟩
theorem PFr.at_ {b c : Nat} {w w' : World} {cs : Array Value} {t : TypeId} (h : PFr b w w') (ha : At w c cs t) (hc : c ≠ b) : At w' c cs t := (h.block c ha.lt hc).trans ha
theorem PaI.kept {b g i : Nat} {s : ByteArray} {w w' : World} (h : PaI b g s i w) (hb : Below w.heap.size w w') : PaI b g s i w' := ⟨h.at_.keptAll hb, h.tk.keptAll hb, h.ne⟩
theorem PaI.go {b g i : Nat} {s : ByteArray} {w : World} (h : PaI b g s i w) (j : Int) (k : Nat) (hj : j = (k : Int)) : PaI b g s k (w.setCell ⟨b, 1, none⟩ (.int .i64 j)) := by
 subst hj
 exact ⟨by simpa using h.at_.set 1 (.int .i64 (k : Int)), h.tk.other (p := ⟨b, 1, none⟩) h.ne _, h.ne⟩
theorem PaI.drew {b g i : Nat} {s : ByteArray} {w : World} (h : PaI b g s i w) (n : Nat) : PaI b g s i (w.drewN n) := ⟨h.at_.drewN n, h.tk.drewN n, h.ne⟩
/-- Where a parser in memory stands. -/
def atP (b : Nat) (w : World) : Nat := match w.cell? ⟨b, 1, none⟩ with
 | some (.int _ n) => n.toNat
 | _ => 0
theorem PaI.atP {b g i : Nat} {s : ByteArray} {w : World} (h : PaI b g s i w) : atP b w = i := by
 unfold Go.Proofs.YtkejlejhnnjdkaaGreatDoor.atP
 rw [show w.cell? ⟨b, 1, none⟩ = some (.int .i64 (i : Int)) from h.at_.cell 1]
 simp
/-- Which kind begins with a byte. -/
def kindC (c : Nat) : Int := if c = 110 then 1 else if c = 116 ∨ c = 102 then 2 else if c = 34 then 4 else if c = 91 then 5 else if c = 123 then 6 else 3
set_option maxRecDepth 10000 in
set_option maxHeartbeats 4000000 in
theorem kind17_calls (c : Nat) (w : World) : Calls Tryz.prog 33 #[.int .u8 (c : Int)] w fun e w' => e = .returned (.int .i64 (kindC c)) ∧ w' = w := by
 unfold kindC
 by_cases h1 : c = 110
 ·subst h1
  go_enter Tryz.func33, Tryz.ntmps33
  go_wp2
  go_ret
  exact ⟨rfl, rfl⟩
 have e1 : ((c : Int) == 110) = false := by simp; omega
 rw [if_neg h1]
 by_cases h2 : c = 116
 ·subst h2
  go_enter Tryz.func33, Tryz.ntmps33
  go_wp2
  go_ret
  exact ⟨rfl, rfl⟩
 have e2 : ((c : Int) == 116) = false := by simp; omega
 by_cases h3 : c = 102
 ·subst h3
  go_enter Tryz.func33, Tryz.ntmps33
  go_wp2
  go_ret
  exact ⟨rfl, rfl⟩
 have e3 : ((c : Int) == 102) = false := by simp; omega
 rw [if_neg (by omega)]
 by_cases h4 : c = 34
 ·subst h4
  go_enter Tryz.func33, Tryz.ntmps33
  go_wp2
  go_ret
  exact ⟨rfl, rfl⟩
 have e4 : ((c : Int) == 34) = false := by simp; omega
 rw [if_neg h4]
 by_cases h5 : c = 91
 ·subst h5
  go_enter Tryz.func33, Tryz.ntmps33
  go_wp2
  go_ret
  exact ⟨rfl, rfl⟩
 have e5 : ((c : Int) == 91) = false := by simp; omega
 rw [if_neg h5]
 by_cases h6 : c = 123
 ·subst h6
  go_enter Tryz.func33, Tryz.ntmps33
  go_wp2
  go_ret
  exact ⟨rfl, rfl⟩
 have e6 : ((c : Int) == 123) = false := by simp; omega
 rw [if_neg h6]
 clear h1 h2 h3 h4 h5 h6
 go_enter Tryz.func33, Tryz.ntmps33
 go_wp2
 go_ret
 exact ⟨rfl, rfl⟩
set_option maxRecDepth 10000 in
set_option maxHeartbeats 4000000 in
theorem blanksP_calls (b g : Nat) (s : ByteArray) (hs : s.size ≤ 281474976710656) (i k : Nat) (hk : Hid (IsSkip s i k)) (hks : k < s.size) (w : World) (hP : Hid (PaI b g s i w)) :
  Calls Tryz.prog 32 #[.pointer (some ⟨b, 0, none⟩)] w fun e w' => e = .returned (.tuple #[]) ∧ PaI b g s k w' ∧ PFr b w w' := by
 have hsi : (s.size : Int) ≤ 281474976710656 := by omega
 obtain ⟨k1, k2, k3, k4⟩ := hk.out
 have k3' := hid k3
 have k4' : Hid (blankN (byteAt s k) = false) := by
  rcases k4 with h | h
  ·omega
  ·exact h
 clear k3 k4 hk
 have c0 : w.cell? ⟨b, 0, none⟩ = some (.string s) := hP.out.at_.cell 0
 have c1 : w.cell? ⟨b, 1, none⟩ = some (.int .i64 (i : Int)) := hP.out.at_.cell 1
 have his : i < s.size := by omega
 have hii : (i : Int) < (s.size : Int) := by omega
 obtain ⟨y0, hY0⟩ : ∃ y, Hid (byteAt s i = y) := ⟨_, rfl⟩
 have hy0 := byteAt_eq s i his
 rw [hY0.out] at hy0
 go_enter Tryz.func32, Tryz.ntmps32
 go_wp2
 go_quiet (fail)
 go_wp2_with fail
 clear c0 c1
 go_loopw [2] (fun x wr => ∃ (q y : Nat), i ≤ q ∧ q ≤ k ∧ x = .int .u8 (y : Int) ∧ Hid (byteAt s q = y) ∧ Hid (PaI b g s q wr) ∧ Hid (PFr b w wr)) (fun _ wr => k - atP b wr)
 case atStart => exact ⟨i, y0, Nat.le_refl _, k1, rfl, hY0, hid (hP.out.drew _), hid (PFr.of_below (below_drewN (Below.refl _ _) _))⟩
 case round =>
  obtain ⟨q, y, hq1, hq2, rfl, hY, hP, hF⟩ := hrel
  have hyl : y < 256 := by rw [← hY.out, ← byteAt_eq s q (by omega)]; exact (s[q]'(by omega)).toNat_lt
  by_cases hqe : q = k
  ·subst hqe
   have hb0 : blankN y = false := by rw [← hY.out]; exact k4'.out
   have hb1 : ¬ (y = 32 ∨ y = 9 ∨ y = 10 ∨ y = 13) := by simpa [blankN] using hb0
   have e1 : ((y : Int) == 32) = false := by simp; omega
   have e2 : ((y : Int) == 9) = false := by simp; omega
   have e3 : ((y : Int) == 10) = false := by simp; omega
   have e4 : ((y : Int) == 13) = false := by simp; omega
   clear hb0 hb1
   go_wp2
   go_end0
   exact ⟨rfl, hP.out, hF.out⟩
  ·have hb0 : blankN y = true := by rw [← hY.out]; exact k3'.out q hq1 (by omega)
   have hb1 : y = 32 ∨ y = 9 ∨ y = 10 ∨ y = 13 := by simpa [blankN] using hb0
   have hqs : q + 1 < s.size := by omega
   have hqi : (q : Int) + 1 < (s.size : Int) := by omega
   obtain ⟨y1, hY1⟩ : ∃ y, Hid (byteAt s (q + 1) = y) := ⟨_, rfl⟩
   have hy1 := byteAt_eq s (q + 1) hqs
   rw [hY1.out] at hy1
   have c0 : wr.cell? ⟨b, 0, none⟩ = some (.string s) := hP.out.at_.cell 0
   have c1 : wr.cell? ⟨b, 1, none⟩ = some (.int .i64 (q : Int)) := hP.out.at_.cell 1
   have f1 := hP.out.at_.frozen 1
   have P2 := hid (hP.out.go ((q : Int) + 1) (q + 1) (by omega))
   have F2 := hid (hF.out.set 1 (.int .i64 ((q : Int) + 1)))
   have hat := hid (hP.out.atP)
   clear hb0 hP hF
   rcases hb1 with rfl | rfl | rfl | rfl
   all_goals
    go_upto_region 2 with fail
    generalize wr.setCell ⟨b, 1, none⟩ (.int .i64 ((q : Int) + 1)) = w2 at P2 F2 ⊢
    have d0 : w2.cell? ⟨b, 0, none⟩ = some (.string s) := P2.out.at_.cell 0
    have d1 : w2.cell? ⟨b, 1, none⟩ = some (.int .i64 ((q : Int) + 1)) := by have := P2.out.at_.cell 1; push_cast at this; exact this
    go_quiet (fail)
    go_wp2
    go_roundw
    case rel => exact ⟨q + 1, y1, by omega, by omega, rfl, hY1, hid (P2.out.drew _), hid (F2.out.trans (PFr.of_below (below_drewN (Below.refl _ _) _)))⟩
    case measure => rw [hat.out, (P2.out.drew _).atP]; omega
end Go.Proofs.YtkejlejhnnjdkaaGreatDoor
