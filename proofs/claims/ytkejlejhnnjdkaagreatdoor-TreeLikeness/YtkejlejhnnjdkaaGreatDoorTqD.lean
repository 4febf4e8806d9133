/-
  The parser's small functions: null, truth, goesOn, quoted, text, number (by gen_tqd.py).
-/
import Derived.Test.YtkejlejhnnjdkaaGreatDoorPack8
import Derived.Test.YtkejlejhnnjdkaaGreatDoorTqE
import Derived.Test.YtkejlejhnnjdkaaGreatDoorTpF2
import Derived.Test.YtkejlejhnnjdkaaGreatDoorTxProg
import Derived.Test.YtkejlejhnnjdkaaGreatDoorDecR
namespace Go.Proofs.YtkejlejhnnjdkaaGreatDoor
open Go.RowKit Go.Shelf
/-- What a call that takes a value leaves. -/
def ParP (b g : Nat) (s : ByteArray) (j : Nat) (t : Vt) (w : World) (e : Ending) (w' : World) : Prop := ∃ x : Value, e = .returned x ∧ ValOn (fun c => w.heap.size ≤ c) w' t x ∧ PaI b g s j w' ∧ PFr b w w'
theorem PaI.same {b g i p : Nat} {s : ByteArray} {w w' : World} (h : PaI b g s i w) (hs : SameOn (fun c => c ≠ p) w w') (hb : b ≠ p) (hg : g ≠ p) : PaI b g s i w' :=
  ⟨(hs.2 b hb h.at_.lt).trans h.at_, (hs.2 g hg h.tk.lt).trans h.tk, h.ne⟩
theorem PFr.setO {b p : Nat} {w W : World} (h : PFr b w W) (hp : w.heap.size ≤ p) (k : Nat) (v : Value) : PFr b w (W.setCell ⟨p, k, none⟩ v) :=
  ⟨h.os, h.tape, h.output, by simpa using h.size, fun i hi hb => (Below.heap_setCell W ⟨p, k, none⟩ v i (show i ≠ p by omega)).trans (h.block i hi hb)⟩
theorem PFr.six {b p : Nat} {w W : World} (h : PFr b w W) (hp : w.heap.size ≤ p) (y0 y1 y2 y3 y4 y5 : Value) : PFr b w ((((((W.setCell ⟨p, 0, none⟩ y0).setCell ⟨p, 1, none⟩ y1).setCell ⟨p, 2, none⟩ y2).setCell ⟨p, 3, none⟩ y3).setCell ⟨p, 4, none⟩ y4).setCell ⟨p, 5, none⟩ y5) :=
  (((((h.setO hp _ _).setO hp _ _).setO hp _ _).setO hp _ _).setO hp _ _).setO hp _ _
/-- What goesOn leaves. -/
def GoP (b g : Nat) (s : ByteArray) (k c : Nat) (w : World) (e : Ending) (w' : World) : Prop := (byteAt s k = c ∧ e = .returned (.bool false) ∧ PaI b g s (k + 1) w' ∧ PFr b w w') ∨ (byteAt s k ≠ c ∧ e = .returned (.bool true) ∧ PaI b g s (if byteAt s k = 44 then k + 1 else k) w' ∧ PFr b w w')
theorem leafOn (S : Nat → Prop) (w : World) (k : Int) (b : Bool) (r t : ByteArray) (hw : (Lit.int .i64 k).wf = true) (hr : r.size ≤ capT) (ht : t.size ≤ capT) : ValOn S w (.mk k b r t [] []) (.agg #[.int .i64 k, .bool b, .string r, .string t, .slice none 0 0, .slice none 0 0]) :=
  .mk k b r t [] [] none 0 none 0 (fun _ => #[]) hw ⟨hr, ht, Nat.zero_le _, Nat.zero_le _⟩ (fun i s h => by simp at h) (fun i h => by simp at h) (fun i u h => by simp at h)
set_option maxRecDepth 10000 in
set_option maxHeartbeats 4000000 in
theorem nullP_calls (b g : Nat) (s : ByteArray) (hs : s.size ≤ 281474976710656) (i : Nat) (hi : i + 4 ≤ s.size) (w : World) (hP : Hid (PaI b g s i w)) :
    Calls Tryz.prog 26 #[.pointer (some ⟨b, 0, none⟩)] w fun e w' => ParP b g s (i + 4) (.mk 1 false ⟨#[]⟩ ⟨#[]⟩ [] []) w e w' := by
  have hii : (i : Int) + 4 ≤ 281474976710656 := by omega
  have hlb := hP.out.at_.lt
  have hlg := hP.out.tk.lt
  have A0 := hid (At.new w #[.int .i64 0, .bool false, .string ⟨#[]⟩, .string ⟨#[]⟩, .slice none 0 0, .slice none 0 0] 25)
  have q0 : Below w.heap.size w (w.alloc (.cells #[.int .i64 0, .bool false, .string ⟨#[]⟩, .string ⟨#[]⟩, .slice none 0 0, .slice none 0 0] 25)) := (Below.refl _ w).alloc (Nat.le_refl _) _
  have P0 := hid (hP.out.kept q0)
  have F0 := hid (PFr.of_below (b := b) q0)
  obtain ⟨p, hp⟩ : ∃ p, Hid (w.heap.size = p) := ⟨_, rfl⟩
  have hpb : Hid (b ≠ p) := by show b ≠ p; have := hp.out; omega
  have hpg : Hid (g ≠ p) := by show g ≠ p; have := hp.out; omega
  rw [hp.out] at A0
  clear q0 hlb hlg
  go_enter Tryz.func26, Tryz.ntmps26
  go_upto_region 1 with fail
  rw [hp.out]
  generalize w.alloc (.cells #[.int .i64 0, .bool false, .string ⟨#[]⟩, .string ⟨#[]⟩, .slice none 0 0, .slice none 0 0] 25) = W1 at A0 P0 F0 ⊢
  have c1 : W1.cell? ⟨b, 1, none⟩ = some (.int .i64 (i : Int)) := P0.out.at_.cell 1
  have g1 := P0.out.at_.frozen 1
  have A2 := hid (A0.out.other (p := ⟨b, 1, none⟩) (Ne.symm hpb.out) (.int .i64 ((i : Int) + 4)))
  have P2 := hid (P0.out.go ((i : Int) + 4) (i + 4) (by omega))
  have F2 := hid (F0.out.set 1 (.int .i64 ((i : Int) + 4)))
  go_upto_region 2 with fail
  generalize W1.setCell ⟨b, 1, none⟩ (.int .i64 ((i : Int) + 4)) = W2 at A2 P2 F2 ⊢
  clear c1 g1 A0 P0 F0
  have d0 := A2.out.cell 0
  have d1 := A2.out.cell 1
  have d2 := A2.out.cell 2
  have d3 := A2.out.cell 3
  have d4 := A2.out.cell 4
  have d5 := A2.out.cell 5
  simp only [List.getElem?_toArray, List.getElem?_cons_zero, List.getElem?_cons_succ] at d0 d1 d2 d3 d4 d5
  have f0 := A2.out.frozen 0
  have f1 := A2.out.frozen 1
  have f2 := A2.out.frozen 2
  have f3 := A2.out.frozen 3
  have f4 := A2.out.frozen 4
  have f5 := A2.out.frozen 5
  go_wp2
  refine ret_val1 (p := 2) rfl rfl (A2.out.six) rfl ?_
  exact ⟨_, rfl, leafOn _ _ _ _ _ _ (by decide) (by first | decide | assumption) (by first | decide | assumption), P2.out.same same_six hpb.out hpg.out, F2.out.six (Nat.le_of_eq hp.out) _ _ _ _ _ _⟩
set_option maxRecDepth 10000 in
set_option maxHeartbeats 4000000 in
theorem truthP_no (b g : Nat) (s : ByteArray) (hs : s.size ≤ 281474976710656) (i : Nat) (hi : i + 5 ≤ s.size) (hc : Hid (byteAt s i = 102)) (w : World) (hP : Hid (PaI b g s i w)) :
    Calls Tryz.prog 27 #[.pointer (some ⟨b, 0, none⟩)] w fun e w' => ParP b g s (i + 5) (.mk 2 false ⟨#[]⟩ ⟨#[]⟩ [] []) w e w' := by
  have hii : (i : Int) + 5 ≤ 281474976710656 := by omega
  have his : i < s.size := by omega
  have hisi : (i : Int) < (s.size : Int) := by omega
  have hy := byteAt_eq s i his
  rw [hc.out] at hy
  have hlb := hP.out.at_.lt
  have hlg := hP.out.tk.lt
  have A0 := hid (At.new w #[.int .i64 0, .bool false, .string ⟨#[]⟩, .string ⟨#[]⟩, .slice none 0 0, .slice none 0 0] 25)
  have q0 : Below w.heap.size w (w.alloc (.cells #[.int .i64 0, .bool false, .string ⟨#[]⟩, .string ⟨#[]⟩, .slice none 0 0, .slice none 0 0] 25)) := (Below.refl _ w).alloc (Nat.le_refl _) _
  have P0 := hid (hP.out.kept q0)
  have F0 := hid (PFr.of_below (b := b) q0)
  obtain ⟨p, hp⟩ : ∃ p, Hid (w.heap.size = p) := ⟨_, rfl⟩
  have hpb : Hid (b ≠ p) := by show b ≠ p; have := hp.out; omega
  have hpg : Hid (g ≠ p) := by show g ≠ p; have := hp.out; omega
  rw [hp.out] at A0
  clear q0 hlb hlg
  go_enter Tryz.func27, Tryz.ntmps27
  go_upto_region 1 with fail
  rw [hp.out]
  generalize w.alloc (.cells #[.int .i64 0, .bool false, .string ⟨#[]⟩, .string ⟨#[]⟩, .slice none 0 0, .slice none 0 0] 25) = W1 at A0 P0 F0 ⊢
  have c0 : W1.cell? ⟨b, 0, none⟩ = some (.string s) := P0.out.at_.cell 0
  have c1 : W1.cell? ⟨b, 1, none⟩ = some (.int .i64 (i : Int)) := P0.out.at_.cell 1
  go_wp2
  refine wp_region_quiet (C := (fun w' => w'.cell? ⟨b, 0, none⟩ = some (.string s) ∧ w'.cell? ⟨b, 1, none⟩ = some (.int .i64 (i : Int)) ∧ Below W1.heap.size W1 w')) (by kernel_rfl) (by kernel_rfl) (⟨c0, c1, (Below.refl _ _).drew⟩) ?_
  dsimp only
  repeat (first
    | (refine wpQuiet_skip (by rfl) ?_; simp only [Act.put, List.setIfInBounds_toArray, List.set_cons_zero, List.set_cons_succ])
    | (refine' wpQuiet_take (by rfl) ?_ ?_
       rotate_left
       · (intro wq hq; (try dsimp only at hq); go_simp
          first
            | done
            | with_reducible rfl
         )
       simp only [Act.put, List.setIfInBounds_toArray, List.set_cons_zero, List.set_cons_succ]))
  refine wpQuiet_nil ?_
  intro w5 hw5
  have A1 := hid (A0.out.keptAll hw5.2.2)
  have P1 := hid (P0.out.kept hw5.2.2)
  have F1 := hid (F0.out.trans (PFr.of_below hw5.2.2))
  clear hw5 c0 c1 A0 P0 F0
  have c1 : w5.cell? ⟨b, 1, none⟩ = some (.int .i64 (i : Int)) := P1.out.at_.cell 1
  have g1 := P1.out.at_.frozen 1
  have A2 := hid (A1.out.other (p := ⟨b, 1, none⟩) (Ne.symm hpb.out) (.int .i64 ((i : Int) + 5)))
  have P2 := hid (P1.out.go ((i : Int) + 5) (i + 5) (by omega))
  have F2 := hid (F1.out.set 1 (.int .i64 ((i : Int) + 5)))
  go_upto_region 3 with fail
  generalize w5.setCell ⟨b, 1, none⟩ (.int .i64 ((i : Int) + 5)) = W2 at A2 P2 F2 ⊢
  clear c1 g1 A1 P1 F1
  have d0 := A2.out.cell 0
  have d1 := A2.out.cell 1
  have d2 := A2.out.cell 2
  have d3 := A2.out.cell 3
  have d4 := A2.out.cell 4
  have d5 := A2.out.cell 5
  simp only [List.getElem?_toArray, List.getElem?_cons_zero, List.getElem?_cons_succ] at d0 d1 d2 d3 d4 d5
  have f0 := A2.out.frozen 0
  have f1 := A2.out.frozen 1
  have f2 := A2.out.frozen 2
  have f3 := A2.out.frozen 3
  have f4 := A2.out.frozen 4
  have f5 := A2.out.frozen 5
  go_wp2
  refine ret_val1 (p := 2) rfl rfl (A2.out.six) rfl ?_
  exact ⟨_, rfl, leafOn _ _ _ _ _ _ (by decide) (by first | decide | assumption) (by first | decide | assumption), P2.out.same same_six hpb.out hpg.out, F2.out.six (Nat.le_of_eq hp.out) _ _ _ _ _ _⟩
set_option maxRecDepth 10000 in
set_option maxHeartbeats 4000000 in
theorem truthP_yes (b g : Nat) (s : ByteArray) (hs : s.size ≤ 281474976710656) (i : Nat) (hi : i + 4 ≤ s.size) (hc : Hid (byteAt s i = 116)) (w : World) (hP : Hid (PaI b g s i w)) :
    Calls Tryz.prog 27 #[.pointer (some ⟨b, 0, none⟩)] w fun e w' => ParP b g s (i + 4) (.mk 2 true ⟨#[]⟩ ⟨#[]⟩ [] []) w e w' := by
  have hii : (i : Int) + 4 ≤ 281474976710656 := by omega
  have his : i < s.size := by omega
  have hisi : (i : Int) < (s.size : Int) := by omega
  have hy := byteAt_eq s i his
  rw [hc.out] at hy
  have hlb := hP.out.at_.lt
  have hlg := hP.out.tk.lt
  have A0 := hid (At.new w #[.int .i64 0, .bool false, .string ⟨#[]⟩, .string ⟨#[]⟩, .slice none 0 0, .slice none 0 0] 25)
  have q0 : Below w.heap.size w (w.alloc (.cells #[.int .i64 0, .bool false, .string ⟨#[]⟩, .string ⟨#[]⟩, .slice none 0 0, .slice none 0 0] 25)) := (Below.refl _ w).alloc (Nat.le_refl _) _
  have P0 := hid (hP.out.kept q0)
  have F0 := hid (PFr.of_below (b := b) q0)
  obtain ⟨p, hp⟩ : ∃ p, Hid (w.heap.size = p) := ⟨_, rfl⟩
  have hpb : Hid (b ≠ p) := by show b ≠ p; have := hp.out; omega
  have hpg : Hid (g ≠ p) := by show g ≠ p; have := hp.out; omega
  rw [hp.out] at A0
  clear q0 hlb hlg
  go_enter Tryz.func27, Tryz.ntmps27
  go_upto_region 1 with fail
  rw [hp.out]
  generalize w.alloc (.cells #[.int .i64 0, .bool false, .string ⟨#[]⟩, .string ⟨#[]⟩, .slice none 0 0, .slice none 0 0] 25) = W1 at A0 P0 F0 ⊢
  have c0 : W1.cell? ⟨b, 0, none⟩ = some (.string s) := P0.out.at_.cell 0
  have c1 : W1.cell? ⟨b, 1, none⟩ = some (.int .i64 (i : Int)) := P0.out.at_.cell 1
  go_wp2
  refine wp_region_quiet (C := (fun w' => w'.cell? ⟨b, 0, none⟩ = some (.string s) ∧ w'.cell? ⟨b, 1, none⟩ = some (.int .i64 (i : Int)) ∧ Below W1.heap.size W1 w')) (by kernel_rfl) (by kernel_rfl) (⟨c0, c1, (Below.refl _ _).drew⟩) ?_
  dsimp only
  repeat (first
    | (refine wpQuiet_skip (by rfl) ?_; simp only [Act.put, List.setIfInBounds_toArray, List.set_cons_zero, List.set_cons_succ])
    | (refine' wpQuiet_take (by rfl) ?_ ?_
       rotate_left
       · (intro wq hq; (try dsimp only at hq); go_simp
          first
            | done
            | with_reducible rfl
         )
       simp only [Act.put, List.setIfInBounds_toArray, List.set_cons_zero, List.set_cons_succ]))
  refine wpQuiet_nil ?_
  intro w5 hw5
  have A1 := hid (A0.out.keptAll hw5.2.2)
  have P1 := hid (P0.out.kept hw5.2.2)
  have F1 := hid (F0.out.trans (PFr.of_below hw5.2.2))
  clear hw5 c0 c1 A0 P0 F0
  have c1 : w5.cell? ⟨b, 1, none⟩ = some (.int .i64 (i : Int)) := P1.out.at_.cell 1
  have g1 := P1.out.at_.frozen 1
  have A2 := hid (A1.out.other (p := ⟨b, 1, none⟩) (Ne.symm hpb.out) (.int .i64 ((i : Int) + 4)))
  have P2 := hid (P1.out.go ((i : Int) + 4) (i + 4) (by omega))
  have F2 := hid (F1.out.set 1 (.int .i64 ((i : Int) + 4)))
  go_upto_region 5 with fail
  generalize w5.setCell ⟨b, 1, none⟩ (.int .i64 ((i : Int) + 4)) = W2 at A2 P2 F2 ⊢
  clear c1 g1 A1 P1 F1
  have d0 := A2.out.cell 0
  have d1 := A2.out.cell 1
  have d2 := A2.out.cell 2
  have d3 := A2.out.cell 3
  have d4 := A2.out.cell 4
  have d5 := A2.out.cell 5
  simp only [List.getElem?_toArray, List.getElem?_cons_zero, List.getElem?_cons_succ] at d0 d1 d2 d3 d4 d5
  have f0 := A2.out.frozen 0
  have f1 := A2.out.frozen 1
  have f2 := A2.out.frozen 2
  have f3 := A2.out.frozen 3
  have f4 := A2.out.frozen 4
  have f5 := A2.out.frozen 5
  go_wp2
  refine ret_val1 (p := 2) rfl rfl (A2.out.six) rfl ?_
  exact ⟨_, rfl, leafOn _ _ _ _ _ _ (by decide) (by first | decide | assumption) (by first | decide | assumption), P2.out.same same_six hpb.out hpg.out, F2.out.six (Nat.le_of_eq hp.out) _ _ _ _ _ _⟩
set_option maxRecDepth 10000 in
set_option maxHeartbeats 4000000 in
theorem goesOnP_calls (b g : Nat) (s : ByteArray) (hs : s.size ≤ 281474976710656) (i k : Nat) (hk : Hid (IsSkip s i k)) (hks : k < s.size) (c : Nat) (w : World) (hP : Hid (PaI b g s i w)) :
    Calls Tryz.prog 53 #[.pointer (some ⟨b, 0, none⟩), .int .u8 (c : Int)] w fun e w' => GoP b g s k c w e w' := by
  have hbl := hid (blanksP_calls b g s hs i k hk hks w hP)
  have hsi : (s.size : Int) ≤ 281474976710656 := by omega
  have hki : (k : Int) < (s.size : Int) := by omega
  obtain ⟨y, hY⟩ : ∃ y, Hid (byteAt s k = y) := ⟨_, rfl⟩
  have hy := byteAt_eq s k hks
  rw [hY.out] at hy
  go_enter Tryz.func53, Tryz.ntmps53
  go_wp2_with fail
  refine Calls.mono hbl.out ?_
  rintro e w1 ⟨rfl, hP1, hF1⟩
  have P0 := hid hP1
  have F0 := hid hF1
  clear hbl hP1 hF1 hP
  have c0 : w1.cell? ⟨b, 0, none⟩ = some (.string s) := P0.out.at_.cell 0
  have c1 : w1.cell? ⟨b, 1, none⟩ = some (.int .i64 (k : Int)) := P0.out.at_.cell 1
  go_wp2
  refine wp_region_quiet (C := (fun w' => w'.cell? ⟨b, 0, none⟩ = some (.string s) ∧ w'.cell? ⟨b, 1, none⟩ = some (.int .i64 (k : Int)) ∧ Below w1.heap.size w1 w')) (by kernel_rfl) (by kernel_rfl) (⟨c0, c1, (Below.refl _ _).drew⟩) ?_
  dsimp only
  repeat (first
    | (refine wpQuiet_skip (by rfl) ?_; simp only [Act.put, List.setIfInBounds_toArray, List.set_cons_zero, List.set_cons_succ])
    | (refine' wpQuiet_take (by rfl) ?_ ?_
       rotate_left
       · (intro wq hq; (try dsimp only at hq); go_simp
          first
            | done
            | with_reducible rfl
         )
       simp only [Act.put, List.setIfInBounds_toArray, List.set_cons_zero, List.set_cons_succ]))
  refine wpQuiet_nil ?_
  intro w5 hw5
  have P1 := hid (P0.out.kept hw5.2.2)
  have F1 := hid (F0.out.trans (PFr.of_below hw5.2.2))
  clear hw5 c0 c1 P0 F0
  have c1 : w5.cell? ⟨b, 1, none⟩ = some (.int .i64 (k : Int)) := P1.out.at_.cell 1
  have g1 := P1.out.at_.frozen 1
  have P2 := hid (P1.out.go ((k : Int) + 1) (k + 1) (by omega))
  have F2 := hid (F1.out.set 1 (.int .i64 ((k : Int) + 1)))
  by_cases hyc : y = c
  · have e1 : ((y : Int) == (c : Int)) = true := by simp [hyc]
    have hyc' := hid hyc
    clear hyc
    go_wp2
    go_ret
    exact .inl ⟨hY.out.trans hyc'.out, rfl, P2.out, F2.out⟩
  · have e1 : ((y : Int) == (c : Int)) = false := by simp; omega
    have hyc' := hid hyc
    clear hyc
    by_cases h44 : y = 44
    · have e2 : ((y : Int) == 44) = true := by simp [h44]
      have h44' := hid h44
      clear h44
      go_wp2
      go_ret
      exact .inr ⟨by rw [hY.out]; exact hyc'.out, rfl, by rw [if_pos (hY.out.trans h44'.out)]; exact P2.out, F2.out⟩
    · have e2 : ((y : Int) == 44) = false := by simp; omega
      have h44' := hid h44
      clear h44
      go_wp2
      go_ret
      exact .inr ⟨by rw [hY.out]; exact hyc'.out, rfl, by rw [if_neg (by rw [hY.out]; exact h44'.out)]; exact P1.out, F1.out⟩
set_option maxRecDepth 10000 in
set_option maxHeartbeats 4000000 in
theorem quoted_calls (b g : Nat) (s : ByteArray) (hs : s.size ≤ 1048576) (i j : Nat) (T : ByteArray) (hT : Hid (Txt s i j T)) (w : World) (hP : Hid (PaI b g s i w)) :
    Calls Tryz.prog 52 #[.pointer (some ⟨b, 0, none⟩)] w fun e w' => e = .returned (.string T) ∧ PaI b g s j w' ∧ PFr b w w' := by
  obtain ⟨h1, e, hq, hj, hu⟩ := hT.out
  have hle := hq.le
  have hq' := hid hq
  have hj' := hid hj
  have hun := hid (fun u => un_calls (s.extract (i + 1) e) (by rw [ByteArray.size_extract]; omega) T (unS (s.extract (i + 1) e)).2 (hid (by rw [← hu])) u trivial)
  have hen := hid (fun u => end_calls s (by omega) ((i : Int) + 1) (by exact WalkArith.wf_i64 (by omega)) u trivial)
  have hei : (e : Int) < (s.size : Int) := by omega
  have hie : (i : Int) + 1 ≤ (e : Int) := by omega
  have hsi : (s.size : Int) ≤ 1048576 := by omega
  generalize (unS (s.extract (i + 1) e)).2 = E2 at hun
  clear h1 hq hj hu hT hle
  have c0 : w.cell? ⟨b, 0, none⟩ = some (.string s) := hP.out.at_.cell 0
  have c1 : w.cell? ⟨b, 1, none⟩ = some (.int .i64 (i : Int)) := hP.out.at_.cell 1
  go_enter Tryz.func52, Tryz.ntmps52
  go_wp2_with fail
  refine Calls.mono (hen.out _) ?_
  rintro r w1 ⟨⟨n, E, rfl, hE⟩, hb⟩
  obtain ⟨rfl, rfl⟩ := qe_isend hq'.out (by push_cast; exact hE)
  have P1 := hid (hP.out.kept hb)
  have F1 := hid (PFr.of_below (b := b) hb)
  clear hb hE hen hP c0 c1
  have c0 : w1.cell? ⟨b, 0, none⟩ = some (.string s) := P1.out.at_.cell 0
  have c1 : w1.cell? ⟨b, 1, none⟩ = some (.int .i64 (i : Int)) := P1.out.at_.cell 1
  go_wp2_with fail
  refine Calls.mono (hun.out _) ?_
  rintro r w2 ⟨rfl, hb⟩
  have P2 := hid (P1.out.kept hb)
  have F2 := hid (F1.out.trans (PFr.of_below hb))
  clear hb hun P1 F1 c0 c1
  have c1 : w2.cell? ⟨b, 1, none⟩ = some (.int .i64 (i : Int)) := P2.out.at_.cell 1
  have g1 := P2.out.at_.frozen 1
  have P3 := hid (P2.out.go ((e : Int) + 1) j (by rw [hj'.out]; omega))
  have F3 := hid (F2.out.set 1 (.int .i64 ((e : Int) + 1)))
  go_wp2
  go_ret
  exact ⟨rfl, P3.out, F3.out⟩
end Go.Proofs.YtkejlejhnnjdkaaGreatDoor
