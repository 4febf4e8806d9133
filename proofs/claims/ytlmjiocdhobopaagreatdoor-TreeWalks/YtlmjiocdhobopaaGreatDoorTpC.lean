/-
 tree.Formed: bare, keysFormed, kidsFormed, formed.
-/
import Derived.Test.YtlmjiocdhobopaaGreatDoorTpA
import Derived.Test.YtlmjiocdhobopaaGreatDoorPack4
import Derived.Test.YtlmjiocdhobopaaGreatDoorTrHA
import Derived.Test.YtlmjiocdhobopaaGreatDoorShelfV
namespace Go.Proofs.YtlmjiocdhobopaaGreatDoor
open Go.RowKit Go.Shelf
/-- The language's own tables of UTF-8 are as they are laid. -/
def TabU (w : World) : Prop := Lib.Utf8Tabs (Tryz.lays196_ren.g 3) (Tryz.lays196_ren.g 4) w
theorem TabU.below {w w' : World} (h : TabU w) (hb : Below w.heap.size w w') : TabU w' := Utf8Tabs_below h hb
theorem belowC {w W w1 : World} (h : Below w.heap.size w W) (hb : Below W.heap.size W w1) : Below w.heap.size w w1 := h.trans (hb.mono h.size)
theorem validS_calls (s : ByteArray) (hs : s.size ≤ 9223372036854775807) (B : Bool) (hB : Hid (decide (badOf s = -1) = B)) (w : World) (hT : TabU w) :
  Calls Tryz.prog 32 #[.string s] w fun e w' => e = .returned (.bool B) ∧ Below w.heap.size w w' := by
 have h : Calls Tryz.prog 32 _ _ _ := Any.utf8_ValidString Tryz.lays196 s w hs hT
 rw [valid_bad, hB.out] at h
 exact h
/-- Nothing beside the kind. -/
def bareB (b : Bool) (r t : ByteArray) (N M : Nat) : Bool := !b && ((r.toList == []) && ((t.toList == []) && (decide (N = 0) && decide (M = 0))))
set_option maxRecDepth 10000 in
set_option maxHeartbeats 4000000 in
theorem bare_calls (k : Int) (b : Bool) (r t : ByteArray) (ko : Option Addr) (N kc : Nat) (vo : Option Addr) (M vc : Nat) (B : Bool) (hB : Hid (bareB b r t N M = B)) (w : World) :
  Calls Tryz.prog 30 #[.agg #[.int .i64 k, .bool b, .string r, .string t, .slice ko N kc, .slice vo M vc]] w fun e w' => e = .returned (.bool B) ∧ Below w.heap.size w w' := by
 rw [← hB.out, bareB]
 clear hB
 go_enter Tryz.func30, Tryz.ntmps30
 go_wp2
 all_goals go_ret
 all_goals (refine ⟨?_, by repeat (first | with_reducible exact Below.refl _ _ | with_reducible refine Below.setCell ?_ (by first | (simp; done) | (simp; omega)) _ | with_reducible refine below_drewN ?_ _ | with_reducible refine Below.alloc ?_ (by first | (simp; done) | (simp; omega)) _ | with_reducible refine Below.drew ?_)⟩)
 all_goals (first | (simp_all [Array.getD]; done) | (simp_all [Array.getD]; rw [Bool.eq_iff_iff]; simp; done))
set_option maxRecDepth 10000 in
set_option maxHeartbeats 4000000 in
theorem keysF_calls (ks : List ByteArray) (ko : Option Addr) (N kc : Nat) (hN : Hid (ks.length = N)) (hNc : N ≤ capT) (B : Bool) (hB : Hid (allB ks = B)) (w : World) (hT : Hid (TabU w)) (hk : Hid (KeysAt w ko ks)) :
  Calls Tryz.prog 34 #[.slice ko N kc] w fun e w' => e = .returned (.bool B) ∧ Below w.heap.size w w' := by
 have hNi : (N : Int) ≤ 9223372036854775807 := by unfold capT at hNc; omega
 clear hNc
 go_enter Tryz.func34, Tryz.ntmps34
 go_wp2
 go_loopw [7] (fun ii wr => ∃ i : Nat, i ≤ N ∧ ii = .int .i64 (i : Int) ∧ Hid (B = allB (ks.drop i)) ∧ Hid (Below w.heap.size w wr)) (fun ii _ => N - (intOf ii).toNat)
 case atStart => exact ⟨0, Nat.zero_le _, rfl, hid (by show _ = _; rw [← hB.out]; rfl), hid (Below.refl _ _)⟩
 case round =>
  obtain ⟨i, hi, rfl, hI, hb⟩ := hrel
  by_cases hlt : i < N
  ·have hli : (i : Int) < (N : Int) := by omega
   obtain ⟨s, hu1⟩ : ∃ u, Hid (ks[i]? = some u) := ⟨_, List.getElem?_eq_getElem (by rw [hN.out]; exact hlt)⟩
   obtain ⟨hs, g, o, rfl, hg, hc⟩ := (hk.out.kept hb.out) i s hu1.out
   obtain ⟨V, hV⟩ : ∃ V, Hid (decide (badOf s = -1) = V) := ⟨_, rfl⟩
   have hcall := hid (validS_calls s (by unfold capT at hs; omega) V hV wr (hT.out.below hb.out))
   have hnx : Hid (B = (V && allB (ks.drop (i + 1)))) := by
    show _ = _
    rw [hI.out, drop_some hu1.out, ← hV.out]
    simp [allB]
   clear hs hI hg
   go_wp2_with fail
   refine Calls.mono hcall.out ?_
   rintro e w5 ⟨rfl, hbb⟩
   have Jb := hid (belowC hb.out (hbb))
   clear hbb hcall hc hb
   cases V with
   | true =>
    have hnx2 : Hid (B = allB (ks.drop (i + 1))) := by show _ = _; rw [hnx.out]; rfl
    go_wp2
    go_roundw
    case rel => exact ⟨i + 1, by omega, by simp, hnx2, Jb⟩
    case measure => simp [intOf]; omega
   | false =>
    have hfin : Hid (B = false) := by show _ = _; rw [hnx.out]; rfl
    go_wp2
    go_ret
    exact ⟨by rw [hfin.out]; rfl, Jb.out⟩
  ·have hge : (N : Int) ≤ (i : Int) := by omega
   have hfin : Hid (B = true) := by
    show _ = _
    rw [hI.out, List.drop_of_length_le (by rw [hN.out]; omega)]
    rfl
   go_wp2
   go_ret
   exact ⟨by rw [hfin.out]; rfl, hb.out⟩
set_option maxRecDepth 10000 in
set_option maxHeartbeats 4000000 in
/-- The parts, where formed is known of each. -/
theorem kidsF_of (vs : List Vt) (l : Int) (hl1 : 0 ≤ l) (hl2 : l ≤ 1024)
  (ih : Hid (∀ (u : Vt) (i : Nat), vs[i]? = some u → ∀ (va : Value) (w : World), TabU w → ValAt w u va → 1 ≤ l → Calls Tryz.prog 22 #[va, .int .i64 (l - 1)] w fun e w' => e = .returned (.bool (wfV u (l - 1))) ∧ Below w.heap.size w w'))
  (vo : Option Addr) (M vc : Nat) (hM : Hid (vs.length = M)) (hMc : M ≤ capT) (X : Nat → Array Value) (w : World) (hT : Hid (TabU w)) (hr : Hid (RowAt w vo M X)) (hv : Hid (∀ (i : Nat) (u : Vt), vs[i]? = some u → ValAt w u (.agg (X i)))) (B : Bool) (hB : Hid ((!decide (l = 0) && wfL vs (l - 1)) = B)) :
  Calls Tryz.prog 33 #[.slice vo M vc, .int .i64 l] w fun e w' => e = .returned (.bool B) ∧ Below w.heap.size w w' := by
 have hMi : (M : Int) ≤ 9223372036854775807 := by unfold capT at hMc; omega
 clear hMc
 by_cases h0 : l = 0
 ·subst h0
  have hfin : Hid (B = false) := by show _ = _; rw [← hB.out]; simp
  clear hB hl1 hl2 ih
  go_enter Tryz.func33, Tryz.ntmps33
  go_wp2
  go_ret
  exact ⟨by rw [hfin.out]; rfl, Below.refl _ _⟩
 ·have hl0 : (l == 0) = false := by simp [h0]
  have hlp : 1 ≤ l := by omega
  have hB2 : Hid (B = wfL vs (l - 1)) := by show _ = _; rw [← hB.out, decide_eq_false h0]; rfl
  clear hB h0 hl1
  go_enter Tryz.func33, Tryz.ntmps33
  go_wp2
  go_loopw [11] (fun ii wr => ∃ i : Nat, i ≤ M ∧ ii = .int .i64 (i : Int) ∧ Hid (B = wfL (vs.drop i) (l - 1)) ∧ Hid (Below w.heap.size w wr)) (fun ii _ => M - (intOf ii).toNat)
  case atStart => exact ⟨0, Nat.zero_le _, rfl, hB2, hid (Below.refl _ _)⟩
  case round =>
   obtain ⟨i, hi, rfl, hI, hb⟩ := hrel
   by_cases hlt : i < M
   ·have hli : (i : Int) < (M : Int) := by omega
    obtain ⟨u1, hu1⟩ : ∃ u, Hid (vs[i]? = some u) := ⟨_, List.getElem?_eq_getElem (by rw [hM.out]; exact hlt)⟩
    obtain ⟨g, o, rfl, hg, hrg, hl1'⟩ := row_range (hr.out.kept hb.out) (i := i) hlt
    obtain ⟨L1, hL1⟩ : ∃ L, Hid ((X i).toList = L) := ⟨_, rfl⟩
    rw [hL1.out] at hrg hl1'
    have z1 : (Tryz.prog.info? 25).map (·.size) = some L1.length := by rw [hl1']; exact sizeVl
    have v1 : Hid (ValAt wr u1 (.agg L1.toArray)) := by
     have := (hv.out i u1 hu1.out).kept hb.out
     rw [← hL1.out, Array.toArray_toList]
     exact this
    obtain ⟨q, hq⟩ : ∃ q, Hid (wfV u1 (l - 1) = q) := ⟨_, rfl⟩
    have hcall : Hid (∀ wq : World, Below wr.heap.size wr wq → Calls Tryz.prog 22 #[.agg L1.toArray, .int .i64 (l - 1)] wq fun e w' => e = .returned (.bool q) ∧ Below wq.heap.size wq w') := fun wq hwq => by
     have h := ih.out u1 i hu1.out _ wq (hT.out.below (belowC hb.out hwq)) (v1.out.kept hwq) hlp
     rw [hq.out] at h
     exact h
    have hnx := hid (hI.out.trans (wfL_drop (l - 1) hu1.out))
    rw [hq.out] at hnx
    obtain ⟨k1, b1, r1, t1, ko1, N1, kc1, vo1, M1, vc1, rfl⟩ := v1.out.six
    have hrgk := hid hrg
    have Bx : Hid (Below wr.heap.size wr (wr.alloc (.cells #[.int .i64 k1, .bool b1, .string r1, .string t1, .slice ko1 N1 kc1, .slice vo1 M1 vc1] 25))) := (Below.refl _ wr).alloc (Nat.le_refl _) _
    clear hrg hl1' hI
    go_wp2_with (first | refine wpList_load_want 25 _ g (o + i * 6) [.int .i64 k1, .bool b1, .string r1, .string t1, .slice ko1 N1 kc1, .slice vo1 M1 vc1] _ hrgk.out Tryz.underlying25 z1 rfl rfl rfl (by rfl) ?_ | fail)
    refine Calls.mono (hcall.out _ Bx.out) ?_
    rintro e w5 ⟨rfl, hbb⟩
    have Jb := hid (belowC hb.out (belowC Bx.out hbb))
    clear hbb hcall hrgk Bx hb
    cases q with
    | true =>
     have hnx2 : Hid (B = wfL (vs.drop (i + 1)) (l - 1)) := by show _ = _; rw [hnx.out]; rfl
     go_wp2
     go_roundw
     case rel => exact ⟨i + 1, by omega, by simp, hnx2, Jb⟩
     case measure => simp [intOf]; omega
    | false =>
     have hfin : Hid (B = false) := by show _ = _; rw [hnx.out]; rfl
     go_wp2
     go_ret
     exact ⟨by rw [hfin.out]; rfl, Jb.out⟩
   ·have hge : (M : Int) ≤ (i : Int) := by omega
    have hfin : Hid (B = true) := by
     show _ = _
     rw [hI.out, List.drop_of_length_le (by rw [hM.out]; omega)]
     unfold wfL
     rfl
    go_wp2
    go_ret
    exact ⟨by rw [hfin.out]; rfl, hb.out⟩
end Go.Proofs.YtlmjiocdhobopaaGreatDoor
