/-
  What strings.CutPrefix, strings.ContainsAny answer (a minus ahead; a point, an e or an E in it).
-/
import Derived.Test.YtheeonlfbnkhgaaDoorWhlStep
import Derived.Test.YtheeonlfbnkhgaaDoorShelfC
namespace Go.Proofs.YtheeonlfbnkhgaaDoor
open Go.RowKit Go.Shelf

theorem hasPre_iff (s : ByteArray) : Lib.hasPrefix s.data.toList [45] = decide (lk s 0 = 45) := by
  unfold Lib.hasPrefix
  cases h : s.data.toList with
  | nil =>
    have hz : s.size = 0 := by rw [← size_list, h]; rfl
    rw [lk_out s 0 (by omega)]
    rfl
  | cons b l =>
    have hb : lk s 0 = b.toNat := (lk_get (t := s) (j := 0) (b := b) (by rw [h]; rfl)).1
    rw [hb]
    by_cases e : b = 45
    · subst e; simp
    · have e2 : ¬ b.toNat = 45 := fun h => e (UInt8.toNat_inj.1 h)
      have e3 : ((45 : UInt8) == b) = false := beq_eq_false_iff_ne.2 fun h => e h.symm
      rw [decide_eq_false e2, List.isPrefixOf, e3]
      rfl
theorem hasPreS_calls (s : ByteArray) (w : World) :
    Calls Tryd.prog 87 #[.string s, .string ⟨#[45]⟩] w fun e w' => e = .returned (.bool (decide (lk s 0 = 45))) ∧ w' = w := by
  have h := show Calls Tryd.prog 87 #[.string s, .string ⟨#[45]⟩] w fun e w' => e = .returned (.bool (Lib.hasPrefix s.data.toList [45])) ∧ w' = w from Any.stringslite_HasPrefix Tryd.lays206 s ⟨#[45]⟩ w
  rw [hasPre_iff] at h
  exact h
set_option maxRecDepth 10000 in
theorem cutS_calls (s D : ByteArray) (B : Bool) (hD : Hid (wdig s = D)) (hB : Hid (decide (lk s 0 = 45) = B)) (w : World) :
    Calls Tryd.prog 78 #[.string s, .string ⟨#[45]⟩] w fun e w' => e = .returned (.tuple #[.string D, .bool B]) ∧ w' = w := by
  have hc := hid (fun w1 => hasPreS_calls s w1)
  rw [hB.out] at hc
  go_enter Tryd.func78, Tryd.ntmps78
  go_wp2_with fail
  refine Calls.mono (hc.out _) ?_
  rintro e w1 ⟨rfl, hw⟩
  rw [hw]
  clear hw hc w1
  cases B with
  | false =>
    obtain rfl : s = D := by rw [← hD.out, wdig, if_neg (by simpa using hB.out)]
    clear hB hD
    go_wp2
    refine bodyPost_ret (results_tmp2 rfl _ _ _) rfl ?_
    exact ⟨rfl, rfl⟩
  | true =>
    have h1 : lk s 0 = 45 := by simpa using hB.out
    have hE : s.extract 1 s.size = D := by rw [← hD.out, wdig, if_pos h1]
    have h2 : 0 < s.size := lk_in (by omega)
    have h3 : decide ((1 : Int) ≤ (s.size : Int)) = true := by simp; omega
    have hE' := hid hE
    clear hB hD h1 hE
    go_wp2
    refine bodyPost_ret (results_tmp2 rfl _ _ _) rfl ?_
    exact ⟨by rw [← hE'.out]; first | rfl | simp, rfl⟩
set_option maxRecDepth 10000 in
theorem cut_calls (s D : ByteArray) (B : Bool) (hD : Hid (wdig s = D)) (hB : Hid (decide (lk s 0 = 45) = B)) (w : World) :
    Calls Tryd.prog 61 #[.string s, .string ⟨#[45]⟩] w fun e w' => e = .returned (.tuple #[.string D, .bool B]) ∧ w' = w := by
  have hc := hid (fun w1 => cutS_calls s D B hD hB w1)
  go_enter Tryd.func61, Tryd.ntmps61
  go_wp2_with fail
  refine Calls.mono (hc.out _) ?_
  rintro e w1 ⟨rfl, hw⟩
  rw [hw]
  clear hw hc w1
  go_wp2
  refine bodyPost_ret (results_tmp2 rfl _ _ _) rfl ?_
  exact ⟨rfl, rfl⟩

theorem zeroSet : ∀ w, (zeroValue 97).run Tryd.prog w = .ok (.agg (Array.replicate 256 (.bool false))) w := (zero_of_info (P := Tryd.prog) (t := 97) (v := .agg (Array.replicate 256 (.bool false))) (n := 256) (by kernel_rfl)).1
theorem sizeSet : (Tryd.prog.info? 97).map (·.size) = some 256 := by kernel_rfl
theorem zeroSz : Tryd.zeroCells97.size = 256 := by kernel_rfl
set_option maxRecDepth 100000 in
set_option maxHeartbeats 4000000 in
theorem idxLong_calls (s c : ByteArray) (w : World) (h2 : 2 ≤ c.size) (hc : c.size ≤ 100) (h8 : 8 < s.size) (hs : s.size ≤ 281474976710656) (ha : ∀ (j : Nat) b, c.data.toList[j]? = some b → b.toNat < 128) :
    Calls Tryd.prog 60 #[.string s, .string c] w fun e w' => e = .returned (.int .i64 (Lib.indexAny s.data.toList c.data.toList)) ∧ Below w.heap.size w w' := by
  have hM := hid (show Calls Tryd.prog 66 #[.string c] w fun e w' => e = .returned (.tuple #[.agg (Lib.setCells c.data.toList), .bool true]) ∧ w' = w.alloc (.cells (Lib.setCells c.data.toList) 97) from Any.strings_makeASCIISet Tryd.lays227 zeroSet sizeSet c w (by omega) ha)
  have hU := hid (show Calls Tryd.prog 76 #[.int .i64 (s.size : Int)] w fun e w' => e = .returned (.bool (decide (8 < (s.size : Int)))) ∧ w' = w from Any.strings_shouldUseASCIISet Tryd.lays226 _ w)
  have h8z : decide ((8 : Int) < (s.size : Int)) = true := by simp; omega
  rw [h8z] at hU
  have hemp : c.toList.isEmpty = false := by
    rw [Lib.toList_data]
    cases h : c.data.toList with
    | nil => have := size_list c; rw [h, List.length_nil] at this; omega
    | cons _ _ => rfl
  have hn1 : ((c.size : Int) == 1) = false := beq_eq_false_iff_ne.2 (by omega)
  obtain ⟨SC, hSC⟩ : ∃ SC, Lib.setCells c.data.toList = SC := ⟨_, rfl⟩
  have hone := Lib.setCells_one c.data.toList
  have hsz := Lib.setCells_size c.data.toList
  have hat := fun x => Lib.setCells_at c.data.toList x
  rw [hSC] at hM hone hsz
  have hsc : (storeCells ⟨w.heap.size + 1, 0, none⟩ SC.toList 0).run Tryd.prog ((w.alloc (.cells SC 97)).alloc (.cells Tryd.zeroCells97 97)) = .ok () ((w.alloc (.cells SC 97)).alloc (.cells SC 97)) := by
    have := run_storeCells_new (P := Tryd.prog) (w.alloc (.cells SC 97)) 97 Tryd.zeroCells97 SC (by rw [hsz]; exact sizeSet) (by rw [hsz]; exact zeroSz.symm) hone
    simpa using this
  have HC := hid (show ∀ x : UInt8, ((w.alloc (.cells SC 97)).alloc (.cells SC 97)).cell? ⟨w.heap.size + 1, x.toNat, none⟩ = some (.bool (c.data.toList.contains x)) from fun x => by
    rw [World.cell?_alloc_at _ _ _ _ (by simp), ← hSC, hat])
  have hB := hid (show Below w.heap.size w ((w.alloc (.cells SC 97)).alloc (.cells SC 97)) by repeat (first | with_reducible exact Below.refl _ _ | with_reducible refine Below.setCell ?_ (by first | (simp; done) | (simp; omega)) _ | with_reducible refine below_drewN ?_ _ | with_reducible refine Below.alloc ?_ (by first | (simp; done) | (simp; omega)) _ | with_reducible refine Below.drew ?_))
  clear hone hat hSC ha
  go_enter Tryd.func60, Tryd.ntmps60
  go_wp2_with fail
  refine Calls.mono hU.out ?_
  rintro e w1 ⟨rfl, hw⟩
  rw [hw]
  clear hw w1 hU
  go_wp2_with fail
  refine Calls.mono hM.out ?_
  rintro e w1 ⟨rfl, hw⟩
  rw [hw]
  clear hw w1 hM
  go_wp2_with fail
  clear hsc
  generalize hWW : (w.alloc (.cells SC 97)).alloc (.cells SC 97) = W at HC hB ⊢
  clear hWW
  go_loopg [8] s.size (fun g s8 wx => ∃ i : Nat, i + g = s.size ∧ s8 = .int .i64 i ∧ W = wx ∧ Hid (Lib.NoAny s.data.toList c.data.toList i))
  case atStart => exact ⟨0, by omega, rfl, rfl, Lib.NoAny.zero _ _⟩
  case round =>
    obtain ⟨i, hig, rfl, rfl, HN⟩ := hrel
    cases gk with
    | zero =>
      obtain rfl : i = s.size := by omega
      have hiz : ¬ ((s.size : Int) < (s.size : Int)) := by omega
      go_wp2
      go_ret
      exact ⟨by rw [Lib.indexAny_none (by rw [size_list]; exact HN.out)]; rfl, hB.out⟩
    | succ g =>
      have hi : i < s.size := by omega
      have hiz : (i : Int) < (s.size : Int) := by omega
      obtain ⟨x, hx⟩ : ∃ x : UInt8, s[i]'hi = x := ⟨_, rfl⟩
      have Hx := hid (show s.data.toList[i]? = some x by rw [← hx]; exact Lib.data_getElem? s i hi)
      have hcx := HC.out x
      cases hin : c.data.toList.contains x <;> rw [hin] at hcx
      · have hcc := hid (show Calls Tryd.prog 77 #[.pointer (some ⟨w.heap.size + 1, 0, none⟩), .int .u8 x.toNat] W _ from Any.asciiSet_contains Tryd.lays228 (w.heap.size + 1) x false W hcx)
        go_wp2_with fail
        refine Calls.mono hcc.out ?_
        rintro e w1 ⟨rfl, hw⟩
        rw [hw]
        clear hw hcc
        go_wp2
        go_roundg g
        case measure => omega
        case rel => exact ⟨i + 1, by omega, by first | rfl | simp, rfl, HN.out.succ Hx.out hin⟩
      · have hcc := hid (show Calls Tryd.prog 77 #[.pointer (some ⟨w.heap.size + 1, 0, none⟩), .int .u8 x.toNat] W _ from Any.asciiSet_contains Tryd.lays228 (w.heap.size + 1) x true W hcx)
        go_wp2_with fail
        refine Calls.mono hcc.out ?_
        rintro e w1 ⟨rfl, hw⟩
        rw [hw]
        clear hw hcc
        go_wp2
        go_ret
        exact ⟨by rw [Lib.indexAny_hit HN.out Hx.out hin]; rfl, hB.out⟩
theorem idx_calls (s : ByteArray) (hs : s.size ≤ 281474976710656) (ha : ∀ i, lk s i < 128) (w : World) :
    Calls Tryd.prog 60 #[.string s, .string ⟨#[46, 101, 69]⟩] w fun e w' => e = .returned (.int .i64 (Lib.indexAny s.data.toList [46, 101, 69])) ∧ Below w.heap.size w w' := by
  by_cases h8 : 8 < s.size
  · refine idxLong_calls s ⟨#[46, 101, 69]⟩ w (by decide) (by decide) h8 hs (fun j b hb => ?_)
    have hm : b ∈ [(46 : UInt8), 101, 69] := List.mem_of_getElem? hb
    simp at hm
    rcases hm with rfl | rfl | rfl <;> decide
  · refine Calls.mono (show Calls Tryd.prog 60 #[.string s, .string ⟨#[46, 101, 69]⟩] w fun e w' => e = .returned (.int .i64 (Lib.indexAny s.data.toList [46, 101, 69])) ∧ ∃ pos, w' = w.iter s pos from Any.strings_IndexAny_short Tryd.lays153 s ⟨#[46, 101, 69]⟩ w (by decide) (by omega) (fun j b hb => by rw [← (lk_get hb).1]; exact ha j)) ?_
    rintro e w1 ⟨rfl, pos, rfl⟩
    exact ⟨rfl, (Below.refl _ _).alloc (Nat.le_refl _) _⟩
set_option maxRecDepth 10000 in
/-- Is there a point, an e or an E? -/
theorem cany_calls (s : ByteArray) (hs : s.size ≤ 281474976710656) (ha : ∀ i, lk s i < 128) (B : Bool) (hB : Hid (hasP s = B)) (w : World) :
    Calls Tryd.prog 45 #[.string s, .string ⟨#[46, 101, 69]⟩] w fun e w' => e = .returned (.bool B) ∧ Below w.heap.size w w' := by
  have hc := hid (fun w1 => idx_calls s hs ha w1)
  have hv := hid (show decide (0 ≤ Lib.indexAny s.data.toList [46, 101, 69]) = B from hB.out)
  generalize Lib.indexAny s.data.toList [46, 101, 69] = X at hc hv
  clear hs ha hB
  go_enter Tryd.func45, Tryd.ntmps45
  go_wp2_with fail
  refine Calls.mono (hc.out _) ?_
  rintro e w1 ⟨rfl, hw⟩
  clear hc
  go_wp2
  go_ret
  exact ⟨by rw [← hv.out]; rfl, hw⟩
end Go.Proofs.YtheeonlfbnkhgaaDoor
