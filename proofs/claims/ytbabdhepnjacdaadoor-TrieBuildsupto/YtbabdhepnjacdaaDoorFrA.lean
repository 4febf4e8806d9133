/-
 The reference of stage 22: utf8, Step, Formed.
-/
import Derived.Test.YtbabdhepnjacdaaDoorPyJ
import Derived.Test.YtbabdhepnjacdaaDoorRefTx4
namespace Go.Proofs.YtbabdhepnjacdaaDoor
open Go.RowKit Go.Shelf
theorem wrS_code (s : ByteArray) : (wrS s).2 = if 0 ≤ badOf s then 50 else 0 := by
 unfold wrS
 split <;> rfl
theorem bad_code22 (s : ByteArray) : decide (badOf s = -1) = ((wrS s).2 == 0) := by
 rw [wrS_code]
 have hb : badOf s = -1 ∨ 0 ≤ badOf s := by
  unfold badOf badI
  split <;> omega
 rcases hb with h | h
 ·rw [if_neg (by omega), decide_eq_true h]; rfl
 ·rw [if_pos h, decide_eq_false (by omega)]; rfl
set_option maxRecDepth 10000 in
set_option maxHeartbeats 4000000 in
theorem utf8R22_calls (s : ByteArray) (hs : s.size ≤ 4294967296) (w : World) : Calls Tryd.prog 61 #[.string s] w fun e w' => e = .returned (.bool (decide (badOf s = -1))) ∧ Below w.heap.size w w' := by
 obtain ⟨T, E, hU⟩ : ∃ T E, wrS s = (T, E) := ⟨_, _, rfl⟩
 have hb : decide (badOf s = -1) = (E == 0) := by rw [bad_code22, hU]
 rw [hb]
 have he := hid (refEs_calls s hs T E (hid hU) w)
 clear hb hU
 go_enter Tryd.func61, Tryd.ntmps61
 go_wp2_with fail
 refine Calls.mono he.out ?_
 rintro e w1 ⟨rfl, b1⟩
 have B1 := hid b1
 clear b1 he
 go_wp2
 go_ret
 exact ⟨rfl, B1.out⟩
set_option maxRecDepth 10000 in
set_option maxHeartbeats 4000000 in
theorem stepR22_calls (s : Stp) (hs : s.name.size ≤ 4294967296) (w : World) : Calls Tryd.prog 53 #[.agg #[.int .i64 s.kind, .string s.name, .int .i64 s.place]] w fun e w' => e = .returned (.bool (fmS s)) ∧ Below w.heap.size w w' := by
 obtain ⟨k, nm, pl⟩ := s
 dsimp only at hs ⊢
 have B1 := hid (show Below w.heap.size w (w.alloc (.cells #[.int .i64 k, .string nm, .int .i64 pl] 53)) from (Below.refl _ w).alloc (Nat.le_refl _) _)
 by_cases h1 : k = 1
 ·subst h1
  have e : fmS ⟨1, nm, pl⟩ = (decide (pl = 0) && decide (badOf nm = -1)) := rfl
  rw [e]
  have hu := hid (fun u => utf8R22_calls nm hs u)
  generalize decide (badOf nm = -1) = V at hu ⊢
  cases hp : pl == 0 with
  | true =>
   rw [show decide (pl = 0) = true from decide_eq_true (beq_iff_eq.1 hp), Bool.true_and]
   clear e hs
   go_enter Tryd.func53, Tryd.ntmps53
   go_wp2_with fail
   refine Calls.mono (hu.out _) ?_
   rintro e w2 ⟨rfl, b2⟩
   have B2 := hid (B1.out.trans (b2.mono B1.out.size))
   clear b2 hu
   go_wp2
   go_ret
   exact ⟨rfl, B2.out⟩
  | false =>
   rw [show decide (pl = 0) = false from decide_eq_false (beq_eq_false_iff_ne.1 hp), Bool.false_and]
   clear e hs hu
   go_enter Tryd.func53, Tryd.ntmps53
   go_wp2
   go_ret
   exact ⟨rfl, B1.out⟩
 ·have b1 : (k == 1) = false := beq_eq_false_iff_ne.2 h1
  by_cases h2 : k = 2
  ·subst h2
   have e : fmS ⟨2, nm, pl⟩ = (decide (nm = ⟨#[]⟩) && (decide (0 ≤ pl) && decide (pl ≤ 999999999999999999))) := rfl
   have en := eq_str nm ⟨#[]⟩
   rw [e, ← en]
   have e0 : (⟨#[]⟩ : ByteArray).toList = [] := (ByteArray.toList_eq _).trans rfl
   rw [e0]
   cases hn : nm.toList == [] with
   | false =>
    rw [Bool.false_and]
    clear e en e0 hs
    go_enter Tryd.func53, Tryd.ntmps53
    go_wp2
    go_ret
    exact ⟨rfl, B1.out⟩
   | true =>
    rw [Bool.true_and]
    by_cases h0 : 0 ≤ pl
    ·have f0 : decide ((0 : Int) ≤ pl) = true := decide_eq_true h0
     by_cases h9 : pl < 1000000000000000000
     ·have f9 : decide (pl < (1000000000000000000 : Int)) = true := decide_eq_true h9
      rw [f0, show decide (pl ≤ 999999999999999999) = true from decide_eq_true (by omega)]
      clear e en e0 hs
      go_enter Tryd.func53, Tryd.ntmps53
      go_wp2
      go_ret
      exact ⟨rfl, B1.out⟩
     ·have f9 : decide (pl < (1000000000000000000 : Int)) = false := decide_eq_false h9
      rw [f0, show decide (pl ≤ 999999999999999999) = false from decide_eq_false (by omega)]
      clear e en e0 hs
      go_enter Tryd.func53, Tryd.ntmps53
      go_wp2
      go_ret
      exact ⟨rfl, B1.out⟩
    ·have f0 : decide ((0 : Int) ≤ pl) = false := decide_eq_false h0
     rw [f0, Bool.false_and]
     clear e en e0 hs
     go_enter Tryd.func53, Tryd.ntmps53
     go_wp2
     go_ret
     exact ⟨rfl, B1.out⟩
  ·have b2 : (k == 2) = false := beq_eq_false_iff_ne.2 h2
   by_cases h3 : k = 3
   ·subst h3
    have e : fmS ⟨3, nm, pl⟩ = (decide (nm = ⟨#[]⟩) && decide (pl = 0)) := rfl
    have en := eq_str nm ⟨#[]⟩
    rw [e, ← en]
    have e0 : (⟨#[]⟩ : ByteArray).toList = [] := (ByteArray.toList_eq _).trans rfl
    rw [e0, show decide (pl = 0) = (pl == 0) from rfl]
    cases hn : nm.toList == [] with
    | false =>
     rw [Bool.false_and]
     clear e en e0 hs
     go_enter Tryd.func53, Tryd.ntmps53
     go_wp2
     go_ret
     exact ⟨rfl, B1.out⟩
    | true =>
     rw [Bool.true_and]
     clear e en e0 hs
     go_enter Tryd.func53, Tryd.ntmps53
     go_wp2
     go_ret
     exact ⟨rfl, B1.out⟩
   ·have b3 : (k == 3) = false := beq_eq_false_iff_ne.2 h3
    have e : fmS ⟨k, nm, pl⟩ = false := by unfold fmS; rw [if_neg h1, if_neg h2, if_neg h3]
    rw [e]
    clear e hs h1 h2 h3
    go_enter Tryd.func53, Tryd.ntmps53
    go_wp2
    go_ret
    exact ⟨rfl, B1.out⟩
set_option maxRecDepth 10000 in
set_option maxHeartbeats 4000000 in
theorem formedR22_calls (ss : List Stp) (ao : Option Addr) (N cap : Nat) (hN : Hid (ss.length = N)) (hNi : N ≤ 140737488351232) (hsz : Hid (∀ s ∈ ss, s.name.size ≤ 4294967296)) (w : World) (hk : Hid (StepsAt w ao ss)) :
  Calls Tryd.prog 34 #[.slice ao N cap] w fun e w' => e = .returned (.bool (ss.all fmS)) ∧ Below w.heap.size w w' := by
 have hNi' : (N : Int) ≤ 140737488351232 := by omega
 go_enter Tryd.func34, Tryd.ntmps34
 go_wp2
 go_loopw [3] (fun ii wr => ∃ i : Nat, i ≤ N ∧ ii = .int .i64 (i : Int) ∧ Hid ((ss.take i).all fmS = true) ∧ Hid (Below w.heap.size w wr)) (fun ii _ => N - (intOf ii).toNat)
 case atStart => exact ⟨0, Nat.zero_le _, rfl, hid (by simp), hid (Below.refl _ _)⟩
 case round =>
  obtain ⟨i, hi, rfl, hall, hb⟩ := hrel
  by_cases hlt : i < N
  ·have hli : (i : Int) < (N : Int) := by omega
   obtain ⟨s, hs⟩ : ∃ s, Hid (ss[i]? = some s) := ⟨_, List.getElem?_eq_getElem (by rw [hN.out]; exact hlt)⟩
   have hk2 := hk.out.kept hb.out
   obtain ⟨g, o, rfl, hg, hrg⟩ := steps_at hk2 hs.out
   have htk := hid (show (ss.take (i + 1)).all fmS = ((ss.take i).all fmS && fmS s) by rw [List.take_add_one, hs.out]; simp)
   have hf := hid (fun u => stepR22_calls s (hsz.out s (List.mem_of_getElem? hs.out)) u)
   have hfin := hid (fun (h : fmS s = false) => (show ss.all fmS = false by rw [List.all_eq_false]; exact ⟨s, List.mem_of_getElem? hs.out, by rw [h]; simp⟩))
   obtain ⟨k, nm, pl⟩ := s
   have hrg' := hid hrg
   have z1 : (Tryd.prog.info? 53).map (·.size) = some ([.int .i64 k, .string nm, .int .i64 pl] : List Value).length := sizeStp
   dsimp only at hf
   have hlt' := hid (show i + 1 ≤ N by omega)
   cases hfm : fmS ⟨k, nm, pl⟩ with
   | true =>
    rw [hfm] at hf htk
    clear hs hk2 hg hrg hfin
    go_wp2_with (first | refine wpList_load_want 53 _ g (o + i * 3) [.int .i64 k, .string nm, .int .i64 pl] _ hrg'.out Tryd.underlying53 z1 rfl rfl rfl (by rfl) ?_ | fail)
    refine Calls.mono (hf.out _) ?_
    rintro e w3 ⟨rfl, b3⟩
    have B3 := hid (hb.out.trans (b3.mono hb.out.size))
    clear b3 hf
    go_wp2
    go_roundw
    case rel => exact ⟨i + 1, hlt'.out, by simp, hid (by rw [htk.out, hall.out]; rfl), B3⟩
    case measure => simp [intOf]; have := hlt'.out; omega
   | false =>
    rw [hfm] at hf
    have hres := hid (hfin.out hfm)
    clear hs hk2 hg hrg hfin htk
    go_wp2_with (first | refine wpList_load_want 53 _ g (o + i * 3) [.int .i64 k, .string nm, .int .i64 pl] _ hrg'.out Tryd.underlying53 z1 rfl rfl rfl (by rfl) ?_ | fail)
    refine Calls.mono (hf.out _) ?_
    rintro e w3 ⟨rfl, b3⟩
    have B3 := hid (hb.out.trans (b3.mono hb.out.size))
    clear b3 hf
    go_wp2
    go_ret
    exact ⟨by rw [hres.out]; rfl, B3.out⟩
  ·obtain rfl : i = N := by omega
   have hfin : Hid (ss.all fmS = true) := hid (by have := hall.out; rwa [List.take_of_length_le (by rw [hN.out]; exact Nat.le_refl _)] at this)
   go_wp2
   go_ret
   exact ⟨by rw [hfin.out]; rfl, hb.out⟩
end Go.Proofs.YtbabdhepnjacdaaDoor
