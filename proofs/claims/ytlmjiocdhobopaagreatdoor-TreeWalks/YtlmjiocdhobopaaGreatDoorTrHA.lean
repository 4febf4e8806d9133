/-
 TrH, TrH2, TrH3, TrH4, one behind the other.
-/
import Derived.Test.YtlmjiocdhobopaaGreatDoorTrG
import Derived.Test.YtlmjiocdhobopaaGreatDoorRefBad
import Derived.Test.YtlmjiocdhobopaaGreatDoorRefOfD
/- quarryref17.plain, kind by kind: the fields that a kind uses, all others zero. -/
namespace Go.Proofs.YtlmjiocdhobopaaGreatDoor
open Go.RowKit Go.Shelf
set_option maxRecDepth 10000 in
set_option maxHeartbeats 4000000 in
theorem plain_1 (b : Bool) (r t : ByteArray) (ko : Option Addr) (N kc : Nat) (vo : Option Addr) (M vc : Nat) (w : World) :
  Calls Tryz.prog 37 #[.agg #[.int .i64 1, .bool b, .string r, .string t, .slice ko N kc, .slice vo M vc]] w fun e w' => e = .returned (.bool (decide (N = 0) && (decide (M = 0) && (!b && ((r.toList == []) && (t.toList == [])))))) ∧ Below w.heap.size w w' := by
 go_enter Tryz.func37, Tryz.ntmps37
 go_wp2
 all_goals go_ret
 all_goals (refine ⟨?_, by repeat (first | with_reducible exact Below.refl _ _ | with_reducible refine Below.setCell ?_ (by first | (simp; done) | (simp; omega)) _ | with_reducible refine below_drewN ?_ _ | with_reducible refine Below.alloc ?_ (by first | (simp; done) | (simp; omega)) _ | with_reducible refine Below.drew ?_)⟩)
 all_goals (simp_all [Array.getD]; done)
set_option maxRecDepth 10000 in
set_option maxHeartbeats 4000000 in
theorem plain_2 (b : Bool) (r t : ByteArray) (ko : Option Addr) (N kc : Nat) (vo : Option Addr) (M vc : Nat) (w : World) :
  Calls Tryz.prog 37 #[.agg #[.int .i64 2, .bool b, .string r, .string t, .slice ko N kc, .slice vo M vc]] w fun e w' => e = .returned (.bool (decide (N = 0) && (decide (M = 0) && ((r.toList == []) && (t.toList == []))))) ∧ Below w.heap.size w w' := by
 go_enter Tryz.func37, Tryz.ntmps37
 go_wp2
 all_goals go_ret
 all_goals (refine ⟨?_, by repeat (first | with_reducible exact Below.refl _ _ | with_reducible refine Below.setCell ?_ (by first | (simp; done) | (simp; omega)) _ | with_reducible refine below_drewN ?_ _ | with_reducible refine Below.alloc ?_ (by first | (simp; done) | (simp; omega)) _ | with_reducible refine Below.drew ?_)⟩)
 all_goals (simp_all [Array.getD]; done)
set_option maxRecDepth 10000 in
set_option maxHeartbeats 4000000 in
theorem plain_5 (b : Bool) (r t : ByteArray) (ko : Option Addr) (N kc : Nat) (vo : Option Addr) (M vc : Nat) (w : World) :
  Calls Tryz.prog 37 #[.agg #[.int .i64 5, .bool b, .string r, .string t, .slice ko N kc, .slice vo M vc]] w fun e w' => e = .returned (.bool (!b && ((r.toList == []) && ((t.toList == []) && decide (N = 0))))) ∧ Below w.heap.size w w' := by
 go_enter Tryz.func37, Tryz.ntmps37
 go_wp2
 all_goals go_ret
 all_goals (refine ⟨?_, by repeat (first | with_reducible exact Below.refl _ _ | with_reducible refine Below.setCell ?_ (by first | (simp; done) | (simp; omega)) _ | with_reducible refine below_drewN ?_ _ | with_reducible refine Below.alloc ?_ (by first | (simp; done) | (simp; omega)) _ | with_reducible refine Below.drew ?_)⟩)
 all_goals (simp_all [Array.getD]; done)
end Go.Proofs.YtlmjiocdhobopaaGreatDoor
/- quarryref17.plain of numbers, texts and objects, and of what is none of these; all kinds together. -/
namespace Go.Proofs.YtlmjiocdhobopaaGreatDoor
open Go.RowKit Go.Shelf
set_option maxRecDepth 10000 in
set_option maxHeartbeats 4000000 in
theorem plain_3 (b : Bool) (r t : ByteArray) (ko : Option Addr) (N kc : Nat) (vo : Option Addr) (M vc : Nat) (w : World) (hr : r.size ≤ 281474976710656) (er : Nat) (he : Hid ((ofS r).2 = er)) :
  Calls Tryz.prog 37 #[.agg #[.int .i64 3, .bool b, .string r, .string t, .slice ko N kc, .slice vo M vc]] w fun e w' => e = .returned (.bool (decide (N = 0) && (decide (M = 0) && (!b && ((t.toList == []) && (decide (er = 0) || decide (er = 111))))))) ∧ Below w.heap.size w w' := by
 obtain ⟨q, hq⟩ : ∃ q, ofS r = q := ⟨_, rfl⟩
 obtain ⟨⟨dn, dd, dx⟩, e2⟩ := q
 obtain rfl : e2 = er := by rw [← he.out, hq]
 have hof := hid (fun u => refOfD_calls r hr u)
 have hov := hid (show ofV r = .tuple #[.agg #[.bool dn, .string ⟨dd.toArray⟩, .int .i64 dx], .int .i64 (e2 : Int)] by rw [ofV, hq]; rfl)
 rw [hov.out] at hof
 generalize (⟨dd.toArray⟩ : ByteArray) = TD at hof
 clear hov hq he hr
 by_cases h1 : N = 0
 ·subst h1
  by_cases h2 : M = 0
  ·subst h2
   have A1 := hid (At.new w #[.int .i64 3, .bool b, .string r, .string t, .slice ko 0 kc, .slice vo 0 vc] 25)
   have B1 := hid (show Below w.heap.size w (w.alloc (.cells #[.int .i64 3, .bool b, .string r, .string t, .slice ko 0 kc, .slice vo 0 vc] 25)) by repeat (first | with_reducible exact Below.refl _ _ | with_reducible refine Below.setCell ?_ (by first | (simp; done) | (simp; omega)) _ | with_reducible refine below_drewN ?_ _ | with_reducible refine Below.alloc ?_ (by first | (simp; done) | (simp; omega)) _ | with_reducible refine Below.drew ?_))
   go_enter Tryz.func37, Tryz.ntmps37
   go_wp2_with fail
   generalize w.alloc (.cells #[.int .i64 3, .bool b, .string r, .string t, .slice ko 0 kc, .slice vo 0 vc] 25) = W at A1 B1 ⊢
   refine Calls.mono (hof.out _) ?_
   rintro e w1 ⟨rfl, hb⟩
   have A2 := hid (A1.out.keptAll hb)
   have B2 := hid (show Below w.heap.size w (w1.alloc (.cells #[.bool dn, .string TD, .int .i64 dx] 49)) from (B1.out.trans (hb.mono B1.out.size)).alloc (Nat.le_trans B1.out.size hb.size) _)
   have hlt := A2.out.lt
   have c1 : w1.cell? ⟨w.heap.size, 1, none⟩ = some (.bool b) := A2.out.cell 1
   have c3 : w1.cell? ⟨w.heap.size, 3, none⟩ = some (.string t) := A2.out.cell 3
   clear hof hb A1 B1 A2
   cases b <;> (go_wp2; all_goals go_ret; all_goals (refine ⟨?_, B2.out⟩); all_goals (first | (simp_all [Array.getD]; done) | (simp_all [Array.getD]; rw [Bool.eq_iff_iff]; simp; omega)))
  ·have m0 : ((M : Int) == 0) = false := by simp; omega
   have A1 := hid (At.new w #[.int .i64 3, .bool b, .string r, .string t, .slice ko 0 kc, .slice vo M vc] 25)
   have B1 := hid (show Below w.heap.size w (w.alloc (.cells #[.int .i64 3, .bool b, .string r, .string t, .slice ko 0 kc, .slice vo M vc] 25)) by repeat (first | with_reducible exact Below.refl _ _ | with_reducible refine Below.setCell ?_ (by first | (simp; done) | (simp; omega)) _ | with_reducible refine below_drewN ?_ _ | with_reducible refine Below.alloc ?_ (by first | (simp; done) | (simp; omega)) _ | with_reducible refine Below.drew ?_))
   go_enter Tryz.func37, Tryz.ntmps37
   go_wp2_with fail
   generalize w.alloc (.cells #[.int .i64 3, .bool b, .string r, .string t, .slice ko 0 kc, .slice vo M vc] 25) = W at A1 B1 ⊢
   refine Calls.mono (hof.out _) ?_
   rintro e w1 ⟨rfl, hb⟩
   have A2 := hid (A1.out.keptAll hb)
   have B2 := hid (show Below w.heap.size w (w1.alloc (.cells #[.bool dn, .string TD, .int .i64 dx] 49)) from (B1.out.trans (hb.mono B1.out.size)).alloc (Nat.le_trans B1.out.size hb.size) _)
   have hlt := A2.out.lt
   have c1 : w1.cell? ⟨w.heap.size, 1, none⟩ = some (.bool b) := A2.out.cell 1
   have c3 : w1.cell? ⟨w.heap.size, 3, none⟩ = some (.string t) := A2.out.cell 3
   clear hof hb A1 B1 A2
   cases b <;> (go_wp2; all_goals go_ret; all_goals (refine ⟨?_, B2.out⟩); all_goals (first | (simp_all [Array.getD]; done) | (simp_all [Array.getD]; rw [Bool.eq_iff_iff]; simp; omega)))
 ·have n0 : ((N : Int) == 0) = false := by simp; omega
  have A1 := hid (At.new w #[.int .i64 3, .bool b, .string r, .string t, .slice ko N kc, .slice vo M vc] 25)
  have B1 := hid (show Below w.heap.size w (w.alloc (.cells #[.int .i64 3, .bool b, .string r, .string t, .slice ko N kc, .slice vo M vc] 25)) by repeat (first | with_reducible exact Below.refl _ _ | with_reducible refine Below.setCell ?_ (by first | (simp; done) | (simp; omega)) _ | with_reducible refine below_drewN ?_ _ | with_reducible refine Below.alloc ?_ (by first | (simp; done) | (simp; omega)) _ | with_reducible refine Below.drew ?_))
  go_enter Tryz.func37, Tryz.ntmps37
  go_wp2_with fail
  generalize w.alloc (.cells #[.int .i64 3, .bool b, .string r, .string t, .slice ko N kc, .slice vo M vc] 25) = W at A1 B1 ⊢
  refine Calls.mono (hof.out _) ?_
  rintro e w1 ⟨rfl, hb⟩
  have A2 := hid (A1.out.keptAll hb)
  have B2 := hid (show Below w.heap.size w (w1.alloc (.cells #[.bool dn, .string TD, .int .i64 dx] 49)) from (B1.out.trans (hb.mono B1.out.size)).alloc (Nat.le_trans B1.out.size hb.size) _)
  have hlt := A2.out.lt
  have c1 : w1.cell? ⟨w.heap.size, 1, none⟩ = some (.bool b) := A2.out.cell 1
  have c3 : w1.cell? ⟨w.heap.size, 3, none⟩ = some (.string t) := A2.out.cell 3
  clear hof hb A1 B1 A2
  cases b <;> (go_wp2; all_goals go_ret; all_goals (refine ⟨?_, B2.out⟩); all_goals (first | (simp_all [Array.getD]; done) | (simp_all [Array.getD]; rw [Bool.eq_iff_iff]; simp; omega)))
set_option maxRecDepth 10000 in
set_option maxHeartbeats 4000000 in
theorem plain_4 (b : Bool) (r t : ByteArray) (ko : Option Addr) (N kc : Nat) (vo : Option Addr) (M vc : Nat) (w : World) (hr : t.size ≤ 4294967296) (x : Int) (he : Hid (badOf t = x)) :
  Calls Tryz.prog 37 #[.agg #[.int .i64 4, .bool b, .string r, .string t, .slice ko N kc, .slice vo M vc]] w fun e w' => e = .returned (.bool (decide (N = 0) && (decide (M = 0) && (!b && ((r.toList == []) && decide (x = -1)))))) ∧ Below w.heap.size w w' := by
 have hof := hid (fun u => refBad_calls t hr u)
 rw [he.out] at hof
 clear he hr
 by_cases hz : N = 0 ∧ M = 0 ∧ b = false ∧ r.toList = []
 ·obtain ⟨rfl, rfl, rfl, h4⟩ := hz
  have B1 := hid (show Below w.heap.size w (w.alloc (.cells #[.int .i64 4, .bool false, .string r, .string t, .slice ko 0 kc, .slice vo 0 vc] 25)) by repeat (first | with_reducible exact Below.refl _ _ | with_reducible refine Below.setCell ?_ (by first | (simp; done) | (simp; omega)) _ | with_reducible refine below_drewN ?_ _ | with_reducible refine Below.alloc ?_ (by first | (simp; done) | (simp; omega)) _ | with_reducible refine Below.drew ?_))
  go_enter Tryz.func37, Tryz.ntmps37
  go_wp2_with fail
  generalize w.alloc (.cells #[.int .i64 4, .bool false, .string r, .string t, .slice ko 0 kc, .slice vo 0 vc] 25) = W at B1 ⊢
  refine Calls.mono (hof.out _) ?_
  rintro e w1 ⟨rfl, hb⟩
  have B2 := hid (B1.out.trans (hb.mono B1.out.size))
  clear hof hb B1
  go_wp2
  all_goals go_ret
  all_goals (refine ⟨?_, B2.out⟩)
  all_goals (first | (simp_all [Array.getD]; done) | (simp_all [Array.getD]; rw [Bool.eq_iff_iff]; simp))
 ·clear hof
  by_cases h1 : N = 0
  ·subst h1
   by_cases h2 : M = 0
   ·subst h2
    cases b with
    | true =>
     go_enter Tryz.func37, Tryz.ntmps37
     go_wp2
     all_goals go_ret
     all_goals (refine ⟨?_, by repeat (first | with_reducible exact Below.refl _ _ | with_reducible refine Below.setCell ?_ (by first | (simp; done) | (simp; omega)) _ | with_reducible refine below_drewN ?_ _ | with_reducible refine Below.alloc ?_ (by first | (simp; done) | (simp; omega)) _ | with_reducible refine Below.drew ?_)⟩)
     all_goals (simp_all [Array.getD]; done)
    | false =>
     have h4 : ¬ r.toList = [] := fun h => hz ⟨rfl, rfl, rfl, h⟩
     go_enter Tryz.func37, Tryz.ntmps37
     go_wp2
     all_goals go_ret
     all_goals (refine ⟨?_, by repeat (first | with_reducible exact Below.refl _ _ | with_reducible refine Below.setCell ?_ (by first | (simp; done) | (simp; omega)) _ | with_reducible refine below_drewN ?_ _ | with_reducible refine Below.alloc ?_ (by first | (simp; done) | (simp; omega)) _ | with_reducible refine Below.drew ?_)⟩)
     all_goals (simp_all [Array.getD]; done)
   ·have m0 : ((M : Int) == 0) = false := by simp; omega
    go_enter Tryz.func37, Tryz.ntmps37
    go_wp2
    all_goals go_ret
    all_goals (refine ⟨?_, by repeat (first | with_reducible exact Below.refl _ _ | with_reducible refine Below.setCell ?_ (by first | (simp; done) | (simp; omega)) _ | with_reducible refine below_drewN ?_ _ | with_reducible refine Below.alloc ?_ (by first | (simp; done) | (simp; omega)) _ | with_reducible refine Below.drew ?_)⟩)
    all_goals (simp_all [Array.getD]; done)
  ·have n0 : ((N : Int) == 0) = false := by simp; omega
   go_enter Tryz.func37, Tryz.ntmps37
   go_wp2
   all_goals go_ret
   all_goals (refine ⟨?_, by repeat (first | with_reducible exact Below.refl _ _ | with_reducible refine Below.setCell ?_ (by first | (simp; done) | (simp; omega)) _ | with_reducible refine below_drewN ?_ _ | with_reducible refine Below.alloc ?_ (by first | (simp; done) | (simp; omega)) _ | with_reducible refine Below.drew ?_)⟩)
   all_goals (simp_all [Array.getD]; done)
set_option maxRecDepth 10000 in
set_option maxHeartbeats 4000000 in
theorem plain_0 (k : Int) (hk : k ≠ 1 ∧ k ≠ 2 ∧ k ≠ 3 ∧ k ≠ 4 ∧ k ≠ 5 ∧ k ≠ 6) (b : Bool) (r t : ByteArray) (ko : Option Addr) (N kc : Nat) (vo : Option Addr) (M vc : Nat) (w : World) :
  Calls Tryz.prog 37 #[.agg #[.int .i64 k, .bool b, .string r, .string t, .slice ko N kc, .slice vo M vc]] w fun e w' => e = .returned (.bool false) ∧ Below w.heap.size w w' := by
 obtain ⟨k1, k2, k3, k4, k5, k6⟩ := hk
 have e1 : (k == 1) = false := by simp [k1]
 have e2 : (k == 2) = false := by simp [k2]
 have e3 : (k == 3) = false := by simp [k3]
 have e4 : (k == 4) = false := by simp [k4]
 have e5 : (k == 5) = false := by simp [k5]
 have e6 : (k == 6) = false := by simp [k6]
 go_enter Tryz.func37, Tryz.ntmps37
 go_wp2
 all_goals go_ret
 all_goals (exact ⟨rfl, by repeat (first | with_reducible exact Below.refl _ _ | with_reducible refine Below.setCell ?_ (by first | (simp; done) | (simp; omega)) _ | with_reducible refine below_drewN ?_ _ | with_reducible refine Below.alloc ?_ (by first | (simp; done) | (simp; omega)) _ | with_reducible refine Below.drew ?_)⟩)
end Go.Proofs.YtlmjiocdhobopaaGreatDoor
/- quarryref17.plain of objects; all kinds together; quarryref17.formed. -/
namespace Go.Proofs.YtlmjiocdhobopaaGreatDoor
open Go.RowKit Go.Shelf
/-- Are all names UTF-8? -/
def allB (ks : List ByteArray) : Bool := ks.all fun k => decide (badOf k = -1)
set_option maxRecDepth 10000 in
set_option maxHeartbeats 4000000 in
theorem plain_6 (b : Bool) (r t : ByteArray) (ks : List ByteArray) (ko : Option Addr) (kc : Nat) (vo : Option Addr) (M vc : Nat) (w : World) (hk : KeysAt w ko ks) (hks : ks.length ≤ capT) (hM : M ≤ capT) (hsz : Hid (∀ (i : Nat) (k : ByteArray), ks[i]? = some k → k.size ≤ 4294967296)) :
  Calls Tryz.prog 37 #[.agg #[.int .i64 6, .bool b, .string r, .string t, .slice ko ks.length kc, .slice vo M vc]] w fun e w' => e = .returned (.bool (allB ks && (!b && ((r.toList == []) && ((t.toList == []) && decide (ks.length = M)))))) ∧ Below w.heap.size w w' := by
 obtain ⟨N, hN⟩ : ∃ N, Hid (ks.length = N) := ⟨_, rfl⟩
 obtain ⟨AB, hAB⟩ : ∃ AB, Hid (allB ks = AB) := ⟨_, rfl⟩
 rw [hN.out] at hks ⊢
 rw [hAB.out]
 unfold capT at hks hM
 have hNi : (N : Int) ≤ 140737488351232 := by omega
 have hMi : (M : Int) ≤ 140737488351232 := by omega
 have hk' := hid hk
 have A1 : Hid (At (w.alloc (.cells #[.int .i64 6, .bool b, .string r, .string t, .slice ko N kc, .slice vo M vc] 25)) w.heap.size #[.int .i64 6, .bool b, .string r, .string t, .slice ko N kc, .slice vo M vc] 25) := At.new _ _ _
 have B1 : Hid (Below w.heap.size w (w.alloc (.cells #[.int .i64 6, .bool b, .string r, .string t, .slice ko N kc, .slice vo M vc] 25))) := (Below.refl _ w).alloc (Nat.le_refl _) _
 clear hk
 go_enter Tryz.func37, Tryz.ntmps37
 go_upto_region 1 with fail
 generalize w.alloc (.cells #[.int .i64 6, .bool b, .string r, .string t, .slice ko N kc, .slice vo M vc] 25) = W at A1 B1 ⊢
 have d0 : W.cell? ⟨w.heap.size, 0, none⟩ = some (.int .i64 6) := A1.out.cell 0
 have d4 : W.cell? ⟨w.heap.size, 4, none⟩ = some (.slice ko N kc) := A1.out.cell 4
 have d5 : W.cell? ⟨w.heap.size, 5, none⟩ = some (.slice vo M vc) := A1.out.cell 5
 go_cut [3] from 7 to 16 (fun _ wx => wx = W)
 case first =>
  obtain ⟨x, hx⟩ : ∃ x, ((N : Int) == 0) = x := ⟨_, rfl⟩
  obtain ⟨y, hy⟩ : ∃ y, ((M : Int) == 0) = y := ⟨_, rfl⟩
  cases x
  ·go_wp2
   go_meet
   case rel => rfl
  ·cases y
   ·go_wp2
    go_meet
    case rel => rfl
   ·go_wp2
    go_meet
    case rel => rfl
 case rest =>
  rw [hcut]
  clear d4 d5
  go_wp2_with fail
  clear d0 hcut
  go_loopw [6] (fun ii wr => ∃ i : Nat, i ≤ N ∧ ii = .int .i64 (i : Int) ∧ Hid (∀ j k, j < i → ks[j]? = some k → badOf k = -1) ∧ Hid (At wr w.heap.size #[.int .i64 6, .bool b, .string r, .string t, .slice ko N kc, .slice vo M vc] 25) ∧ Hid (Below w.heap.size w wr)) (fun ii _ => N - (intOf ii).toNat)
  case atStart => exact ⟨0, Nat.zero_le _, rfl, fun j k h => by omega, A1, B1⟩
  case round =>
   obtain ⟨i, hi, rfl, hI, hA, hb⟩ := hrel
   have c4 := hA.out.cell 4
   simp only [List.getElem?_toArray, List.getElem?_cons_zero, List.getElem?_cons_succ] at c4
   by_cases hlt : i < N
   ·have hli : (i : Int) < (N : Int) := by omega
    obtain ⟨sk, hsk⟩ : ∃ sk, Hid (ks[i]? = some sk) := ⟨_, List.getElem?_eq_getElem (by rw [hN.out]; exact hlt)⟩
    obtain ⟨-, gk, ok, rfl, hgk, cgk⟩ := hk'.out i sk hsk.out
    have s1 := (hb.out.cell (p := ⟨gk, ok + i, none⟩) hgk).trans cgk
    have ad1 : (⟨gk, ok, none⟩ : Addr).add i = ⟨gk, ok + i, none⟩ := by by_cases h : i = 0 <;> simp [Addr.add, h]
    obtain ⟨x, hx⟩ : ∃ x, Hid (badOf sk = x) := ⟨_, rfl⟩
    have hcl := hid (refBad_calls sk (hsz.out i sk hsk.out) wr)
    rw [hx.out] at hcl
    clear cgk
    go_wp2_with fail
    refine Calls.mono hcl.out ?_
    rintro e w1 ⟨rfl, hbb⟩
    have J1 := hid (hA.out.keptAll hbb)
    have Jb := hid (hb.out.trans (hbb.mono hb.out.size))
    clear hcl hbb hA hb s1 c4
    by_cases hx1 : x = -1
    ·have e1 : (x != -1) = false := by simp [hx1]
     have hnx : Hid (∀ j k, j < i + 1 → ks[j]? = some k → badOf k = -1) := fun j k hj hk => by
      by_cases e : j = i
      ·subst e
       rw [hsk.out] at hk
       injection hk with hk
       subst hk
       rw [hx.out]
       exact hx1
      ·exact hI.out j k (by omega) hk
     subst hx1
     clear hI e1
     go_wp2
     go_roundw
     case rel => exact ⟨i + 1, by omega, by simp, hnx, J1, Jb⟩
     case measure => simp [intOf]; omega
    ·have e1 : (x != -1) = true := by simp [hx1]
     have hfin : Hid (AB = false) := by
      show _ = _
      rw [← hAB.out]
      unfold allB
      rw [List.all_eq_false]
      obtain ⟨h1, h2⟩ := List.getElem?_eq_some_iff.mp hsk.out
      exact ⟨sk, by rw [← h2]; exact List.getElem_mem h1, by simp [hx.out, hx1]⟩
     go_wp2
     go_ret
     exact ⟨by rw [hfin.out]; rfl, Jb.out⟩
   ·have hge : (N : Int) ≤ (i : Int) := by omega
    have hfin : Hid (AB = true) := by
     show _ = _
     rw [← hAB.out]
     unfold allB
     rw [List.all_eq_true]
     intro k hk
     obtain ⟨j, hj, he⟩ := List.getElem_of_mem hk
     have := hI.out j k (by rw [hN.out] at hj; omega) (by rw [List.getElem?_eq_getElem hj, he])
     simp [this]
    have c1 := hA.out.cell 1
    have c2 := hA.out.cell 2
    have c3 := hA.out.cell 3
    have c5 := hA.out.cell 5
    simp only [List.getElem?_toArray, List.getElem?_cons_zero, List.getElem?_cons_succ] at c1 c2 c3 c5
    clear hI hA hk' hsz
    obtain ⟨z, hz⟩ : ∃ z, Hid (((N : Int) == (M : Int)) = z) := ⟨_, rfl⟩
    have hz' : Hid (decide (N = M) = z) := by show _ = _; rw [← hz.out, Bool.eq_iff_iff]; simp; omega
    have hz2 := hz.out
    clear hz
    cases b <;> (go_wp2; all_goals go_ret; all_goals (refine ⟨?_, hb.out⟩); all_goals (rw [hfin.out, hz'.out]); all_goals (clear hfin hz'); all_goals (simp_all [Array.getD]; done))
end Go.Proofs.YtlmjiocdhobopaaGreatDoor
/- quarryref17.plain of any value; quarryref17.formed and Formed. -/
namespace Go.Proofs.YtlmjiocdhobopaaGreatDoor
open Go.RowKit Go.Shelf
/-- The fields that a kind uses, all others zero. -/
def plainV : Vt → Bool
 | .mk k b r t ks vs =>
  if k = 1 then decide (ks.length = 0) && (decide (vs.length = 0) && (!b && ((r.toList == []) && (t.toList == []))))
  else if k = 2 then decide (ks.length = 0) && (decide (vs.length = 0) && ((r.toList == []) && (t.toList == [])))
  else if k = 3 then decide (ks.length = 0) && (decide (vs.length = 0) && (!b && ((t.toList == []) && (decide ((ofS r).2 = 0) || decide ((ofS r).2 = 111)))))
  else if k = 4 then decide (ks.length = 0) && (decide (vs.length = 0) && (!b && ((r.toList == []) && decide (badOf t = -1))))
  else if k = 5 then !b && ((r.toList == []) && ((t.toList == []) && decide (ks.length = 0)))
  else if k = 6 then allB ks && (!b && ((r.toList == []) && ((t.toList == []) && decide (ks.length = vs.length))))
  else false
mutual
/-- Its texts and names are of no more than 4294967296 bytes each. -/
def szV : Vt → Prop
 | .mk _ _ _ t ks vs => t.size ≤ 4294967296 ∧ (∀ (i : Nat) (k : ByteArray), ks[i]? = some k → k.size ≤ 4294967296) ∧ szL vs
def szL : List Vt → Prop
 | [] => True
 | v :: vs => szV v ∧ szL vs
end
theorem szL_get : ∀ {vs : List Vt} {i : Nat} {u : Vt}, szL vs → vs[i]? = some u → szV u
 | [], i, u, _, h => by simp at h
 | v :: vs, i, u, hs, h => by
  unfold szL at hs
  cases i with
  | zero => simp at h; subst h; exact hs.1
  | succ i => exact szL_get hs.2 (by simpa using h)
theorem plain17_calls (t : Vt) (hz : szV t) (va : Value) (w : World) (ha : ValAt w t va) :
  Calls Tryz.prog 37 #[va] w fun e w' => e = .returned (.bool (plainV t)) ∧ Below w.heap.size w w' := by
 cases ha with
 | mk k b r t ks vs ko kc vo vc X hw hzz hk hr hv =>
 unfold szV at hz
 obtain ⟨z1, z2, z3, z4⟩ := hzz
 have z1' := z1
 unfold capT at z1'
 unfold plainV
 dsimp only
 by_cases h1 : k = 1
 ·subst h1; rw [if_pos rfl]; exact plain_1 b r t ko ks.length kc vo vs.length vc w
 rw [if_neg h1]
 by_cases h2 : k = 2
 ·subst h2; rw [if_pos rfl]; exact plain_2 b r t ko ks.length kc vo vs.length vc w
 rw [if_neg h2]
 by_cases h3 : k = 3
 ·subst h3; rw [if_pos rfl]; exact plain_3 b r t ko ks.length kc vo vs.length vc w (by omega) _ rfl
 rw [if_neg h3]
 by_cases h4 : k = 4
 ·subst h4; rw [if_pos rfl]; exact plain_4 b r t ko ks.length kc vo vs.length vc w hz.1 _ rfl
 rw [if_neg h4]
 by_cases h5 : k = 5
 ·subst h5; rw [if_pos rfl]; exact plain_5 b r t ko ks.length kc vo vs.length vc w
 rw [if_neg h5]
 by_cases h6 : k = 6
 ·subst h6; rw [if_pos rfl]; exact plain_6 b r t ks ko kc vo vs.length vc w hk z3 z4 hz.2.1
 rw [if_neg h6]
 exact plain_0 k ⟨h1, h2, h3, h4, h5, h6⟩ b r t ko ks.length kc vo vs.length vc w
mutual
/-- Is it well shaped, within so many levels? -/
def wfV : Vt → Int → Bool
 | .mk k b r t ks vs, l => plainV (.mk k b r t ks vs) && (!(decide (k = 5 ∨ k = 6) && decide (l = 0)) && wfL vs (l - 1))
def wfL : List Vt → Int → Bool
 | [], _ => true
 | v :: vs, l => wfV v l && wfL vs l
end
theorem wfL_drop {vs : List Vt} {i : Nat} {u : Vt} (l : Int) (h : vs[i]? = some u) : wfL (vs.drop i) l = (wfV u l && wfL (vs.drop (i + 1)) l) := by
 rw [drop_some h]
 conv => lhs; unfold wfL
/-- What has Kids, and all others zero, is an array or an object. -/
theorem plain_kids {k : Int} {b : Bool} {r t : ByteArray} {ks : List ByteArray} {vs : List Vt} (h : plainV (.mk k b r t ks vs) = true) (hk : ¬ (k = 5 ∨ k = 6)) : vs.length = 0 := by
 unfold plainV at h
 dsimp only at h
 rw [if_neg (show ¬ k = 5 by omega), if_neg (show ¬ k = 6 by omega)] at h
 repeat' split at h
 all_goals first
  | (simp only [Bool.and_eq_true, decide_eq_true_eq] at h; exact h.2.1)
  | (cases h; done)
set_option maxRecDepth 10000 in
set_option maxHeartbeats 4000000 in
theorem form_ex : ∀ (n : Nat) (t : Vt), SizeOf.sizeOf t ≤ n → szV t → ∀ (l : Int), 0 ≤ l → l ≤ 1024 → ∀ (va : Value) (w : World), ValAt w t va →
  Calls Tryz.prog 25 #[va, .int .i64 l] w fun e w' => e = .returned (.bool (wfV t l)) ∧ Below w.heap.size w w' := by
 intro n
 induction n with
 | zero =>
  intro t hs
  cases t
  simp at hs
 | succ n ih =>
  intro t hs hz l hl1 hl2 va w ha
  have hpl := hid (fun u hu => plain17_calls t hz va u hu)
  have ha' := hid ha
  cases ha with
  | mk k b r t ks vs ko kc vo vc X hw hzz hk hr hv =>
  have ih' := hid ih
  have hs' := hid hs
  have hr1 := hid hr
  have hv1 := hid hv
  have hz1 := hid hz
  have hzz1 := hid hzz
  obtain ⟨T, hT⟩ : ∃ T, Hid (wfV (.mk k b r t ks vs) l = T) := ⟨_, rfl⟩
  rw [hT.out]
  obtain ⟨PB, hPB⟩ : ∃ PB, Hid (plainV (.mk k b r t ks vs) = PB) := ⟨_, rfl⟩
  rw [hPB.out] at hpl
  have hT2 : Hid (T = (PB && (!(decide (k = 5 ∨ k = 6) && decide (l = 0)) && wfL vs (l - 1)))) := by
   show _ = _
   rw [← hT.out, ← hPB.out]
   conv => lhs; unfold wfV
  obtain ⟨N, hN⟩ : ∃ N, Hid (ks.length = N) := ⟨_, rfl⟩
  obtain ⟨M, hM⟩ : ∃ M, Hid (vs.length = M) := ⟨_, rfl⟩
  rw [hN.out, hM.out] at hpl ha' ⊢
  have hMi : (M : Int) ≤ 9223372036854775807 := by have := hzz1.out.2.2.2; rw [hM.out] at this; unfold capT at this; omega
  clear ih hs hk hr hv hz hw hzz hT
  have A1 : Hid (At (w.alloc (.cells #[.int .i64 k, .bool b, .string r, .string t, .slice ko N kc, .slice vo M vc] 25)) w.heap.size #[.int .i64 k, .bool b, .string r, .string t, .slice ko N kc, .slice vo M vc] 25) := At.new _ _ _
  have B1 : Hid (Below w.heap.size w (w.alloc (.cells #[.int .i64 k, .bool b, .string r, .string t, .slice ko N kc, .slice vo M vc] 25))) := (Below.refl _ w).alloc (Nat.le_refl _) _
  go_enter Tryz.func25, Tryz.ntmps25
  go_upto_region 1 with fail
  generalize w.alloc (.cells #[.int .i64 k, .bool b, .string r, .string t, .slice ko N kc, .slice vo M vc] 25) = W at A1 B1 ⊢
  have d0 : W.cell? ⟨w.heap.size, 0, none⟩ = some (.int .i64 k) := A1.out.cell 0
  have d1 : W.cell? ⟨w.heap.size, 1, none⟩ = some (.bool b) := A1.out.cell 1
  have d2 : W.cell? ⟨w.heap.size, 2, none⟩ = some (.string r) := A1.out.cell 2
  have d3 : W.cell? ⟨w.heap.size, 3, none⟩ = some (.string t) := A1.out.cell 3
  have d4 : W.cell? ⟨w.heap.size, 4, none⟩ = some (.slice ko N kc) := A1.out.cell 4
  have d5 : W.cell? ⟨w.heap.size, 5, none⟩ = some (.slice vo M vc) := A1.out.cell 5
  have hcl := hid (hpl.out W (ha'.out.kept B1.out))
  clear hpl ha'
  go_wp2_with fail
  refine Calls.mono hcl.out ?_
  rintro e w1 ⟨rfl, hb⟩
  have A2 := hid (A1.out.keptAll hb)
  have B2 := hid (B1.out.trans (hb.mono B1.out.size))
  clear hcl hb A1 B1 d0 d1 d2 d3 d4 d5
  have d0 : w1.cell? ⟨w.heap.size, 0, none⟩ = some (.int .i64 k) := A2.out.cell 0
  cases PB with
  | false =>
   have hfin : Hid (T = false) := by show _ = _; rw [hT2.out]; rfl
   go_wp2
   go_ret
   exact ⟨by rw [hfin.out]; rfl, B2.out⟩
  | true =>
   by_cases hk5 : (k = 5 ∨ k = 6) ∧ l = 0
   ·have hfin : Hid (T = false) := by
     show _ = _
     rw [hT2.out, decide_eq_true hk5.1, decide_eq_true hk5.2]
     rfl
    obtain ⟨hk, rfl⟩ := hk5
    rcases hk with rfl | rfl
    ·go_wp2
     go_ret
     exact ⟨by rw [hfin.out]; rfl, B2.out⟩
    ·go_wp2
     go_ret
     exact ⟨by rw [hfin.out]; rfl, B2.out⟩
   ·have hT3 : Hid (T = wfL vs (l - 1)) := by
     show _ = _
     rw [hT2.out]
     by_cases h1 : k = 5 ∨ k = 6
     ·rw [decide_eq_true h1, decide_eq_false (fun h => hk5 ⟨h1, h⟩)]
      simp
     ·rw [decide_eq_false h1]
      simp
    have hM0 : Hid (¬ (k = 5 ∨ k = 6) → M = 0) := fun h => by rw [← hM.out]; exact plain_kids hPB.out h
    clear hT2 hPB
    go_upto_region 3 with fail
    go_cut [20] from 9 to 20 (fun c wx => c = .bool false ∧ wx = w1)
    case first =>
     obtain ⟨x, hx⟩ : ∃ x, (k == 5) = x := ⟨_, rfl⟩
     obtain ⟨y, hy⟩ : ∃ y, (k == 6) = y := ⟨_, rfl⟩
     have hl0 : (x = true ∨ y = true) → (l == 0) = false := fun h => by
      have : k = 5 ∨ k = 6 := by
       rcases h with rfl | rfl
       ·exact .inl (by simpa using hx)
       ·exact .inr (by simpa using hy)
      have : ¬ l = 0 := fun e => hk5 ⟨this, e⟩
      simpa using this
     cases x
     ·cases y
      ·clear hl0
       go_wp2
       go_meet
       case rel => exact ⟨rfl, rfl⟩
      ·have hl1' := hl0 (.inr rfl)
       clear hl0
       go_wp2
       go_meet
       case rel => exact ⟨rfl, rfl⟩
     ·have hl1' := hl0 (.inl rfl)
      clear hl0
      go_wp2
      go_meet
      case rel => exact ⟨rfl, rfl⟩
    case rest =>
     obtain ⟨rfl, hcw⟩ := hcut
     rw [hcw]
     clear hcw d0
     have hlq : Hid (0 < M → 1 ≤ l) := fun h => by
      by_cases h1 : k = 5 ∨ k = 6
      ·have : ¬ l = 0 := fun e => hk5 ⟨h1, e⟩
       omega
      ·have := hM0.out h1
       omega
     clear hk5 hM0
     go_wp2_with fail
     go_loopw [5] (fun ii wr => ∃ i : Nat, i ≤ M ∧ ii = .int .i64 (i : Int) ∧ Hid (T = wfL (vs.drop i) (l - 1)) ∧ Hid (At wr w.heap.size #[.int .i64 k, .bool b, .string r, .string t, .slice ko N kc, .slice vo M vc] 25) ∧ Hid (Below w.heap.size w wr)) (fun ii _ => M - (intOf ii).toNat)
     case atStart => exact ⟨0, Nat.zero_le _, rfl, hT3, A2, B2⟩
     case round =>
      obtain ⟨i, hi, rfl, hI, hA, hb⟩ := hrel
      have c5 := hA.out.cell 5
      simp only [List.getElem?_toArray, List.getElem?_cons_zero, List.getElem?_cons_succ] at c5
      by_cases hlt : i < M
      ·have hli : (i : Int) < (M : Int) := by omega
       have hlp : 1 ≤ l := hlq.out (by omega)
       obtain ⟨u1, hu1⟩ : ∃ u, Hid (vs[i]? = some u) := ⟨_, List.getElem?_eq_getElem (by rw [hM.out]; exact hlt)⟩
       obtain ⟨g, o, rfl, hg, hrg, hl1'⟩ := row_range (hr1.out.kept hb.out) (i := i) (by rw [hM.out]; exact hlt)
       obtain ⟨L1, hL1⟩ : ∃ L, Hid ((X i).toList = L) := ⟨_, rfl⟩
       rw [hL1.out] at hrg hl1'
       have z1 : (Tryz.prog.info? 25).map (·.size) = some L1.length := by rw [hl1']; exact sizeVl
       have v1 : Hid (ValAt wr u1 (.agg L1.toArray)) := by
        have := (hv1.out i u1 hu1.out).kept hb.out
        rw [← hL1.out, Array.toArray_toList]
        exact this
       obtain ⟨q, hq⟩ : ∃ q, Hid (wfV u1 (l - 1) = q) := ⟨_, rfl⟩
       have hcall : Hid (Calls Tryz.prog 25 #[.agg L1.toArray, .int .i64 (l - 1)] wr fun e w' => e = .returned (.bool q) ∧ Below wr.heap.size wr w') := by
        have hsz := kid_size (k := k) (b := b) (r := r) (t := t) (ks := ks) hu1.out
        have hzu : szV u1 := by
         have := hz1.out
         unfold szV at this
         exact szL_get this.2.2 hu1.out
        have h := ih'.out u1 (by have := hs'.out; omega) hzu (l - 1) (by omega) (by omega) _ wr v1.out
        rw [hq.out] at h
        exact h
       have hnx := hid (hI.out.trans (wfL_drop (l - 1) hu1.out))
       rw [hq.out] at hnx
       have hrgk := hid hrg
       clear hrg hl1' hI
       go_wp2_with (refine wpList_load_want 25 _ g (o + i * 6) L1 _ hrgk.out Tryz.underlying25 z1 rfl rfl rfl (by rfl) ?_)
       refine Calls.mono hcall.out ?_
       rintro e w5 ⟨rfl, hbb⟩
       have J1 := hid (hA.out.keptAll hbb)
       have Jb := hid (hb.out.trans (hbb.mono hb.out.size))
       clear hbb hcall c5 hrgk hA hb
       cases q with
       | true =>
        have hnx2 : Hid (T = wfL (vs.drop (i + 1)) (l - 1)) := by show _ = _; rw [hnx.out]; rfl
        go_wp2
        go_roundw
        case rel => exact ⟨i + 1, by omega, by simp, hnx2, J1, Jb⟩
        case measure => simp [intOf]; omega
       | false =>
        have hfin : Hid (T = false) := by show _ = _; rw [hnx.out]; rfl
        go_wp2
        go_ret
        exact ⟨by rw [hfin.out]; rfl, Jb.out⟩
      ·have hge : (M : Int) ≤ (i : Int) := by omega
       have hfin : Hid (T = true) := by
        show _ = _
        rw [hI.out, List.drop_of_length_le (by rw [hM.out]; omega)]
        unfold wfL
        rfl
       go_wp2
       go_ret
       exact ⟨by rw [hfin.out]; rfl, hb.out⟩
set_option maxRecDepth 10000 in
theorem formed17_calls (t : Vt) (hz : szV t) (va : Value) (w : World) (ha : ValAt w t va) :
  Calls Tryz.prog 17 #[va] w fun e w' => e = .returned (.bool (wfV t 1024)) ∧ Below w.heap.size w w' := by
 have hc := hid (fun u hu => form_ex (SizeOf.sizeOf t) t (Nat.le_refl _) hz 1024 (by decide) (by decide) va u hu)
 generalize wfV t 1024 = B at hc ⊢
 have ha' := hid ha
 cases ha with
 | mk k b r t ks vs ko kc vo vc X hw hzz hk hr hv =>
 clear hw hzz hk hr hv hz
 have B1 : Hid (Below w.heap.size w (w.alloc (.cells #[.int .i64 k, .bool b, .string r, .string t, .slice ko ks.length kc, .slice vo vs.length vc] 25))) := (Below.refl _ w).alloc (Nat.le_refl _) _
 go_enter Tryz.func17, Tryz.ntmps17
 go_wp2_with fail
 generalize w.alloc (.cells #[.int .i64 k, .bool b, .string r, .string t, .slice ko ks.length kc, .slice vo vs.length vc] 25) = W at B1 ⊢
 refine Calls.mono (hc.out W (ha'.out.kept B1.out)) ?_
 rintro e w1 ⟨rfl, hb⟩
 have hb' := hid (B1.out.trans (hb.mono B1.out.size))
 clear hb hc B1 ha'
 go_wp2
 go_ret
 exact ⟨rfl, hb'.out⟩
end Go.Proofs.YtlmjiocdhobopaaGreatDoor
