/-
  quarryref17.plain of numbers, texts and objects, and of what is none of these; all kinds together.
-/
import Derived.Test.YthfbmelfflpenaaDoorTrH
import Derived.Test.YthfbmelfflpenaaDoorRefBad
import Derived.Test.YthfbmelfflpenaaDoorRefOfD
namespace Go.Proofs.YthfbmelfflpenaaDoor
open Go.RowKit Go.Shelf

set_option maxRecDepth 10000 in
set_option maxHeartbeats 4000000 in
theorem plain_3 (b : Bool) (r t : ByteArray) (ko : Option Addr) (N kc : Nat) (vo : Option Addr) (M vc : Nat) (w : World) (hr : r.size ≤ 281474976710656) (er : Nat) (he : Hid ((ofS r).2 = er)) :
    Calls Tryd.prog 31 #[.agg #[.int .i64 3, .bool b, .string r, .string t, .slice ko N kc, .slice vo M vc]] w fun e w' => e = .returned (.bool (decide (N = 0) && (decide (M = 0) && (!b && ((t.toList == []) && (decide (er = 0) || decide (er = 111))))))) ∧ Below w.heap.size w w' := by
  obtain ⟨q, hq⟩ : ∃ q, ofS r = q := ⟨_, rfl⟩
  obtain ⟨⟨dn, dd, dx⟩, e2⟩ := q
  obtain rfl : e2 = er := by rw [← he.out, hq]
  have hof := hid (fun u => refOfD_calls r hr u)
  have hov := hid (show ofV r = .tuple #[.agg #[.bool dn, .string ⟨dd.toArray⟩, .int .i64 dx], .int .i64 (e2 : Int)] by rw [ofV, hq]; rfl)
  rw [hov.out] at hof
  generalize (⟨dd.toArray⟩ : ByteArray) = TD at hof
  clear hov hq he hr
  by_cases h1 : N = 0
  · subst h1
    by_cases h2 : M = 0
    · subst h2
      have A1 := hid (At.new w #[.int .i64 3, .bool b, .string r, .string t, .slice ko 0 kc, .slice vo 0 vc] 25)
      have B1 := hid (show Below w.heap.size w (w.alloc (.cells #[.int .i64 3, .bool b, .string r, .string t, .slice ko 0 kc, .slice vo 0 vc] 25)) by repeat (first | with_reducible exact Below.refl _ _ | with_reducible refine Below.setCell ?_ (by first | (simp; done) | (simp; omega)) _ | with_reducible refine below_drewN ?_ _ | with_reducible refine Below.alloc ?_ (by first | (simp; done) | (simp; omega)) _ | with_reducible refine Below.drew ?_))
      go_enter Tryd.func31, Tryd.ntmps31
      go_wp2_with fail
      generalize w.alloc (.cells #[.int .i64 3, .bool b, .string r, .string t, .slice ko 0 kc, .slice vo 0 vc] 25) = W at A1 B1 ⊢
      refine Calls.mono (hof.out _) ?_
      rintro e w1 ⟨rfl, hb⟩
      have A2 := hid (A1.out.keptAll hb)
      have B2 := hid (show Below w.heap.size w (w1.alloc (.cells #[.bool dn, .string TD, .int .i64 dx] 35)) from (B1.out.trans (hb.mono B1.out.size)).alloc (Nat.le_trans B1.out.size hb.size) _)
      have hlt := A2.out.lt
      have c1 : w1.cell? ⟨w.heap.size, 1, none⟩ = some (.bool b) := A2.out.cell 1
      have c3 : w1.cell? ⟨w.heap.size, 3, none⟩ = some (.string t) := A2.out.cell 3
      clear hof hb A1 B1 A2
      cases b <;> (go_wp2; all_goals go_ret; all_goals (refine ⟨?_, B2.out⟩); all_goals (first | (simp_all [Array.getD]; done) | (simp_all [Array.getD]; rw [Bool.eq_iff_iff]; simp; omega)))
    · have m0 : ((M : Int) == 0) = false := by simp; omega
      have A1 := hid (At.new w #[.int .i64 3, .bool b, .string r, .string t, .slice ko 0 kc, .slice vo M vc] 25)
      have B1 := hid (show Below w.heap.size w (w.alloc (.cells #[.int .i64 3, .bool b, .string r, .string t, .slice ko 0 kc, .slice vo M vc] 25)) by repeat (first | with_reducible exact Below.refl _ _ | with_reducible refine Below.setCell ?_ (by first | (simp; done) | (simp; omega)) _ | with_reducible refine below_drewN ?_ _ | with_reducible refine Below.alloc ?_ (by first | (simp; done) | (simp; omega)) _ | with_reducible refine Below.drew ?_))
      go_enter Tryd.func31, Tryd.ntmps31
      go_wp2_with fail
      generalize w.alloc (.cells #[.int .i64 3, .bool b, .string r, .string t, .slice ko 0 kc, .slice vo M vc] 25) = W at A1 B1 ⊢
      refine Calls.mono (hof.out _) ?_
      rintro e w1 ⟨rfl, hb⟩
      have A2 := hid (A1.out.keptAll hb)
      have B2 := hid (show Below w.heap.size w (w1.alloc (.cells #[.bool dn, .string TD, .int .i64 dx] 35)) from (B1.out.trans (hb.mono B1.out.size)).alloc (Nat.le_trans B1.out.size hb.size) _)
      have hlt := A2.out.lt
      have c1 : w1.cell? ⟨w.heap.size, 1, none⟩ = some (.bool b) := A2.out.cell 1
      have c3 : w1.cell? ⟨w.heap.size, 3, none⟩ = some (.string t) := A2.out.cell 3
      clear hof hb A1 B1 A2
      cases b <;> (go_wp2; all_goals go_ret; all_goals (refine ⟨?_, B2.out⟩); all_goals (first | (simp_all [Array.getD]; done) | (simp_all [Array.getD]; rw [Bool.eq_iff_iff]; simp; omega)))
  · have n0 : ((N : Int) == 0) = false := by simp; omega
    have A1 := hid (At.new w #[.int .i64 3, .bool b, .string r, .string t, .slice ko N kc, .slice vo M vc] 25)
    have B1 := hid (show Below w.heap.size w (w.alloc (.cells #[.int .i64 3, .bool b, .string r, .string t, .slice ko N kc, .slice vo M vc] 25)) by repeat (first | with_reducible exact Below.refl _ _ | with_reducible refine Below.setCell ?_ (by first | (simp; done) | (simp; omega)) _ | with_reducible refine below_drewN ?_ _ | with_reducible refine Below.alloc ?_ (by first | (simp; done) | (simp; omega)) _ | with_reducible refine Below.drew ?_))
    go_enter Tryd.func31, Tryd.ntmps31
    go_wp2_with fail
    generalize w.alloc (.cells #[.int .i64 3, .bool b, .string r, .string t, .slice ko N kc, .slice vo M vc] 25) = W at A1 B1 ⊢
    refine Calls.mono (hof.out _) ?_
    rintro e w1 ⟨rfl, hb⟩
    have A2 := hid (A1.out.keptAll hb)
    have B2 := hid (show Below w.heap.size w (w1.alloc (.cells #[.bool dn, .string TD, .int .i64 dx] 35)) from (B1.out.trans (hb.mono B1.out.size)).alloc (Nat.le_trans B1.out.size hb.size) _)
    have hlt := A2.out.lt
    have c1 : w1.cell? ⟨w.heap.size, 1, none⟩ = some (.bool b) := A2.out.cell 1
    have c3 : w1.cell? ⟨w.heap.size, 3, none⟩ = some (.string t) := A2.out.cell 3
    clear hof hb A1 B1 A2
    cases b <;> (go_wp2; all_goals go_ret; all_goals (refine ⟨?_, B2.out⟩); all_goals (first | (simp_all [Array.getD]; done) | (simp_all [Array.getD]; rw [Bool.eq_iff_iff]; simp; omega)))

set_option maxRecDepth 10000 in
set_option maxHeartbeats 4000000 in
theorem plain_4 (b : Bool) (r t : ByteArray) (ko : Option Addr) (N kc : Nat) (vo : Option Addr) (M vc : Nat) (w : World) (hr : t.size ≤ 4194304) (x : Int) (he : Hid (badOf t = x)) :
    Calls Tryd.prog 31 #[.agg #[.int .i64 4, .bool b, .string r, .string t, .slice ko N kc, .slice vo M vc]] w fun e w' => e = .returned (.bool (decide (N = 0) && (decide (M = 0) && (!b && ((r.toList == []) && decide (x = -1)))))) ∧ Below w.heap.size w w' := by
  have hof := hid (fun u => refBad_calls t hr u)
  rw [he.out] at hof
  clear he hr
  by_cases hz : N = 0 ∧ M = 0 ∧ b = false ∧ r.toList = []
  · obtain ⟨rfl, rfl, rfl, h4⟩ := hz
    have B1 := hid (show Below w.heap.size w (w.alloc (.cells #[.int .i64 4, .bool false, .string r, .string t, .slice ko 0 kc, .slice vo 0 vc] 25)) by repeat (first | with_reducible exact Below.refl _ _ | with_reducible refine Below.setCell ?_ (by first | (simp; done) | (simp; omega)) _ | with_reducible refine below_drewN ?_ _ | with_reducible refine Below.alloc ?_ (by first | (simp; done) | (simp; omega)) _ | with_reducible refine Below.drew ?_))
    go_enter Tryd.func31, Tryd.ntmps31
    go_wp2_with fail
    generalize w.alloc (.cells #[.int .i64 4, .bool false, .string r, .string t, .slice ko 0 kc, .slice vo 0 vc] 25) = W at B1 ⊢
    refine Calls.mono (hof.out _) ?_
    rintro e w1 ⟨rfl, hb⟩
    have B2 := hid (B1.out.trans (hb.mono B1.out.size))
    clear hof hb B1
    go_wp2
    all_goals go_ret
    all_goals (refine ⟨?_, B2.out⟩)
    all_goals (first | (simp_all [Array.getD]; done) | (simp_all [Array.getD]; rw [Bool.eq_iff_iff]; simp))
  · clear hof
    by_cases h1 : N = 0
    · subst h1
      by_cases h2 : M = 0
      · subst h2
        cases b with
        | true =>
          go_enter Tryd.func31, Tryd.ntmps31
          go_wp2
          all_goals go_ret
          all_goals (refine ⟨?_, by repeat (first | with_reducible exact Below.refl _ _ | with_reducible refine Below.setCell ?_ (by first | (simp; done) | (simp; omega)) _ | with_reducible refine below_drewN ?_ _ | with_reducible refine Below.alloc ?_ (by first | (simp; done) | (simp; omega)) _ | with_reducible refine Below.drew ?_)⟩)
          all_goals (simp_all [Array.getD]; done)
        | false =>
          have h4 : ¬ r.toList = [] := fun h => hz ⟨rfl, rfl, rfl, h⟩
          go_enter Tryd.func31, Tryd.ntmps31
          go_wp2
          all_goals go_ret
          all_goals (refine ⟨?_, by repeat (first | with_reducible exact Below.refl _ _ | with_reducible refine Below.setCell ?_ (by first | (simp; done) | (simp; omega)) _ | with_reducible refine below_drewN ?_ _ | with_reducible refine Below.alloc ?_ (by first | (simp; done) | (simp; omega)) _ | with_reducible refine Below.drew ?_)⟩)
          all_goals (simp_all [Array.getD]; done)
      · have m0 : ((M : Int) == 0) = false := by simp; omega
        go_enter Tryd.func31, Tryd.ntmps31
        go_wp2
        all_goals go_ret
        all_goals (refine ⟨?_, by repeat (first | with_reducible exact Below.refl _ _ | with_reducible refine Below.setCell ?_ (by first | (simp; done) | (simp; omega)) _ | with_reducible refine below_drewN ?_ _ | with_reducible refine Below.alloc ?_ (by first | (simp; done) | (simp; omega)) _ | with_reducible refine Below.drew ?_)⟩)
        all_goals (simp_all [Array.getD]; done)
    · have n0 : ((N : Int) == 0) = false := by simp; omega
      go_enter Tryd.func31, Tryd.ntmps31
      go_wp2
      all_goals go_ret
      all_goals (refine ⟨?_, by repeat (first | with_reducible exact Below.refl _ _ | with_reducible refine Below.setCell ?_ (by first | (simp; done) | (simp; omega)) _ | with_reducible refine below_drewN ?_ _ | with_reducible refine Below.alloc ?_ (by first | (simp; done) | (simp; omega)) _ | with_reducible refine Below.drew ?_)⟩)
      all_goals (simp_all [Array.getD]; done)

set_option maxRecDepth 10000 in
set_option maxHeartbeats 4000000 in
theorem plain_0 (k : Int) (hk : k ≠ 1 ∧ k ≠ 2 ∧ k ≠ 3 ∧ k ≠ 4 ∧ k ≠ 5 ∧ k ≠ 6) (b : Bool) (r t : ByteArray) (ko : Option Addr) (N kc : Nat) (vo : Option Addr) (M vc : Nat) (w : World) :
    Calls Tryd.prog 31 #[.agg #[.int .i64 k, .bool b, .string r, .string t, .slice ko N kc, .slice vo M vc]] w fun e w' => e = .returned (.bool false) ∧ Below w.heap.size w w' := by
  obtain ⟨k1, k2, k3, k4, k5, k6⟩ := hk
  have e1 : (k == 1) = false := by simp [k1]
  have e2 : (k == 2) = false := by simp [k2]
  have e3 : (k == 3) = false := by simp [k3]
  have e4 : (k == 4) = false := by simp [k4]
  have e5 : (k == 5) = false := by simp [k5]
  have e6 : (k == 6) = false := by simp [k6]
  go_enter Tryd.func31, Tryd.ntmps31
  go_wp2
  all_goals go_ret
  all_goals (exact ⟨rfl, by repeat (first | with_reducible exact Below.refl _ _ | with_reducible refine Below.setCell ?_ (by first | (simp; done) | (simp; omega)) _ | with_reducible refine below_drewN ?_ _ | with_reducible refine Below.alloc ?_ (by first | (simp; done) | (simp; omega)) _ | with_reducible refine Below.drew ?_)⟩)
end Go.Proofs.YthfbmelfflpenaaDoor
