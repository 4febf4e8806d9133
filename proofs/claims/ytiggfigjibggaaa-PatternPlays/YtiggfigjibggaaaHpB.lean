/-
  The heap in memory; put, moved, goesAhead.
-/
import Derived.Test.YtiggfigjibggaaaHpA
namespace Go.Proofs.Ytiggfigjibggaaa
open Go.RowKit Go.Shelf

/-- An entry's cells. -/
def entC (e : Ent) (q : Int) : Array Value := #[.string e.r, .string e.n, .int .i64 (e.p : Int), .int .i64 (e.h : Int), .int .i64 (e.a : Int), .int .i64 q]
abbrev ptB (b : Nat) : Value := .pointer (some ⟨b, 0, none⟩)
/-- A pattern's cells. -/
def patC (room came : Int) (mv v : Value) : Array Value := #[.int .i64 room, .int .i64 came, mv, v, .func (.func 22) #[] #[], .func (.func 23) #[] #[]]

set_option maxRecDepth 10000 in
set_option maxHeartbeats 4000000 in
theorem ahead_calls (x y : Ent) (bx c : Nat) (qx qy : Int) (w : World) (hx : At w bx (entC x qx) 78) (hy : At w c (entC y qy) 78) :
    Calls Try.prog 22 #[ptB bx, ptB c] w fun e w' => e = .returned (.bool (decide (ahd x y))) ∧ ∃ q, w' = w.drewN q := by
  have a3 := hx.cell 3
  have a4 := hx.cell 4
  have d3 := hy.cell 3
  have d4 := hy.cell 4
  simp only [entC, List.getElem?_toArray, List.getElem?_cons_succ, List.getElem?_cons_zero] at a3 a4 d3 d4
  obtain ⟨xr, xn, xp, xh, xa⟩ := x
  obtain ⟨yr, yn, yp, yh, ya⟩ := y
  dsimp only at a3 a4 d3 d4
  obtain ⟨B, hB⟩ : ∃ B, Hid (decide (ahd ⟨xr, xn, xp, xh, xa⟩ ⟨yr, yn, yp, yh, ya⟩) = B) := ⟨_, rfl⟩
  rw [hB.out]
  have hB' := hB.out
  unfold ahd at hB'
  dsimp only at hB'
  clear hx hy
  go_enter Try.func22, Try.ntmps22
  by_cases h1 : xh < yh
  · have e1 : decide ((xh : Int) < (yh : Int)) = true := by simpa using h1
    obtain rfl : B = true := by rw [← hB']; simp [h1]
    clear hB'
    go_wp2_with fail
    go_quiet (fail)
    go_wp2
    go_ret
    exact ⟨rfl, _, rfl⟩
  · have e1 : decide ((xh : Int) < (yh : Int)) = false := by simpa using h1
    by_cases h2 : xh = yh
    · subst h2
      by_cases h3 : xa < ya
      · have e3 : decide ((xa : Int) < (ya : Int)) = true := by simpa using h3
        obtain rfl : B = true := by rw [← hB']; simp [h3]
        clear hB'
        go_wp2_with fail
        go_quiet (fail)
        go_wp2
        go_ret
        exact ⟨rfl, _, rfl⟩
      · have e3 : decide ((xa : Int) < (ya : Int)) = false := by simpa using h3
        obtain rfl : B = false := by rw [← hB']; simp [h3]
        clear hB'
        go_wp2_with fail
        go_quiet (fail)
        go_wp2
        go_ret
        exact ⟨rfl, _, rfl⟩
    · have e2 : ((xh : Int) == (yh : Int)) = false := by simp; omega
      obtain rfl : B = false := by rw [← hB']; simp [h1, h2]
      clear hB'
      go_wp2_with fail
      go_quiet (fail)
      go_wp2
      go_ret
      exact ⟨rfl, _, rfl⟩
theorem moved_calls (b : Nat) (i : Int) (w : World) (q : Value) (d5 : w.cell? ⟨b, 5, none⟩ = some q) (f5 : w.frozen? ⟨b, 5, none⟩ = false) :
    Calls Try.prog 23 #[ptB b, .int .i64 i] w fun e w' => e = .returned (.tuple #[]) ∧ w' = w.setCell ⟨b, 5, none⟩ (.int .i64 i) := by
  go_enter Try.func23, Try.ntmps23
  go_wp2
  go_end0
  exact ⟨rfl, rfl⟩
set_option maxRecDepth 10000 in
set_option maxHeartbeats 4000000 in
/-- (*heap).put. -/
theorem put_calls (room came : Int) (mv : Value) (pb g n cap b i : Nat) (cs : Array Value) (w : World) (hp : At w pb (patC room came mv (.slice (some ⟨g, 0, none⟩) n cap)) 71) (hi : i < n) (u : Value) (hr : w.cell? ⟨g, i, none⟩ = some u) (hf : w.frozen? ⟨g, i, none⟩ = false) (hne : g ≠ pb) (hgb : g ≠ b) (q : Value) (hc : At w b cs 78) (h5 : cs[5]? = some q) :
    Calls Try.prog 43 #[.pointer (some ⟨pb, 3, none⟩), ptB b, .int .i64 (i : Int)] w fun e w' => e = .returned (.tuple #[]) ∧ w' = (w.setCell ⟨g, i, none⟩ (ptB b)).setCell ⟨b, 5, none⟩ (.int .i64 (i : Int)) := by
  have hi' : (i : Int) < (n : Int) := by omega
  have c3 := hp.cell 3
  have e5 := (hp.other (p := ⟨g, i, none⟩) (fun e => hne e.symm) (ptB b)).cell 5
  simp only [patC, List.getElem?_toArray, List.getElem?_cons_succ, List.getElem?_cons_zero] at c3 e5
  have ad : (⟨g, 0, none⟩ : Addr).add i = ⟨g, i, none⟩ := by by_cases h : i = 0 <;> simp [Addr.add, h]
  have d5 := (hc.other (p := ⟨g, i, none⟩) (fun e => hgb e.symm) (ptB b)).cell 5
  have f5 := (hc.other (p := ⟨g, i, none⟩) (fun e => hgb e.symm) (ptB b)).frozen 5
  rw [h5] at d5
  have hm := hid (moved_calls b (i : Int) _ q d5 f5)
  clear hp hc hne hgb h5 d5 f5
  go_enter Try.func43, Try.ntmps43
  go_wp2_with fail
  refine Calls.mono hm.out ?_
  rintro e w1 ⟨rfl, rfl⟩
  clear hm
  go_wp2
  go_end0
  exact ⟨rfl, rfl⟩
end Go.Proofs.Ytiggfigjibggaaa
