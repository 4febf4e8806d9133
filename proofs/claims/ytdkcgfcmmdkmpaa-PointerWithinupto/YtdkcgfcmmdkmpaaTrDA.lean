/-
  TrD, TrD2, one behind the other.
-/
import Derived.Test.YtdkcgfcmmdkmpaaTrAA
/- quarryref17.Count and Depth: how many parts a value has, how deep it is. -/
namespace Go.Proofs.Ytdkcgfcmmdkmpaa
open Go.RowKit Go.Shelf

mutual
/-- How many parts a value has. -/
def cntV : Vt → Nat
  | .mk _ _ _ _ _ vs => cntL vs + 1
def cntL : List Vt → Nat
  | [] => 0
  | v :: vs => cntV v + cntL vs
end
mutual
/-- How deep it is. -/
def depV : Vt → Nat
  | .mk k _ _ _ _ vs => if k = 5 ∨ k = 6 then depL vs + 1 else 0
def depL : List Vt → Nat
  | [] => 0
  | v :: vs => max (depV v) (depL vs)
end
theorem cntL_app (a b : List Vt) : cntL (a ++ b) = cntL a + cntL b := by
  induction a with
  | nil => simp [cntL]
  | cons x a ih => simp only [List.cons_append, cntL, ih]; omega
theorem depL_app (a b : List Vt) : depL (a ++ b) = max (depL a) (depL b) := by
  induction a with
  | nil => simp [depL]
  | cons x a ih => simp only [List.cons_append, depL, ih]; omega
theorem cntL_take (vs : List Vt) (i : Nat) : cntL (vs.take i) ≤ cntL vs := by
  have h := cntL_app (vs.take i) (vs.drop i)
  rw [List.take_append_drop] at h
  omega
theorem depL_take (vs : List Vt) (i : Nat) : depL (vs.take i) ≤ depL vs := by
  have h := depL_app (vs.take i) (vs.drop i)
  rw [List.take_append_drop] at h
  omega
theorem cntL_next {vs : List Vt} {i : Nat} {u : Vt} (h : vs[i]? = some u) : cntL (vs.take (i + 1)) = cntL (vs.take i) + cntV u := by
  rw [List.take_add_one, h, cntL_app]
  simp [cntL]
theorem depL_next {vs : List Vt} {i : Nat} {u : Vt} (h : vs[i]? = some u) : depL (vs.take (i + 1)) = max (depL (vs.take i)) (depV u) := by
  rw [List.take_add_one, h, depL_app]
  simp [depL]

end Go.Proofs.Ytdkcgfcmmdkmpaa

/- quarryref17.Depth: how deep a value is. -/
namespace Go.Proofs.Ytdkcgfcmmdkmpaa
open Go.RowKit Go.Shelf

end Go.Proofs.Ytdkcgfcmmdkmpaa
