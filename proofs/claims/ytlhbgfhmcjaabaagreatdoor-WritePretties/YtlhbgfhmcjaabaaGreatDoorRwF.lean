/-
 quarryref00.FewValue: a value with so many parts at most; math.
-/
import Derived.Test.YtlhbgfhmcjaabaaGreatDoorRwE
namespace Go.Proofs.YtlhbgfhmcjaabaaGreatDoor
open Go.RowKit Go.Shelf
/-- How many names are left: N there were; of M parts K were taken, n more there were room for. -/
def fewK (N M K n : Nat) : Nat := if K < M ∨ K + n < N then min N K else N
mutual
def fewV : Vt → Nat → Vt × Nat
 | .mk k b r t ks vs, n => (.mk k b r t (ks.take (fewK ks.length vs.length (fewL vs n).1.length (fewL vs n).2)) (fewL vs n).1, (fewL vs n).2)
def fewL : List Vt → Nat → List Vt × Nat
 | [], n => ([], n)
 | _ :: _, 0 => ([], 0)
 | v :: vs, n + 1 => ((fewV v n).1 :: (fewL vs (fewV v n).2).1, (fewL vs (fewV v n).2).2)
end
theorem fewL_nil (n : Nat) : fewL [] n = ([], n) := by simp [fewL]
theorem fewL_zero : ∀ (vs : List Vt), fewL vs 0 = ([], 0)
 | [] => by simp [fewL]
 | _ :: _ => by simp [fewL]
/-- Behind q parts that were taken: what is to come. -/
theorem fewL_step {vs : List Vt} {q n : Nat} {u : Vt} (hu : vs[q]? = some u) : fewL (vs.drop q) (n + 1) = ((fewV u n).1 :: (fewL (vs.drop (q + 1)) (fewV u n).2).1, (fewL (vs.drop (q + 1)) (fewV u n).2).2) := by
 have hl := (List.getElem?_eq_some_iff.1 hu).1
 have he : vs.drop q = u :: vs.drop (q + 1) := by
  rw [List.drop_eq_getElem_cons hl]
  congr 1
  exact Option.some.inj ((List.getElem?_eq_getElem hl).symm.trans hu)
 rw [he]
 simp [fewL]
mutual
theorem fewV_le : ∀ (t : Vt) (n : Nat), (fewV t n).2 ≤ n ∧ cntV (fewV t n).1 + (fewV t n).2 ≤ n + 1
 | .mk k b r t ks vs, n => by
  have := fewL_le vs n
  unfold fewV
  constructor
  ·exact this.1
  ·show cntV (.mk k b r t _ _) + _ ≤ _
   unfold cntV
   omega
theorem fewL_le : ∀ (vs : List Vt) (n : Nat), (fewL vs n).2 ≤ n ∧ cntL (fewL vs n).1 + (fewL vs n).2 ≤ n
 | [], n => by simp [fewL, cntL]
 | _ :: _, 0 => by simp [fewL, cntL]
 | v :: vs, n + 1 => by
  have h1 := fewV_le v n
  have h2 := fewL_le vs (fewV v n).2
  unfold fewL
  constructor
  ·show (fewL vs (fewV v n).2).2 ≤ _
   omega
  ·show cntL ((fewV v n).1 :: _) + _ ≤ _
   unfold cntL
   omega
end
theorem cntL_len : ∀ (vs : List Vt), vs.length ≤ cntL vs
 | [] => by simp
 | v :: vs => by
  have h := cntL_len vs
  have h2 : 1 ≤ cntV v := by cases v with | mk k b r t ks ws => unfold cntV; omega
  rw [List.length_cons]
  unfold cntL
  omega
theorem fewK_le (N M K n : Nat) : fewK N M K n ≤ N ∧ fewK N M K n ≤ K + n := by
 unfold fewK
 split <;> omega
end Go.Proofs.YtlhbgfhmcjaabaaGreatDoor
