/-
  The walk through quarrylaw10.LevelsSteps.
-/
import Derived.Test.YthhgojdnpkcaaaaDoorLvAwake
import Derived.Deep.DeepCutAuto
namespace Go.Proofs.YthhgojdnpkcaaaaDoor
open Go.RowKit Go.Shelf

theorem kind_cl (s : ByteArray) (i : Nat) (h : i < s.size) : clB (kindN s i) = brC s i := by
  unfold kindN
  rw [if_pos ⟨by omega, by omega⟩, Int.toNat_natCast]
  cases hb : begS s i
  · rw [nbeg_cl hb]; rfl
  · rw [beg_cl hb, if_pos rfl]
    split
    · rename_i hw
      cases hc : clB (byteAt s i)
      · rfl
      · unfold wordS at hw
        rw [sgn_cl hc] at hw
        simp at hw
    · rfl
theorem kind_opN (s : ByteArray) (i : Nat) : opB (kindN s i) = brO s i := by
  cases hb : brO s i
  · cases ho : opB (kindN s i)
    · rfl
    · obtain ⟨j, hj, hj2⟩ := (kind_op s i).1 ho
      have : j = i := by omega
      subst this
      rw [hb] at hj2; cases hj2
  · exact (kind_op s i).2 ⟨i, rfl, hb⟩
theorem no_end {s : ByteArray} {a : Nat} (h : brO s a = true) (j : Nat) (hz : ∀ q, q ≤ a + j → clsP s a q = false) : ∀ i, i ≤ j → endP (s.extract a s.size) i = false := by
  intro i
  induction i using Nat.strongRecOn with
  | _ i ih =>
    intro hi
    rw [← rest_cls h i (fun j' hj' => ih j' hj' (by omega))]
    exact hz _ (by omega)
/-- Behind the bracket, as long as it isn't closed, it lies deeper. -/
theorem deep_in {s : ByteArray} {a i : Nat} (h : brO s a = true) (hai : a ≤ i) (hz : ∀ q, q ≤ i → clsP s a q = false) : depS s a + 1 ≤ depS s (i + 1) := by
  obtain ⟨h1, h2⟩ := rest_dep h (i - a) (fun j hj => no_end h (i - a) (fun q hq => hz q (by omega)) j (by omega))
  rw [show a + (i - a + 1) = i + 1 by omega] at h1
  omega
theorem op_is {x : Nat} (h : opB x = true) : x = 123 ∨ x = 91 := by
  unfold opB at h; simpa using h
theorem cl_is {x : Nat} (h : clB x = true) : x = 125 ∨ x = 93 := by
  unfold clB at h; simpa using h
theorem op_not {x : Nat} (h : opB x = false) : x ≠ 123 ∧ x ≠ 91 := by
  unfold opB at h; simpa using h
theorem cl_not {x : Nat} (h : clB x = false) : x ≠ 125 ∧ x ≠ 93 := by
  unfold clB at h; simpa using h

end Go.Proofs.YthhgojdnpkcaaaaDoor
