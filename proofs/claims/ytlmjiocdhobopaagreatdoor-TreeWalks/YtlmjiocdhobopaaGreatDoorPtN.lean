/-
 From values that are alike a pointer leads to values that are alike, or nowhere from both (mathematics).
-/
import Derived.Test.YtlmjiocdhobopaaGreatDoorPtS
import Derived.Test.YtlmjiocdhobopaaGreatDoorTrMA
import Derived.Test.YtlmjiocdhobopaaGreatDoorDecCmp
import Derived.Test.YtlmjiocdhobopaaGreatDoorRefForm
import Derived.Test.YtlmjiocdhobopaaGreatDoorDecR
namespace Go.Proofs.YtlmjiocdhobopaaGreatDoor
open Go.RowKit Go.Shelf
theorem wf_parts {k : Int} {b : Bool} {r t : ByteArray} {ks : List ByteArray} {vs : List Vt} {l : Int} (h : wfV (.mk k b r t ks vs) l = true) : plainV (.mk k b r t ks vs) = true ∧ ((k = 5 ∨ k = 6) → l ≠ 0) ∧ wfL vs (l - 1) = true := by
 unfold wfV at h
 rw [Bool.and_eq_true, Bool.and_eq_true] at h
 refine ⟨h.1, fun hk e => ?_, h.2.2⟩
 have := h.2.1
 rw [decide_eq_true hk, decide_eq_true e] at this
 cases this
theorem plain_leaf {k : Int} {b : Bool} {r t : ByteArray} {ks : List ByteArray} {vs : List Vt} (h : plainV (.mk k b r t ks vs) = true) (hk : ¬ (k = 5 ∨ k = 6)) : vs = [] := by
 have h5 : k ≠ 5 := fun e => hk (.inl e)
 have h6 : k ≠ 6 := fun e => hk (.inr e)
 rw [plainV.eq_def] at h
 simp only [] at h
 by_cases h1 : k = 1
 ·simp [h1] at h; exact h.2.1
 ·by_cases h2 : k = 2
  ·simp [h2] at h; exact h.2.1
  ·by_cases h3 : k = 3
   ·simp [h3] at h; exact h.2.1
   ·by_cases h4 : k = 4
    ·simp [h4] at h; exact h.2.1
    ·simp [h1, h2, h3, h4, h5, h6] at h
end Go.Proofs.YtlmjiocdhobopaaGreatDoor
