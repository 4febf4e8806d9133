/-
 Where the pointers lead that tree.Walk tells, where no name stands twice; a pointer behind another one.
-/
import Derived.Test.YtlmjiocdhobopaaGreatDoorPack2
import Derived.Test.YtlmjiocdhobopaaGreatDoorPtN
import Derived.Test.YtlmjiocdhobopaaGreatDoorPack3
namespace Go.Proofs.YtlmjiocdhobopaaGreatDoor
open Go.RowKit Go.Shelf
theorem lk_mkD {l : List UInt8} {i : Nat} {c : UInt8} (h : l[i]? = some c) : lk (mkL l) i = c.toNat := by
 obtain ⟨hi, e⟩ := List.getElem?_eq_some_iff.1 h
 have hs : i < (mkL l).size := by rw [mkL_size]; exact hi
 rw [lk_at _ _ hs, ← e]
 rfl
theorem plain_six {b : Bool} {r t : ByteArray} {ks : List ByteArray} {vs : List Vt} (h : plainV (.mk 6 b r t ks vs) = true) : ks.length = vs.length := by
 have h' : (allB ks && (!b && ((r.toList == []) && ((t.toList == []) && decide (ks.length = vs.length))))) = true := h
 simp only [Bool.and_eq_true, decide_eq_true_eq] at h'
 exact h'.2.2.2.2
theorem dec_len : ∀ (k u : Nat), u < 10 ^ (k + 1) → (Lib.decDigits u).length ≤ k + 1
 | 0, u, h => by rw [Lib.decDigits, dif_pos (by simpa using h)]; simp
 | k + 1, u, h => by
  rw [Lib.decDigits]
  split
  ·simp
  ·have := dec_len k (u / 10) (by rw [Nat.pow_succ] at h; omega)
   rw [List.length_append, List.length_singleton]
   omega
theorem itoa_nat (i : Nat) : Lib.itoa (i : Int) = Lib.decDigits i := by
 unfold Lib.itoa
 rw [if_neg (by omega), Int.toNat_natCast]
mutual
/-- Of a value that is well shaped and not too great each part can be told. -/
theorem okP_of : ∀ (t : Vt) (l : Int), wfV t l = true → blkV t ≤ 2147483640 → lnV t → okP t
 | .mk k b r tx ks vs, l, hw, hb, hln => by
  obtain ⟨hpl, -, hwl⟩ := wf_parts hw
  unfold lnV at hln
  unfold blkV at hb
  unfold okP
  refine ⟨fun i hi => ?_, hln.2.1, okPL_of vs (l - 1) hwl (by omega) hln.2.2⟩
  by_cases h5 : k = 5
  ·exact .inl h5
  ·by_cases h6 : k = 6
   ·subst h6
    have hlen : ks.length = vs.length := plain_six hpl
    obtain ⟨s, hs⟩ : ∃ s, ks[i]? = some s := ⟨_, List.getElem?_eq_getElem (by rw [hlen]; exact hi)⟩
    have := blkK_get hs
    exact .inr ⟨h5, s, hs, by omega⟩
   ·have := plain_leaf hpl (by omega)
    subst this
    simp at hi
theorem okPL_of : ∀ (vs : List Vt) (l : Int), wfL vs l = true → blkL vs ≤ 2147483640 → lnL vs → okPL vs
 | [], _, _, _, _ => by unfold okPL; trivial
 | v :: vs, l, hw, hb, hln => by
  unfold wfL at hw
  unfold blkL at hb
  unfold lnL at hln
  rw [Bool.and_eq_true] at hw
  unfold okPL
  exact ⟨okP_of v l hw.1 (by omega) hln.1, okPL_of vs l hw.2 (by omega) hln.2⟩
end
mutual
theorem prV_bound : ∀ (t : Vt) (p : List UInt8) (x : List UInt8 × Vt), lnV t → x ∈ prV p t → x.1.length ≤ p.length + 32 * blkV t
 | .mk k b r tx ks vs, p, x, hln, hx => by
  unfold lnV at hln
  rw [prV] at hx
  unfold blkV
  rcases List.mem_cons.1 hx with rfl | hx
  ·show p.length ≤ _; omega
  ·have := prL_bound vs p k ks 0 x hln.2.2 (by omega) hx
   omega
theorem prL_bound : ∀ (vs : List Vt) (p : List UInt8) (k : Int) (ks : List ByteArray) (i : Nat) (x : List UInt8 × Vt), lnL vs → i + vs.length ≤ 1099511627776 → x ∈ prL p k ks i vs → x.1.length ≤ p.length + 14 + 2 * blkK ks + 32 * blkL vs
 | [], p, k, ks, i, x, _, _, hx => by simp [prL] at hx
 | v :: vs, p, k, ks, i, x, hln, hi, hx => by
  unfold lnL at hln
  rw [prL] at hx
  unfold blkL
  rcases List.mem_append.1 hx with hx | hx
  ·have h1 := prV_bound v _ x hln.1 hx
   have h2 : (stpK k ks i).length ≤ 2 * blkK ks + 13 := by
    unfold stpK
    split
    ·rw [itoa_nat]
     have := dec_len 12 i (by have : (10 : Nat) ^ (12 + 1) = 10000000000000 := (by decide); rw [List.length_cons] at hi; omega)
     omega
    ·cases hs : ks[i]? with
     | none =>
      rw [Option.getD_none]
      have : wrN ((⟨#[]⟩ : ByteArray).data.toList) = [] := rfl
      rw [this]
      simp
     | some s =>
      rw [Option.getD_some]
      have h3 := wrN_len s.data.toList
      have h4 := blkK_get hs
      have h5 : s.data.toList.length = s.size := by rw [Array.length_toList]; rfl
      omega
   have h6 : 1 ≤ blkV v := by cases v; unfold blkV; omega
   rw [List.length_append, List.length_append, List.length_singleton] at h1
   omega
  ·have := prL_bound vs p k ks (i + 1) x hln.2 (by rw [List.length_cons] at hi; omega) hx
   omega
end
end Go.Proofs.YtlmjiocdhobopaaGreatDoor
