/-
 Within the bound of the document the pretty text of what FewValue leaves is no longer than that.
-/
import Derived.Test.YtlhbgfhmcjaabaaGreatDoorRwH
import Derived.Test.YtlhbgfhmcjaabaaGreatDoorWrN
namespace Go.Proofs.YtlhbgfhmcjaabaaGreatDoor
open Go.RowKit Go.Shelf
theorem fdP_len {D ix d : Nat} (h : ix * d ≤ D) (hD : D ≤ 67108864) : (fdL (lnS D) ix d).length ≤ 67108865 := by
 rw [fd_ln h]
 simp
 omega
mutual
theorem pvP_len {ix D : Nat} (hD : D ≤ 67108864) : ∀ (t : Vt) (d : Nat), ix * (d + depV t) ≤ D → szV t → rwV t → (ptV C2 (lnS D) ix t d).length + 25836912700 ≤ cntV t * 51740934300
 | .mk k b r t ks vs, d, hd, hs, hr => by
  unfold szV at hs
  unfold rwV at hr
  have h3 := quoL_few t hs.1
  have h4 := wordL_len k b r hr.1
  have h0 : ix * d ≤ D := Nat.le_trans (Nat.mul_le_mul_left ix (Nat.le_add_right _ _)) hd
  have hf := fdP_len h0 hD
  unfold ptV cntV
  by_cases h5 : k = 5
  ·subst h5
   have hde : depV (.mk 5 b r t ks vs) = depL vs + 1 := by unfold depV; rw [if_pos (.inl rfl)]
   rw [hde] at hd
   have h1 := paP_len hD vs d 0 hd hs.2.2 hr.2
   rw [if_neg (by decide), if_pos rfl]
   simp only [List.length_cons, List.length_append]
   split <;> simp only [List.length_nil] <;> omega
  ·by_cases h6 : k = 6
   ·subst h6
    have hde : depV (.mk 6 b r t ks vs) = depL vs + 1 := by unfold depV; rw [if_pos (.inr rfl)]
    rw [hde] at hd
    have h2 := poP_len hD vs ks d 0 hd hs.2.2 hr.2 hs.2.1
    rw [if_neg (by decide), if_neg (by decide), if_pos rfl]
    simp only [List.length_cons, List.length_append]
    split <;> simp only [List.length_nil] <;> omega
   ·rw [if_neg h5, if_neg h6]
    split <;> omega
theorem paP_len {ix D : Nat} (hD : D ≤ 67108864) : ∀ (vs : List Vt) (d i : Nat), ix * (d + (depL vs + 1)) ≤ D → szL vs → rwL vs → (ptA C2 (lnS D) ix vs d i).length ≤ cntL vs * 51740934300
 | [], d, i, _, _, _ => by simp [ptA]
 | v :: vs, d, i, hd, hs, hr => by
  unfold szL at hs
  unfold rwL at hr
  have e0 : depL (v :: vs) = max (depV v) (depL vs) := by simp [depL]
  have e1 : depV v ≤ depL (v :: vs) := by rw [e0]; exact Nat.le_max_left _ _
  have e2 : depL vs ≤ depL (v :: vs) := by rw [e0]; exact Nat.le_max_right _ _
  have h1 := pvP_len hD v (d + 1) (Nat.le_trans (Nat.mul_le_mul_left ix (by omega)) hd) hs.1 hr.1
  have h2 := paP_len hD vs d (i + 1) (Nat.le_trans (Nat.mul_le_mul_left ix (by omega)) hd) hs.2 hr.2
  have hf := fdP_len (ix := ix) (d := d + 1) (Nat.le_trans (Nat.mul_le_mul_left ix (by omega)) hd) hD
  unfold ptA cntL
  simp only [List.length_append]
  split <;> simp <;> omega
theorem poP_len {ix D : Nat} (hD : D ≤ 67108864) : ∀ (vs : List Vt) (ks : List ByteArray) (d i : Nat), ix * (d + (depL vs + 1)) ≤ D → szL vs → rwL vs → (∀ (i : Nat) (k : ByteArray), ks[i]? = some k → k.size ≤ 4294967296) → (ptO C2 (lnS D) ix vs ks d i).length ≤ cntL vs * 51740934300
 | [], ks, d, i, _, _, _, _ => by simp [ptO]
 | v :: vs, [], d, i, _, _, _, _ => by simp [ptO]
 | v :: vs, k :: ks, d, i, hd, hs, hr, hk => by
  unfold szL at hs
  unfold rwL at hr
  have e0 : depL (v :: vs) = max (depV v) (depL vs) := by simp [depL]
  have e1 : depV v ≤ depL (v :: vs) := by rw [e0]; exact Nat.le_max_left _ _
  have e2 : depL vs ≤ depL (v :: vs) := by rw [e0]; exact Nat.le_max_right _ _
  have h1 := pvP_len hD v (d + 1) (Nat.le_trans (Nat.mul_le_mul_left ix (by omega)) hd) hs.1 hr.1
  have h2 := poP_len hD vs ks d (i + 1) (Nat.le_trans (Nat.mul_le_mul_left ix (by omega)) hd) hs.2 hr.2 (fun j q hj => hk (j + 1) q hj)
  have h3 := quoL_few k (hk 0 k rfl)
  have hf := fdP_len (ix := ix) (d := d + 1) (Nat.le_trans (Nat.mul_le_mul_left ix (by omega)) hd) hD
  have hc2 : C2.data.toList.length = 2 := rfl
  unfold ptO cntL
  simp only [List.length_append, hc2]
  split <;> simp <;> omega
end
theorem few_smallP (t : Vt) (hb : byd (fewV t 1499).1 = false) : szV (fewV t 1499).1 ∧ depV (fewV t 1499).1 ≤ 1048576 ∧ ∀ ix : Nat, ix ≤ 8 → (preL ix (fewV t 1499).1).length ≤ 140737488355328 := by
 have h1 := few_small t hb
 have h2 := (fewV_le t 1499).2
 have h3 := dep_cnt (fewV t 1499).1
 unfold byd at hb
 have h' : 0 ≤ leftV (fewV t 1499).1 1 0 2147483647 := by simpa using hb
 have h4 := rwV_of _ 1 0 2147483647 (by decide) (by decide) (by decide) h'
 refine ⟨h1.1, h1.2.1, fun ix h8 => ?_⟩
 have hm := Nat.mul_le_mul h8 (show depV (fewV t 1499).1 ≤ 1500 by omega)
 have h5 := pvP_len (ix := ix) (D := ix * depV (fewV t 1499).1) (by omega) (fewV t 1499).1 0 (by rw [Nat.zero_add]; exact Nat.le_refl _) h1.1 h4
 unfold preL
 omega
end Go.Proofs.YtlhbgfhmcjaabaaGreatDoor
