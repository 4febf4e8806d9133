/-
 What FewValue leaves is small; within the bound of the document its compact text is no longer than that.
-/
import Derived.Test.YtlhbgfhmcjaabaaGreatDoorRwF
import Derived.Test.YtlhbgfhmcjaabaaGreatDoorRwA
import Derived.Test.YtlhbgfhmcjaabaaGreatDoorWrH
import Derived.Test.YtlhbgfhmcjaabaaGreatDoorTrBd
namespace Go.Proofs.YtlhbgfhmcjaabaaGreatDoor
open Go.RowKit Go.Shelf
mutual
theorem few_ln : ∀ (t : Vt) (n : Nat), n ≤ 1500 → lnV (fewV t n).1
 | .mk k b r t ks vs, n, hn => by
  have h1 := fewL_le vs n
  have h2 := cntL_len (fewL vs n).1
  have h3 := few_lnL vs n hn
  have h4 := fewK_le ks.length vs.length (fewL vs n).1.length (fewL vs n).2
  unfold fewV
  show lnV (.mk k b r t _ _)
  unfold lnV
  refine ⟨?_, by omega, h3⟩
  rw [List.length_take]
  omega
theorem few_lnL : ∀ (vs : List Vt) (n : Nat), n ≤ 1500 → lnL (fewL vs n).1
 | [], n, _ => by simp [fewL, lnL]
 | _ :: _, 0, _ => by simp [fewL, lnL]
 | v :: vs, n + 1, hn => by
  have h0 := (fewV_le v n).1
  have h1 := few_ln v n (by omega)
  have h2 := few_lnL vs (fewV v n).2 (by omega)
  unfold fewL
  show lnL ((fewV v n).1 :: _)
  unfold lnL
  exact ⟨h1, h2⟩
end
mutual
/-- Its numbers' texts. -/
def rwV : Vt → Prop
 | .mk _ _ r _ _ vs => r.size ≤ 4294967296 ∧ rwL vs
def rwL : List Vt → Prop
 | [] => True
 | v :: vs => rwV v ∧ rwL vs
end
mutual
theorem rwV_of : ∀ (t : Vt) (d y l : Int), 0 ≤ d → 0 ≤ y → l ≤ 2147483647 → 0 ≤ leftV t d y l → rwV t
 | .mk k b r t ks vs, d, y, l, hd, hy, hl, h => by
  unfold leftV at h
  split at h
  ·omega
  ·have h1 := leftL_le vs ks d y (leftK d ks (l - toldN ((r.size : Int) + (t.size : Int)) d y)) hd hy
   have h2 := leftK_len' hd ks (l - toldN ((r.size : Int) + (t.size : Int)) d y) (by omega)
   have ht := toldN_text (x := (r.size : Int) + (t.size : Int)) (d := d) (y := y) (by omega) hd hy
   have h3 := rwL_of vs ks d y _ hd hy (by omega) h
   unfold rwV
   exact ⟨by omega, h3⟩
theorem rwL_of : ∀ (vs : List Vt) (ks : List ByteArray) (d y l : Int), 0 ≤ d → 0 ≤ y → l ≤ 2147483647 → 0 ≤ leftL vs ks d y l → rwL vs
 | [], ks, d, y, l, _, _, _, h => by unfold rwL; trivial
 | v :: vs, ks, d, y, l, hd, hy, hl, h => by
  unfold leftL at h
  split at h
  ·omega
  ·have h1 := leftL_le vs ks.tail d y (leftV v (d + 1) (y + 21 + 2 * ((ks.headD ByteArray.empty).size : Int)) l) hd hy
   have h2 := rwV_of v (d + 1) (y + 21 + 2 * ((ks.headD ByteArray.empty).size : Int)) l (by omega) (by omega) hl (by omega)
   have h3 := (bndV_of v (d + 1) (y + 21 + 2 * ((ks.headD ByteArray.empty).size : Int)) l (by omega) (by omega) hl (by omega)).2.2
   have h4 := rwL_of vs ks.tail d y _ hd hy (by omega) h
   unfold rwL
   exact ⟨h2, h4⟩
end
theorem quoL_few (s : ByteArray) (h : s.size ≤ 4294967296) : (quoL s).length ≤ 25769803778 := by
 have := wrS_len s
 have e : (wrS s).1.data.toList.length = (wrS s).1.size := Array.length_toList
 unfold quoL
 rw [List.length_append, List.length_cons, e]
 simp
 omega
theorem fdL_none (ix d : Nat) : fdL ⟨#[]⟩ ix d = [] := by unfold fdL; rw [if_pos (by decide)]
theorem wordL_len (k : Int) (b : Bool) (r : ByteArray) (h : r.size ≤ 4294967296) : (wordL k b r).data.toList.length ≤ 4294967296 := by
 unfold wordL
 split
 ·split <;> decide
 ·split
  ·have e : r.data.toList.length = r.size := Array.length_toList
   omega
  ·decide
mutual
theorem ptV_len : ∀ (t : Vt) (d : Nat), szV t → rwV t → (ptV ⟨#[58]⟩ ⟨#[]⟩ 0 t d).length + 25769803790 ≤ cntV t * 51539607580
 | .mk k b r t ks vs, d, hs, hr => by
  unfold szV at hs
  unfold rwV at hr
  have h1 := ptA_lenC vs d 0 hs.2.2 hr.2
  have h2 := ptO_lenC vs ks d 0 hs.2.2 hr.2 hs.2.1
  have h3 := quoL_few t hs.1
  have h4 := wordL_len k b r hr.1
  unfold ptV cntV
  simp only [fdL_none]
  split
  ·omega
  ·split
   ·simp only [List.length_cons, List.length_append]
    split <;> simp <;> omega
   ·split
    ·simp only [List.length_cons, List.length_append]
     split <;> simp <;> omega
    ·omega
theorem ptA_lenC : ∀ (vs : List Vt) (d i : Nat), szL vs → rwL vs → (ptA ⟨#[58]⟩ ⟨#[]⟩ 0 vs d i).length ≤ cntL vs * 51539607580
 | [], d, i, _, _ => by simp [ptA]
 | v :: vs, d, i, hs, hr => by
  unfold szL at hs
  unfold rwL at hr
  have h1 := ptV_len v (d + 1) hs.1 hr.1
  have h2 := ptA_lenC vs d (i + 1) hs.2 hr.2
  unfold ptA cntL
  simp only [fdL_none, List.length_append]
  split <;> simp <;> omega
theorem ptO_lenC : ∀ (vs : List Vt) (ks : List ByteArray) (d i : Nat), szL vs → rwL vs → (∀ (i : Nat) (k : ByteArray), ks[i]? = some k → k.size ≤ 4294967296) → (ptO ⟨#[58]⟩ ⟨#[]⟩ 0 vs ks d i).length ≤ cntL vs * 51539607580
 | [], ks, d, i, _, _, _ => by simp [ptO]
 | v :: vs, [], d, i, _, _, _ => by simp [ptO]
 | v :: vs, k :: ks, d, i, hs, hr, hk => by
  unfold szL at hs
  unfold rwL at hr
  have h1 := ptV_len v (d + 1) hs.1 hr.1
  have h2 := ptO_lenC vs ks d (i + 1) hs.2 hr.2 (fun j q hj => hk (j + 1) q hj)
  have h3 := quoL_few k (hk 0 k rfl)
  unfold ptO cntL
  simp only [fdL_none, List.length_append]
  split <;> simp <;> omega
end
theorem few_small (t : Vt) (hb : byd (fewV t 1499).1 = false) : szV (fewV t 1499).1 ∧ depV (fewV t 1499).1 ≤ 1048576 ∧ (cmpL (fewV t 1499).1).length ≤ 140737488355328 := by
 have h1 := byd_bnd hb
 have h2 := (fewV_le t 1499).2
 have h3 := dep_cnt (fewV t 1499).1
 unfold byd at hb
 have h' : 0 ≤ leftV (fewV t 1499).1 1 0 2147483647 := by simpa using hb
 have h4 := rwV_of _ 1 0 2147483647 (by decide) (by decide) (by decide) h'
 have h5 := ptV_len _ 0 h1.1 h4
 unfold cmpL
 exact ⟨h1.1, by omega, by omega⟩
end Go.Proofs.YtlhbgfhmcjaabaaGreatDoor
