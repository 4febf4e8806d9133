/-
 A value within the bound of the document: its texts, its names, its parts.
-/
import Derived.Test.YtlmjiocdhobopaaGreatDoorTrMA
import Derived.Test.YtlmjiocdhobopaaGreatDoorPack1
import Derived.Test.YtlmjiocdhobopaaGreatDoorTrG
namespace Go.Proofs.YtlmjiocdhobopaaGreatDoor
theorem leftK_len' {d : Int} (hd : 0 ≤ d) : ∀ (ks : List ByteArray) (l : Int), 0 ≤ leftK d ks l → leftK d ks l + (ks.length : Int) ≤ l
 | [], l, _ => by simp [leftK]
 | k :: ks, l, h => by
  unfold leftK at h ⊢
  split at h
  ·omega
  ·rename_i hl
   rw [if_neg hl]
   have := leftK_len' hd ks _ h
   have ht := toldN_text (x := (k.size : Int)) (d := d) (y := 0) (by omega) hd (by omega)
   simp only [List.length_cons]
   omega
mutual
theorem bndV_of : ∀ (t : Vt) (d y l : Int), 0 ≤ d → 0 ≤ y → l ≤ 2147483647 → 0 ≤ leftV t d y l → szV t ∧ nkV t ∧ leftV t d y l + (cntV t : Int) ≤ l
 | .mk k b r t ks vs, d, y, l, hd, hy, hl, h => by
  unfold leftV at h ⊢
  split at h
  ·omega
  ·rename_i hdd
   rw [if_neg hdd]
   have h1 := leftL_le vs ks d y (leftK d ks (l - toldN ((r.size : Int) + (t.size : Int)) d y)) hd hy
   have h2 := leftK_len' hd ks (l - toldN ((r.size : Int) + (t.size : Int)) d y) (by omega)
   have h5 := leftK_key hd ks (l - toldN ((r.size : Int) + (t.size : Int)) d y) (by omega)
   have ht := toldN_text (x := (r.size : Int) + (t.size : Int)) (d := d) (y := y) (by omega) hd hy
   obtain ⟨h3, h4, h6⟩ := bndL_of vs ks d y _ hd hy (by omega) h
   unfold szV nkV cntV
   refine ⟨⟨by omega, fun i k hk => ?_, h3⟩, ⟨by omega, h4⟩, by omega⟩
   have := h5 i k hk
   omega
theorem bndL_of : ∀ (vs : List Vt) (ks : List ByteArray) (d y l : Int), 0 ≤ d → 0 ≤ y → l ≤ 2147483647 → 0 ≤ leftL vs ks d y l → szL vs ∧ nkL vs ∧ leftL vs ks d y l + (cntL vs : Int) ≤ l
 | [], ks, d, y, l, _, _, _, h => by unfold leftL szL nkL cntL; simp
 | v :: vs, ks, d, y, l, hd, hy, hl, h => by
  unfold leftL at h ⊢
  split at h
  ·omega
  ·rename_i hll
   rw [if_neg hll]
   have h1 := leftL_le vs ks.tail d y (leftV v (d + 1) (y + 21 + 2 * ((ks.headD ByteArray.empty).size : Int)) l) hd hy
   obtain ⟨h2, h3, h6⟩ := bndV_of v (d + 1) (y + 21 + 2 * ((ks.headD ByteArray.empty).size : Int)) l (by omega) (by omega) hl (by omega)
   obtain ⟨h4, h5, h7⟩ := bndL_of vs ks.tail d y _ hd hy (by omega) h
   unfold szL nkL cntL
   exact ⟨⟨h2, h4⟩, ⟨h3, h5⟩, by omega⟩
end
mutual
theorem dep_cnt : ∀ t : Vt, depV t ≤ cntV t
 | .mk k b r t ks vs => by
  have := depL_cnt vs
  unfold depV cntV
  split <;> omega
theorem depL_cnt : ∀ vs : List Vt, depL vs ≤ cntL vs
 | [] => Nat.le_refl _
 | v :: vs => by
  have := dep_cnt v
  have := depL_cnt vs
  unfold depL cntL
  omega
end
theorem byd_bnd {t : Vt} (h : byd t = false) : szV t ∧ nkV t ∧ cntV t ≤ 2147483647 ∧ depV t ≤ 2147483647 := by
 unfold byd at h
 have h' : 0 ≤ leftV t 1 0 2147483647 := by simpa using h
 obtain ⟨h1, h2, h3⟩ := bndV_of t 1 0 2147483647 (by decide) (by decide) (by decide) h'
 have := dep_cnt t
 exact ⟨h1, h2, by omega, by omega⟩
end Go.Proofs.YtlmjiocdhobopaaGreatDoor
