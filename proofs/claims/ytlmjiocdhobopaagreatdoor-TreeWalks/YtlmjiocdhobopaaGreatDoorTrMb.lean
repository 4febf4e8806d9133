/-
 The law TreeMembers, walked.
-/
import Derived.Test.YtlmjiocdhobopaaGreatDoorPack6
import Derived.Test.YtlmjiocdhobopaaGreatDoorTrG
namespace Go.Proofs.YtlmjiocdhobopaaGreatDoor
open Go.RowKit Go.Shelf
theorem leftK_len {d : Int} (hd : 0 ≤ d) : ∀ (ks : List ByteArray) (l : Int), 0 ≤ leftK d ks l → leftK d ks l + (ks.length : Int) ≤ l
 | [], l, _ => by simp [leftK]
 | k :: ks, l, h => by
  unfold leftK at h ⊢
  split at h
  ·omega
  ·rename_i hl
   rw [if_neg hl]
   have := leftK_len hd ks _ h
   have ht := toldN_text (x := (k.size : Int)) (d := d) (y := 0) (by omega) hd (by omega)
   simp only [List.length_cons]
   omega
mutual
theorem lnV_of : ∀ (t : Vt) (d y l : Int), 0 ≤ d → 0 ≤ y → l ≤ 2147483647 → 0 ≤ leftV t d y l → lnV t ∧ leftV t d y l + 1 ≤ l
 | .mk k b r t ks vs, d, y, l, hd, hy, hl, h => by
  unfold leftV at h ⊢
  split at h
  ·omega
  ·rename_i hdd
   rw [if_neg hdd]
   have h1 := leftL_le vs ks d y (leftK d ks (l - toldN ((r.size : Int) + (t.size : Int)) d y)) hd hy
   have h2 := leftK_len hd ks (l - toldN ((r.size : Int) + (t.size : Int)) d y) (by omega)
   have ht := toldN_text (x := (r.size : Int) + (t.size : Int)) (d := d) (y := y) (by omega) hd hy
   obtain ⟨h3, h4⟩ := lnL_of vs ks d y _ hd hy (by omega) h
   unfold lnV
   exact ⟨⟨by omega, by omega, h3⟩, by omega⟩
theorem lnL_of : ∀ (vs : List Vt) (ks : List ByteArray) (d y l : Int), 0 ≤ d → 0 ≤ y → l ≤ 2147483647 → 0 ≤ leftL vs ks d y l → lnL vs ∧ leftL vs ks d y l + (vs.length : Int) ≤ l
 | [], ks, d, y, l, _, _, _, h => by unfold leftL lnL; simp
 | v :: vs, ks, d, y, l, hd, hy, hl, h => by
  unfold leftL at h ⊢
  split at h
  ·omega
  ·rename_i hll
   rw [if_neg hll]
   have h1 := leftL_le vs ks.tail d y (leftV v (d + 1) (y + 21 + 2 * ((ks.headD ByteArray.empty).size : Int)) l) hd hy
   obtain ⟨h2, h3⟩ := lnV_of v (d + 1) (y + 21 + 2 * ((ks.headD ByteArray.empty).size : Int)) l (by omega) (by omega) hl (by omega)
   obtain ⟨h4, h5⟩ := lnL_of vs ks.tail d y _ hd hy (by omega) h
   unfold lnL
   exact ⟨⟨h2, h4⟩, by simp only [List.length_cons]; omega⟩
end
theorem byd_ln {t : Vt} (h : byd t = false) : lnV t := by
 unfold byd at h
 have h' : 0 ≤ leftV t 1 0 2147483647 := by simpa using h
 exact (lnV_of t 1 0 2147483647 (by decide) (by decide) (by decide) h').1
theorem ValAt.shape {w : World} {u : Vt} {x : Value} (h : ValAt w u x) : ∃ k b r t ko N kc vo M vc, x = .agg #[.int .i64 k, .bool b, .string r, .string t, .slice ko N kc, .slice vo M vc] := by
 cases h with
 | mk k b r t ks vs ko kc vo vc X hw hz hk hr hv => exact ⟨_, _, _, _, _, _, _, _, _, _, rfl⟩
end Go.Proofs.YtlmjiocdhobopaaGreatDoor
