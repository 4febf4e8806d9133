/-
  What decimal.Formed and the reference's Formed answer.
-/
import Derived.Test.YtheeonlfbnkhgaaGreatDoorDecMath
namespace Go.Proofs.YtheeonlfbnkhgaaGreatDoor
open Go.RowKit Go.Shelf

/-- Is it well shaped? -/
def frmS (t : ByteArray) (x : Int) : Bool := if t.size = 0 then decide (x = 0) else decide (rn t 0 = t.size) && (decide (lk t 0 ≠ 48) && decide (lk t (t.size - 1) ≠ 48)) && inB x
theorem frm_no {t : ByteArray} {x : Int} (k : Nat) (h : k < t.size) (hd : dgB (lk t k) = false) : frmS t x = false := by
  have h1 : ¬ rn t 0 = t.size := fun e => by
    have := rn_dig t 0 k (Nat.zero_le _) (by omega)
    rw [hd] at this
    cases this
  rw [frmS, if_neg (by omega), decide_eq_false h1]
  rfl
theorem frm_yes {t : ByteArray} {x : Int} (h0 : 0 < t.size) (hd : ∀ i, i < t.size → dgB (lk t i) = true) : frmS t x = ((decide (lk t 0 ≠ 48) && decide (lk t (t.size - 1) ≠ 48)) && inB x) := by
  have h1 : rn t 0 = t.size := rn_uniq t 0 _ (Nat.zero_le _) (fun i _ h => hd i h) (by rw [lk_out t _ (Nat.le_refl _)]; rfl)
  rw [frmS, if_neg (by omega), decide_eq_true h1, Bool.true_and]
theorem frm_none {t : ByteArray} {x : Int} (h0 : t.size = 0) : frmS t x = decide (x = 0) := by rw [frmS, if_pos h0]

theorem digitD_calls (x : Nat) (B : Bool) (hB : Hid (dgB x = B)) (w : World) :
    Calls Tryz.prog 123 #[.int .u8 (x : Int)] w fun e w' => e = .returned (.bool B) ∧ w' = w := by
  go_enter Tryz.func123, Tryz.ntmps123
  have hb := hB.out
  clear hB
  by_cases h1 : 48 ≤ x
  · by_cases h2 : x ≤ 57
    · have e : B = true := by rw [← hb]; exact (dgB_iff x).2 ⟨h1, h2⟩
      subst e
      have e1 : decide ((48 : Int) ≤ (x : Int)) = true := by simp; omega
      have e2 : decide ((x : Int) ≤ 57) = true := by simp; omega
      clear hb
      go_wp2
      go_ret
      exact ⟨by simp; try omega, rfl⟩
    · have e : B = false := by rw [← hb]; unfold dgB; simp; omega
      subst e
      have e1 : decide ((48 : Int) ≤ (x : Int)) = true := by simp; omega
      have e2 : decide ((x : Int) ≤ 57) = false := by simp; omega
      clear hb
      go_wp2
      go_ret
      exact ⟨by simp; try omega, rfl⟩
  · have e : B = false := by rw [← hb]; unfold dgB; simp; omega
    subst e
    have e1 : decide ((48 : Int) ≤ (x : Int)) = false := by simp; omega
    clear hb
    go_wp2
    go_ret
    exact ⟨by simp, rfl⟩
theorem inBd_calls (x : Int) (B : Bool) (hB : Hid (inB x = B)) (w : World) :
    Calls Tryz.prog 127 #[.int .i64 x] w fun e w' => e = .returned (.bool B) ∧ w' = w := by
  go_enter Tryz.func127, Tryz.ntmps127
  have hb := hB.out
  clear hB
  by_cases h1 : -1073741824 ≤ x
  · by_cases h2 : x ≤ 1073741824
    · have e : B = true := by rw [← hb]; unfold inB; simp; omega
      subst e
      clear hb
      go_wp2
      go_ret
      exact ⟨by simp; try omega, rfl⟩
    · have e : B = false := by rw [← hb]; unfold inB; simp; omega
      subst e
      clear hb
      go_wp2
      go_ret
      exact ⟨by simp; try omega, rfl⟩
  · have e : B = false := by rw [← hb]; unfold inB; simp; omega
    subst e
    clear hb
    go_wp2
    go_ret
    exact ⟨by simp; try omega, rfl⟩

end Go.Proofs.YtheeonlfbnkhgaaGreatDoor
