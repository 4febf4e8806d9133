/-
  What decimal.Formed and the reference's Formed answer.
-/
import Derived.Test.YtheeonlfbnkhgaaDoorDecMath
namespace Go.Proofs.YtheeonlfbnkhgaaDoor
open Go.RowKit Go.Shelf

/-- Is it well shaped? -/
def frmS (t : ByteArray) (x : Int) : Bool := if t.size = 0 then decide (x = 0) else decide (rn t 0 = t.size) && (decide (lk t 0 ≠ 48) && decide (lk t (t.size - 1) ≠ 48)) && inB x
theorem frm_no {t : ByteArray} {x : Int} (k : Nat) (h : k < t.size) (hd : dgB (lk t k) = false) : frmS t x = false := by
  have h1 : ¬ rn t 0 = t.size := fun e => by
    have := rn_dig t 0 k (Nat.zero_le _) (by omega)
    rw [hd] at this
    cases this
  rw [frmS, if_neg (by omega), decide_eq_false h1]
  rfl
theorem frm_yes {t : ByteArray} {x : Int} (h0 : 0 < t.size) (hd : ∀ i, i < t.size → dgB (lk t i) = true) : frmS t x = ((decide (lk t 0 ≠ 48) && decide (lk t (t.size - 1) ≠ 48)) && inB x) := by
  have h1 : rn t 0 = t.size := rn_uniq t 0 _ (Nat.zero_le _) (fun i _ h => hd i h) (by rw [lk_out t _ (Nat.le_refl _)]; rfl)
  rw [frmS, if_neg (by omega), decide_eq_true h1, Bool.true_and]
theorem frm_none {t : ByteArray} {x : Int} (h0 : t.size = 0) : frmS t x = decide (x = 0) := by rw [frmS, if_pos h0]

theorem digitD_calls (x : Nat) (B : Bool) (hB : Hid (dgB x = B)) (w : World) :
    Calls Tryd.prog 29 #[.int .u8 (x : Int)] w fun e w' => e = .returned (.bool B) ∧ w' = w := by
  go_enter Tryd.func29, Tryd.ntmps29
  have hb := hB.out
  clear hB
  by_cases h1 : 48 ≤ x
  · by_cases h2 : x ≤ 57
    · have e : B = true := by rw [← hb]; exact (dgB_iff x).2 ⟨h1, h2⟩
      subst e
      have e1 : decide ((48 : Int) ≤ (x : Int)) = true := by simp; omega
      have e2 : decide ((x : Int) ≤ 57) = true := by simp; omega
      clear hb
      go_wp2
      go_ret
      exact ⟨by simp; try omega, rfl⟩
    · have e : B = false := by rw [← hb]; unfold dgB; simp; omega
      subst e
      have e1 : decide ((48 : Int) ≤ (x : Int)) = true := by simp; omega
      have e2 : decide ((x : Int) ≤ 57) = false := by simp; omega
      clear hb
      go_wp2
      go_ret
      exact ⟨by simp; try omega, rfl⟩
  · have e : B = false := by rw [← hb]; unfold dgB; simp; omega
    subst e
    have e1 : decide ((48 : Int) ≤ (x : Int)) = false := by simp; omega
    clear hb
    go_wp2
    go_ret
    exact ⟨by simp, rfl⟩
theorem inBd_calls (x : Int) (B : Bool) (hB : Hid (inB x = B)) (w : World) :
    Calls Tryd.prog 30 #[.int .i64 x] w fun e w' => e = .returned (.bool B) ∧ w' = w := by
  go_enter Tryd.func30, Tryd.ntmps30
  have hb := hB.out
  clear hB
  by_cases h1 : -1073741824 ≤ x
  · by_cases h2 : x ≤ 1073741824
    · have e : B = true := by rw [← hb]; unfold inB; simp; omega
      subst e
      clear hb
      go_wp2
      go_ret
      exact ⟨by simp; try omega, rfl⟩
    · have e : B = false := by rw [← hb]; unfold inB; simp; omega
      subst e
      clear hb
      go_wp2
      go_ret
      exact ⟨by simp; try omega, rfl⟩
  · have e : B = false := by rw [← hb]; unfold inB; simp; omega
    subst e
    clear hb
    go_wp2
    go_ret
    exact ⟨by simp; try omega, rfl⟩

set_option maxRecDepth 10000 in
set_option maxHeartbeats 2000000 in
theorem formed_calls (n : Bool) (t : ByteArray) (x : Int) (hs : t.size ≤ 4611686018427387904) (F : Bool) (hF : Hid (frmS t x = F)) (w : World) :
    Calls Tryd.prog 7 #[.agg #[.bool n, .string t, .int .i64 x]] w fun e w' => e = .returned (.bool F) ∧ Below w.heap.size w w' := by
  go_enter Tryd.func7, Tryd.ntmps7
  have hBU : Below w.heap.size w (w.alloc (.cells #[.bool n, .string t, .int .i64 x] 23)) := by repeat (first | with_reducible exact Below.refl _ _ | with_reducible refine Below.setCell ?_ (by first | (simp; done) | (simp; omega)) _ | with_reducible refine below_drewN ?_ _ | with_reducible refine Below.alloc ?_ (by first | (simp; done) | (simp; omega)) _ | with_reducible refine Below.drew ?_)
  have A0 := At.new w #[.bool n, .string t, .int .i64 x] 23
  have c0 : (w.alloc (.cells #[.bool n, .string t, .int .i64 x] 23)).cell? ⟨w.heap.size, 0, none⟩ = some (.bool n) := A0.cell 0
  have c1 : (w.alloc (.cells #[.bool n, .string t, .int .i64 x] 23)).cell? ⟨w.heap.size, 1, none⟩ = some (.string t) := A0.cell 1
  have c2 : (w.alloc (.cells #[.bool n, .string t, .int .i64 x] 23)).cell? ⟨w.heap.size, 2, none⟩ = some (.int .i64 x) := A0.cell 2
  clear A0
  by_cases h0 : t.size = 0
  · have hFF : F = decide (x = 0) := by rw [← hF.out, frm_none h0]
    have e0 : (((t.size : Nat) : Int) == 0) = true := by simp [h0]
    clear hF
    go_wp2
    go_ret
    exact ⟨by first | rfl | (rw [hFF]; rfl) | (subst hFF; rfl) | (simp [hFF]; done), hBU⟩
  · have e0 : (((t.size : Nat) : Int) == 0) = false := beq_eq_false_iff_ne.2 (by omega)
    go_wp2
    go_loop [4, 14] (fun _ i => ∃ k : Nat, k ≤ t.size ∧ i = .int .i64 (k : Int) ∧ Hid (∀ j, j < k → dgB (lk t j) = true)) (fun _ i => t.size - (intOf i).toNat)
    case atStart => exact ⟨0, Nat.zero_le _, rfl, fun j h => by omega⟩
    case round =>
      obtain ⟨k, hk, rfl, hd⟩ := hrel
      by_cases hkl : k < t.size
      · have e1 : decide ((k : Int) < (t.size : Int)) = true := by simp; omega
        have hkI : (k : Int) < (t.size : Int) := by omega
        obtain ⟨y, hy⟩ : ∃ y, t[k].toNat = y := ⟨_, rfl⟩
        have hl := hid ((lk_at t k hkl).trans hy)
        obtain ⟨B, hB⟩ : ∃ B, Hid (dgB y = B) := ⟨_, rfl⟩
        have hc := hid (fun w1 => digitD_calls y B hB w1)
        have hF' := hF
        clear hF
        go_wp2_with fail
        refine Calls.mono (hc.out _) ?_
        rintro e w1 ⟨rfl, rfl⟩
        cases B with
        | true =>
          clear hc
          go_wp2
          go_round
          case rel => exact ⟨k + 1, by omega, by simp, fun j hj => by
                        by_cases hjk : j = k
                        · rw [hjk, hl.out, hB.out]
                        · exact hd.out j (by omega)⟩
          case measure => simp [intOf]; omega
        | false =>
          have hFF : F = false := by rw [← hF'.out]; exact frm_no k hkl (by rw [hl.out, hB.out])
          clear hc hF'
          go_wp2
          go_ret
          exact ⟨by first | rfl | (rw [hFF]; rfl) | (subst hFF; rfl) | (simp [hFF]; done), hBU⟩
      · have e1 : decide ((k : Int) < (t.size : Int)) = false := by simp; omega
        obtain rfl : k = t.size := by omega
        have hz := hid (frm_yes (x := x) (by omega) hd.out)
        have hp0 : 0 < t.size := by omega
        obtain ⟨m, hm⟩ : ∃ m, t.size = m + 1 := ⟨t.size - 1, by omega⟩
        have hmI : ((t.size : Nat) : Int) - 1 = (m : Int) := by omega
        have hml : m < t.size := by omega
        have hmlI : (m : Int) < (t.size : Int) := by omega
        have hp0I : (0 : Int) < (t.size : Int) := by omega
        obtain ⟨y, hy⟩ : ∃ y, t[0].toNat = y := ⟨_, rfl⟩
        obtain ⟨z, hzz⟩ : ∃ y, t[m].toNat = y := ⟨_, rfl⟩
        have l0 := hid ((lk_at t 0 hp0).trans hy)
        have l1 := hid ((lk_at t m hml).trans hzz)
        have hms := hid (show t.size - 1 = m by omega)
        obtain ⟨B, hB⟩ : ∃ B, Hid (inB x = B) := ⟨_, rfl⟩
        have hc := hid (fun w1 => inBd_calls x B hB w1)
        have hF' := hF
        have hFe := hid (show F = ((decide (y ≠ 48) && decide (z ≠ 48)) && B) by rw [← hF'.out, hz.out, l0.out, hms.out, l1.out, hB.out])
        clear hF hF' hz hB hm hd hk hkl hms
        by_cases hy0 : y = 48
        · subst hy0
          have hFF : F = false := by rw [hFe.out]; simp
          clear hc hFe
          go_wp2
          go_ret
          exact ⟨by first | rfl | (rw [hFF]; rfl) | (subst hFF; rfl) | (simp [hFF]; done), hBU⟩
        · have n0 : ((y : Int) != 48) = true := by simp; omega
          by_cases hz0 : z = 48
          · subst hz0
            have hFF : F = false := by rw [hFe.out]; simp
            clear hc hFe
            go_wp2
            go_ret
            exact ⟨by first | rfl | (rw [hFF]; rfl) | (subst hFF; rfl) | (simp [hFF]; done), hBU⟩
          · have n1 : ((z : Int) != 48) = true := by simp; omega
            have hFF : F = B := by rw [hFe.out, decide_eq_true hy0, decide_eq_true hz0]; rfl
            clear hFe
            go_wp2_with fail
            refine Calls.mono (hc.out _) ?_
            rintro e w1 ⟨rfl, rfl⟩
            go_wp2
            go_ret
            exact ⟨by first | rfl | (rw [hFF]; rfl) | (subst hFF; rfl) | (simp [hFF]; done), hBU⟩
end Go.Proofs.YtheeonlfbnkhgaaDoor
