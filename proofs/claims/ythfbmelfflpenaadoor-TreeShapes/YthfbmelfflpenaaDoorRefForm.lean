/-
  What the reference's Formed answers.
-/
import Derived.Test.YthfbmelfflpenaaDoorDecR
namespace Go.Proofs.YthfbmelfflpenaaDoor
open Go.RowKit Go.Shelf

set_option maxRecDepth 10000 in
theorem refDig_calls (s : ByteArray) (i : Nat) (B : Bool) (hB : Hid (dgB (lk s i) = B)) (w : World) :
    Calls Tryd.prog 60 #[.string s, .int .i64 (i : Int)] w fun e w' => e = .returned (.bool B) ∧ w' = w := by
  go_enter Tryd.func60, Tryd.ntmps60
  by_cases hi : i < s.size
  · have e0 : decide ((i : Int) < (s.size : Int)) = true := by simp; omega
    have hiI : (i : Int) < (s.size : Int) := by omega
    obtain ⟨y, hy⟩ : ∃ y, s[i].toNat = y := ⟨_, rfl⟩
    have hb := hid (show dgB y = B by rw [← hB.out, lk_at s i hi, hy])
    clear hB
    by_cases h1 : 48 ≤ y
    · by_cases h2 : y ≤ 57
      · have e : B = true := by rw [← hb.out]; exact (dgB_iff y).2 ⟨h1, h2⟩
        subst e
        have e1 : decide ((48 : Int) ≤ (y : Int)) = true := by simp; omega
        have e2 : decide ((y : Int) ≤ 57) = true := by simp; omega
        clear hb
        go_wp2
        go_ret
        exact ⟨by first | rfl | (simp; done) | (simp; omega), rfl⟩
      · have e : B = false := by rw [← hb.out]; unfold dgB; simp; omega
        subst e
        have e1 : decide ((48 : Int) ≤ (y : Int)) = true := by simp; omega
        have e2 : decide ((y : Int) ≤ 57) = false := by simp; omega
        clear hb
        go_wp2
        go_ret
        exact ⟨by first | rfl | (simp; done) | (simp; omega), rfl⟩
    · have e : B = false := by rw [← hb.out]; unfold dgB; simp; omega
      subst e
      have e1 : decide ((48 : Int) ≤ (y : Int)) = false := by simp; omega
      clear hb
      go_wp2
      go_ret
      exact ⟨by first | rfl | (simp; done) | (simp; omega), rfl⟩
  · have e : B = false := by rw [← hB.out, lk_out s i (by omega)]; rfl
    subst e
    have e0 : decide ((i : Int) < (s.size : Int)) = false := by simp; omega
    clear hB
    go_wp2
    go_ret
    exact ⟨by first | rfl | (simp; done) | (simp; omega), rfl⟩

set_option maxRecDepth 10000 in
set_option maxHeartbeats 2000000 in
theorem refFormed_calls (n : Bool) (t : ByteArray) (x : Int) (hs : t.size ≤ 4611686018427387904) (F : Bool) (hF : Hid (frmS t x = F)) (w : World) :
    Calls Tryd.prog 45 #[.agg #[.bool n, .string t, .int .i64 x]] w fun e w' => e = .returned (.bool F) ∧ Below w.heap.size w w' := by
  go_enter Tryd.func45, Tryd.ntmps45
  have hBU : Below w.heap.size w (w.alloc (.cells #[.bool n, .string t, .int .i64 x] 35)) := by repeat (first | with_reducible exact Below.refl _ _ | with_reducible refine Below.setCell ?_ (by first | (simp; done) | (simp; omega)) _ | with_reducible refine below_drewN ?_ _ | with_reducible refine Below.alloc ?_ (by first | (simp; done) | (simp; omega)) _ | with_reducible refine Below.drew ?_)
  have A0 := At.new w #[.bool n, .string t, .int .i64 x] 35
  have c0 : (w.alloc (.cells #[.bool n, .string t, .int .i64 x] 35)).cell? ⟨w.heap.size, 0, none⟩ = some (.bool n) := A0.cell 0
  have c1 : (w.alloc (.cells #[.bool n, .string t, .int .i64 x] 35)).cell? ⟨w.heap.size, 1, none⟩ = some (.string t) := A0.cell 1
  have c2 : (w.alloc (.cells #[.bool n, .string t, .int .i64 x] 35)).cell? ⟨w.heap.size, 2, none⟩ = some (.int .i64 x) := A0.cell 2
  clear A0
  go_wp2
  go_loop [3] (fun i => ∃ k : Nat, k ≤ t.size ∧ i = .int .i64 (k : Int) ∧ Hid (∀ j, j < k → dgB (lk t j) = true)) (fun i => t.size - (intOf i).toNat)
  case atStart => exact ⟨0, Nat.zero_le _, rfl, fun j h => by omega⟩
  case round =>
    obtain ⟨k, hk, rfl, hd⟩ := hrel
    by_cases hkl : k < t.size
    · have e1 : decide ((k : Int) < (t.size : Int)) = true := by simp; omega
      have hkI : (k : Int) < (t.size : Int) := by omega
      obtain ⟨B, hB⟩ : ∃ B, Hid (dgB (lk t k) = B) := ⟨_, rfl⟩
      have hc := hid (fun w1 => refDig_calls t k B hB w1)
      have hF' := hF
      clear hF
      go_wp2_with fail
      refine Calls.mono (hc.out _) ?_
      rintro e w1 ⟨rfl, rfl⟩
      cases B with
      | true =>
        clear hc
        go_wp2
        go_round
        case rel => exact ⟨k + 1, by omega, by simp, fun j hj => by
                      by_cases hjk : j = k
                      · rw [hjk, hB.out]
                      · exact hd.out j (by omega)⟩
        case measure => simp [intOf]; omega
      | false =>
        have hFF : F = false := by rw [← hF'.out]; exact frm_no k hkl hB.out
        clear hc hF'
        go_wp2
        go_ret
        exact ⟨by first | rfl | (rw [hFF]; rfl) | (subst hFF; rfl), hBU⟩
    · have e1 : decide ((k : Int) < (t.size : Int)) = false := by simp; omega
      obtain rfl : k = t.size := by omega
      by_cases h0 : t.size = 0
      · have hFF : F = decide (x = 0) := by rw [← hF.out, frm_none h0]
        have e0 : (((t.size : Nat) : Int) == 0) = true := by simp [h0]
        clear hF hd hk hkl e1
        go_wp2
        go_ret
        exact ⟨by first | rfl | (rw [hFF]; rfl), hBU⟩
      · have e0 : (((t.size : Nat) : Int) == 0) = false := beq_eq_false_iff_ne.2 (by omega)
        have hz := hid (frm_yes (x := x) (by omega) hd.out)
        have hp0 : 0 < t.size := by omega
        obtain ⟨m, hm⟩ : ∃ m, t.size = m + 1 := ⟨t.size - 1, by omega⟩
        have hmI : ((t.size : Nat) : Int) - 1 = (m : Int) := by omega
        have hml : m < t.size := by omega
        have hmlI : (m : Int) < (t.size : Int) := by omega
        have hp0I : (0 : Int) < (t.size : Int) := by omega
        obtain ⟨y, hy⟩ : ∃ y, t[0].toNat = y := ⟨_, rfl⟩
        obtain ⟨z, hzz⟩ : ∃ y, t[m].toNat = y := ⟨_, rfl⟩
        have l0 := hid ((lk_at t 0 hp0).trans hy)
        have l1 := hid ((lk_at t m hml).trans hzz)
        have hms := hid (show t.size - 1 = m by omega)
        have hFe := hid (show F = ((decide (y ≠ 48) && decide (z ≠ 48)) && inB x) by rw [← hF.out, hz.out, l0.out, hms.out, l1.out])
        clear hF hz hm hd hk hkl hms h0
        by_cases hy0 : y = 48
        · subst hy0
          have hFF : F = false := by rw [hFe.out]; simp
          clear hFe
          go_wp2
          go_ret
          exact ⟨by first | rfl | (rw [hFF]; rfl) | (subst hFF; rfl), hBU⟩
        · have n0 : ((y : Int) != 48) = true := by simp; omega
          by_cases hz0 : z = 48
          · subst hz0
            have hFF : F = false := by rw [hFe.out]; simp
            clear hFe
            go_wp2
            go_ret
            exact ⟨by first | rfl | (rw [hFF]; rfl) | (subst hFF; rfl), hBU⟩
          · have n1 : ((z : Int) != 48) = true := by simp; omega
            have hFF : F = inB x := by rw [hFe.out, decide_eq_true hy0, decide_eq_true hz0]; rfl
            clear hFe
            by_cases h1 : -1073741824 ≤ x
            · by_cases h2 : x ≤ 1073741824
              · have hG : F = true := by rw [hFF]; unfold inB; simp; omega
                clear hFF
                go_wp2
                go_ret
                exact ⟨by first | rfl | (rw [hG]; rfl) | (rw [hG]; simp; done) | (rw [hG]; simp; omega), hBU⟩
              · have hG : F = false := by rw [hFF]; unfold inB; simp; omega
                clear hFF
                go_wp2
                go_ret
                exact ⟨by first | rfl | (rw [hG]; rfl) | (rw [hG]; simp; done) | (rw [hG]; simp; omega), hBU⟩
            · have hG : F = false := by rw [hFF]; unfold inB; simp; omega
              clear hFF
              go_wp2
              go_ret
              exact ⟨by first | rfl | (rw [hG]; rfl) | (rw [hG]; simp; done) | (rw [hG]; simp; omega), hBU⟩
end Go.Proofs.YthfbmelfflpenaaDoor
