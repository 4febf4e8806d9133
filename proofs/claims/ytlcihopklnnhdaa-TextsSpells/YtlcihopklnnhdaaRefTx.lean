/-
  What the reference of texts answers of a piece.
-/
import Derived.Test.YtlcihopklnnhdaaTxMath
import Derived.Test.YtlcihopklnnhdaaKitA
namespace Go.Proofs.Ytlcihopklnnhdaa
open Go.RowKit Go.Shelf

set_option maxRecDepth 10000 in
theorem digit_calls (c : Nat) (hc : c < 256) (w : World) : Calls Try.prog 50 #[.int .u8 (c : Int)] w fun e w' => e = .returned (.int .i64 (hexZ c)) ∧ w' = w := by
  obtain ⟨z, hz⟩ : ∃ z, Hid (hexZ c = z) := ⟨_, rfl⟩
  rw [hz.out]
  have hz2 := hz.out
  unfold hexZ at hz2
  by_cases h1 : 48 ≤ c ∧ c ≤ 57
  · rw [if_pos h1] at hz2
    have h2 := h1.1
    have h3 := h1.2
    subst hz2
    clear h1 hz
    go_enter Try.func50, Try.ntmps50
    go_wp2
    go_ret
    exact ⟨by simp, rfl⟩
  · rw [if_neg h1] at hz2
    by_cases h4 : 97 ≤ c ∧ c ≤ 102
    · rw [if_pos h4] at hz2
      have h2 := h4.1
      have h3 := h4.2
      have h5 : 58 ≤ c := by omega
      have e : (c : Int) - 97 + 10 = (c : Int) - 87 := by omega
      subst hz2
      clear h1 h4 hz
      go_enter Try.func50, Try.ntmps50
      go_wp2
      go_ret
      exact ⟨by simp, rfl⟩
    · rw [if_neg h4] at hz2
      by_cases h6 : 65 ≤ c ∧ c ≤ 70
      · rw [if_pos h6] at hz2
        have h2 := h6.1
        have h3 := h6.2
        have e : (c : Int) - 65 + 10 = (c : Int) - 55 := by omega
        subst hz2
        clear h1 h4 h6 hz
        go_enter Try.func50, Try.ntmps50
        go_wp2
        go_ret
        exact ⟨by simp, rfl⟩
      · rw [if_neg h6] at hz2
        subst hz2
        clear hz
        have key : c < 48 ∨ (58 ≤ c ∧ c < 65) ∨ (71 ≤ c ∧ c < 97) ∨ 103 ≤ c := by omega
        clear h1 h4 h6
        go_enter Try.func50, Try.ntmps50
        rcases key with h | ⟨h, h'⟩ | ⟨h, h'⟩ | h
        · go_wp2
          go_ret
          exact ⟨rfl, rfl⟩
        · go_wp2
          go_ret
          exact ⟨rfl, rfl⟩
        · go_wp2
          go_ret
          exact ⟨rfl, rfl⟩
        · go_wp2
          go_ret
          exact ⟨rfl, rfl⟩
theorem sizePc : (Try.prog.info? 50).map (·.size) = some 3 := by kernel_rfl
theorem At.three15 {w : World} {b : Nat} {x0 x1 x2 y0 y1 y2 : Value} {t : TypeId} (h : At w b #[x0, x1, x2] t) : At (((w.setCell ⟨b, 0, none⟩ y0).setCell ⟨b, 1, none⟩ y1).setCell ⟨b, 2, none⟩ y2) b #[y0, y1, y2] t := by
  have := ((h.set 0 y0).set 1 y1).set 2 y2
  simpa using this
theorem ret_pc {fn : Func} {p : Tmp} {R : Ending → World → Prop} {a : Act} {w : World} {b : Nat} {x0 x1 x2 : Value} (hres : fn.results = #[.cell p 50]) (hp : a.tmps.getD p undef = .pointer (some ⟨b, 0, none⟩))
    (h : At w b #[x0, x1, x2] 50) (hd : a.defers = []) (hR : R (.returned (.agg #[x0, x1, x2])) w) : bodyPost Try.prog fn R .ret a w :=
  bodyPost_ret (v := .agg #[x0, x1, x2]) (results_cell_row (P := Try.prog) hres _ w b 50 #[x0, x1, x2] (0, 0) _ hp h Try.underlying50 rfl sizePc) hd hR
/-- A piece as a value. -/
def pcV (p : Pc) : Value := .agg #[.int .i64 (p.size : Int), .int .i64 (p.means : Int), .bool p.four]

set_option maxRecDepth 10000 in
theorem four_calls (s : ByteArray) (hs : s.size ≤ 4611686018427387904) (w : World) : Calls Try.prog 44 #[.string s] w fun e w' => e = .returned (pcV (fourP (bAt s) s.size)) ∧ Below w.heap.size w w' := by
  by_cases h6 : s.size < 6
  · have e : fourP (bAt s) s.size = pc0 := by unfold fourP; rw [if_neg (by omega)]
    rw [e]
    have hi : (s.size : Int) < 6 := by omega
    go_enter Try.func44, Try.ntmps44
    go_wp2
    refine ret_pc rfl rfl (At.new _ _ _) rfl ⟨rfl, by repeat (first | with_reducible exact Below.refl _ _ | with_reducible refine Below.setCell ?_ (by first | (simp; done) | (simp; omega)) _ | with_reducible refine below_drewN ?_ _ | with_reducible refine Below.alloc ?_ (by first | (simp; done) | (simp; omega)) _ | with_reducible refine Below.drew ?_)⟩
  · have hi : (6 : Int) ≤ (s.size : Int) := by omega
    have hd := hid (fun (c : Nat) (hc : c < 256) (w1 : World) => digit_calls c hc w1)
    go_enter Try.func44, Try.ntmps44
    go_wp2
    go_loopw [3, 4, 5] (fun nn ii _ wr => ∃ j : Nat, j ≤ 4 ∧ ii = .int .i64 ((2 + j : Nat) : Int) ∧ nn = .int .i64 ((hexV (bAt s) j : Nat) : Int) ∧ Hid (hexOk (bAt s) j = true) ∧ wr = w.alloc (.cells #[.int .i64 0, .int .i64 0, .bool false] 50)) (fun _ ii _ _ => 6 - (intOf ii).toNat)
    case atStart => exact ⟨0, by decide, rfl, rfl, rfl, rfl⟩
    case round =>
      obtain ⟨j, hj, rfl, rfl, hok, rfl⟩ := hrel
      obtain ⟨V, hV⟩ : ∃ V, Hid (hexV (bAt s) j = V) := ⟨_, rfl⟩
      have hVl : V ≤ 65536 := by
        have h1 := hexV_lt (bAt s) j hj
        have h2 : 16 ^ j ≤ 16 ^ 4 := Nat.pow_le_pow_right (by decide) hj
        rw [hV.out] at h1
        omega
      rw [hV.out]
      by_cases hlt : j < 4
      · obtain ⟨P, hP⟩ : ∃ P, Hid (2 + j = P) := ⟨_, rfl⟩
        rw [hP.out]
        have hPi : (P : Int) < 6 := by have := hP.out; omega
        have hPs : P < s.size := by have := hP.out; omega
        have hPz : (P : Int) < (s.size : Int) := by omega
        have hx := bAt_at s P hPs
        obtain ⟨x, hxe⟩ : ∃ x, Hid (bAt s P = x) := ⟨_, rfl⟩
        rw [hxe.out] at hx
        have hxl : x < 256 := by rw [← hxe.out]; exact bAt_lt s P
        obtain ⟨z, hz⟩ : ∃ z, Hid (hexZ x = z) := ⟨_, rfl⟩
        have hzl : -1 ≤ z ∧ z < 16 := by rw [← hz.out]; exact hexZ_lt x
        have hzl1 := hzl.1
        have hzl2 := hzl.2
        have hdx := hid (hd.out x hxl)
        rw [hz.out] at hdx
        clear hzl
        go_wp2_with fail
        refine Calls.mono (hdx.out _) ?_
        rintro e w1 ⟨rfl, hw1⟩
        obtain rfl := hw1.symm
        clear hw1 hdx
        by_cases hz0 : z < 0
        · have e : fourP (bAt s) s.size = pc0 := by
            unfold fourP
            rw [if_neg]
            rintro ⟨-, h⟩
            have h2 := hexOk_le (bAt s) (i := j + 1) h (by omega)
            rw [hexOk, Bool.and_eq_true, hP.out, hxe.out, hz.out] at h2
            simp at h2
            omega
          replace e := hid e
          go_wp2
          refine ret_pc rfl rfl (At.new _ _ _) rfl ⟨by rw [e.out]; rfl, by repeat (first | with_reducible exact Below.refl _ _ | with_reducible refine Below.setCell ?_ (by first | (simp; done) | (simp; omega)) _ | with_reducible refine below_drewN ?_ _ | with_reducible refine Below.alloc ?_ (by first | (simp; done) | (simp; omega)) _ | with_reducible refine Below.drew ?_)⟩
        · obtain ⟨zn, rfl⟩ : ∃ zn : Nat, z = (zn : Int) := ⟨z.toNat, by omega⟩
          clear hz0
          go_wp2
          go_roundw
          case rel =>
            refine ⟨j + 1, by omega, ?_, ?_, ?_, by first | trivial | rfl⟩
            · have := hP.out
              simp
              omega
            · rw [hexV, hV.out, hP.out, hxe.out, hz.out]
              simp
            · show _ = _
              rw [hexOk, hok.out, hP.out, hxe.out, hz.out]
              simp
          case measure => simp [intOf]; have := hP.out; omega
      · obtain rfl : j = 4 := by omega
        have e : fourP (bAt s) s.size = ⟨6, V, true⟩ := by
          unfold fourP
          rw [if_pos ⟨by omega, hok.out⟩, hV.out]
        replace e := hid e
        go_wp2
        refine ret_pc rfl rfl (At.new _ _ _) rfl ⟨by rw [e.out]; rfl, by repeat (first | with_reducible exact Below.refl _ _ | with_reducible refine Below.setCell ?_ (by first | (simp; done) | (simp; omega)) _ | with_reducible refine below_drewN ?_ _ | with_reducible refine Below.alloc ?_ (by first | (simp; done) | (simp; omega)) _ | with_reducible refine Below.drew ?_)⟩

set_option maxRecDepth 10000 in
set_option maxHeartbeats 1000000 in
theorem next_calls (s : ByteArray) (h0 : 0 < s.size) (hs : s.size ≤ 4611686018427387904) (w : World) : Calls Try.prog 27 #[.string s] w fun e w' => e = .returned (pcV (nextP (bAt s) s.size)) ∧ Below w.heap.size w w' := by
  have hz : (0 : Int) < (s.size : Int) := by omega
  have hx := bAt_at s 0 h0
  obtain ⟨x, hX⟩ : ∃ x, Hid (bAt s 0 = x) := ⟨_, rfl⟩
  rw [hX.out] at hx
  have hxl : x < 256 := by rw [← hX.out]; exact bAt_lt s 0
  obtain ⟨r, hr⟩ : ∃ r, Hid (nextP (bAt s) s.size = r) := ⟨_, rfl⟩
  have hr2 := hr.out
  rw [hr.out]
  unfold nextP at hr2
  rw [hX.out] at hr2
  by_cases h1 : x < 32
  · rw [if_pos (.inl h1)] at hr2
    subst hr2
    clear hr
    go_enter Try.func27, Try.ntmps27
    go_wp2
    refine ret_pc rfl rfl (At.new _ _ _) rfl ⟨rfl, by repeat (first | with_reducible exact Below.refl _ _ | with_reducible refine Below.setCell ?_ (by first | (simp; done) | (simp; omega)) _ | with_reducible refine below_drewN ?_ _ | with_reducible refine Below.alloc ?_ (by first | (simp; done) | (simp; omega)) _ | with_reducible refine Below.drew ?_)⟩
  · by_cases h2 : x = 34
    · subst h2
      rw [if_pos (.inr rfl)] at hr2
      subst hr2
      clear hr
      go_enter Try.func27, Try.ntmps27
      go_wp2
      refine ret_pc rfl rfl (At.new _ _ _) rfl ⟨rfl, by repeat (first | with_reducible exact Below.refl _ _ | with_reducible refine Below.setCell ?_ (by first | (simp; done) | (simp; omega)) _ | with_reducible refine below_drewN ?_ _ | with_reducible refine Below.alloc ?_ (by first | (simp; done) | (simp; omega)) _ | with_reducible refine Below.drew ?_)⟩
    · rw [if_neg (by omega)] at hr2
      have n34 : ((x : Int) == 34) = false := by simp; omega
      by_cases h3 : x = 92
      · subst h3
        rw [if_neg (by simp)] at hr2
        by_cases h4 : s.size < 2
        · rw [if_pos h4] at hr2
          have h4i : (s.size : Int) < 2 := by omega
          subst hr2
          clear hr
          go_enter Try.func27, Try.ntmps27
          go_wp2
          refine ret_pc rfl rfl (At.new _ _ _) rfl ⟨rfl, by repeat (first | with_reducible exact Below.refl _ _ | with_reducible refine Below.setCell ?_ (by first | (simp; done) | (simp; omega)) _ | with_reducible refine below_drewN ?_ _ | with_reducible refine Below.alloc ?_ (by first | (simp; done) | (simp; omega)) _ | with_reducible refine Below.drew ?_)⟩
        · rw [if_neg h4] at hr2
          have h4i : (2 : Int) ≤ (s.size : Int) := by omega
          have hy := bAt_at s 1 (by omega)
          obtain ⟨y, hY⟩ : ∃ y, Hid (bAt s 1 = y) := ⟨_, rfl⟩
          rw [hY.out] at hy hr2
          have hyl : y < 256 := by rw [← hY.out]; exact bAt_lt s 1
          by_cases k34 : y = 34
          · subst k34
            rw [if_pos (by simp)] at hr2
            subst hr2
            clear hr
            go_enter Try.func27, Try.ntmps27
            go_wp2
            refine ret_pc rfl rfl (At.new _ _ _) rfl ⟨rfl, by repeat (first | with_reducible exact Below.refl _ _ | with_reducible refine Below.setCell ?_ (by first | (simp; done) | (simp; omega)) _ | with_reducible refine below_drewN ?_ _ | with_reducible refine Below.alloc ?_ (by first | (simp; done) | (simp; omega)) _ | with_reducible refine Below.drew ?_)⟩
          · have m34 : ((y : Int) == 34) = false := by simp; omega
            by_cases k92 : y = 92
            · subst k92
              rw [if_pos (by simp)] at hr2
              subst hr2
              clear hr
              go_enter Try.func27, Try.ntmps27
              go_wp2
              refine ret_pc rfl rfl (At.new _ _ _) rfl ⟨rfl, by repeat (first | with_reducible exact Below.refl _ _ | with_reducible refine Below.setCell ?_ (by first | (simp; done) | (simp; omega)) _ | with_reducible refine below_drewN ?_ _ | with_reducible refine Below.alloc ?_ (by first | (simp; done) | (simp; omega)) _ | with_reducible refine Below.drew ?_)⟩
            · have m92 : ((y : Int) == 92) = false := by simp; omega
              by_cases k47 : y = 47
              · subst k47
                rw [if_pos (by simp)] at hr2
                subst hr2
                clear hr
                go_enter Try.func27, Try.ntmps27
                go_wp2
                refine ret_pc rfl rfl (At.new _ _ _) rfl ⟨rfl, by repeat (first | with_reducible exact Below.refl _ _ | with_reducible refine Below.setCell ?_ (by first | (simp; done) | (simp; omega)) _ | with_reducible refine below_drewN ?_ _ | with_reducible refine Below.alloc ?_ (by first | (simp; done) | (simp; omega)) _ | with_reducible refine Below.drew ?_)⟩
              · have m47 : ((y : Int) == 47) = false := by simp; omega
                rw [if_neg (by omega)] at hr2
                by_cases k98 : y = 98
                · subst k98
                  rw [if_pos (by simp)] at hr2
                  subst hr2
                  clear hr
                  go_enter Try.func27, Try.ntmps27
                  go_wp2
                  refine ret_pc rfl rfl (At.new _ _ _) rfl ⟨rfl, by repeat (first | with_reducible exact Below.refl _ _ | with_reducible refine Below.setCell ?_ (by first | (simp; done) | (simp; omega)) _ | with_reducible refine below_drewN ?_ _ | with_reducible refine Below.alloc ?_ (by first | (simp; done) | (simp; omega)) _ | with_reducible refine Below.drew ?_)⟩
                · have m98 : ((y : Int) == 98) = false := by simp; omega
                  rw [if_neg k98] at hr2
                  by_cases k102 : y = 102
                  · subst k102
                    rw [if_pos (by simp)] at hr2
                    subst hr2
                    clear hr
                    go_enter Try.func27, Try.ntmps27
                    go_wp2
                    refine ret_pc rfl rfl (At.new _ _ _) rfl ⟨rfl, by repeat (first | with_reducible exact Below.refl _ _ | with_reducible refine Below.setCell ?_ (by first | (simp; done) | (simp; omega)) _ | with_reducible refine below_drewN ?_ _ | with_reducible refine Below.alloc ?_ (by first | (simp; done) | (simp; omega)) _ | with_reducible refine Below.drew ?_)⟩
                  · have m102 : ((y : Int) == 102) = false := by simp; omega
                    rw [if_neg k102] at hr2
                    by_cases k110 : y = 110
                    · subst k110
                      rw [if_pos (by simp)] at hr2
                      subst hr2
                      clear hr
                      go_enter Try.func27, Try.ntmps27
                      go_wp2
                      refine ret_pc rfl rfl (At.new _ _ _) rfl ⟨rfl, by repeat (first | with_reducible exact Below.refl _ _ | with_reducible refine Below.setCell ?_ (by first | (simp; done) | (simp; omega)) _ | with_reducible refine below_drewN ?_ _ | with_reducible refine Below.alloc ?_ (by first | (simp; done) | (simp; omega)) _ | with_reducible refine Below.drew ?_)⟩
                    · have m110 : ((y : Int) == 110) = false := by simp; omega
                      rw [if_neg k110] at hr2
                      by_cases k114 : y = 114
                      · subst k114
                        rw [if_pos (by simp)] at hr2
                        subst hr2
                        clear hr
                        go_enter Try.func27, Try.ntmps27
                        go_wp2
                        refine ret_pc rfl rfl (At.new _ _ _) rfl ⟨rfl, by repeat (first | with_reducible exact Below.refl _ _ | with_reducible refine Below.setCell ?_ (by first | (simp; done) | (simp; omega)) _ | with_reducible refine below_drewN ?_ _ | with_reducible refine Below.alloc ?_ (by first | (simp; done) | (simp; omega)) _ | with_reducible refine Below.drew ?_)⟩
                      · have m114 : ((y : Int) == 114) = false := by simp; omega
                        rw [if_neg k114] at hr2
                        by_cases k116 : y = 116
                        · subst k116
                          rw [if_pos (by simp)] at hr2
                          subst hr2
                          clear hr
                          go_enter Try.func27, Try.ntmps27
                          go_wp2
                          refine ret_pc rfl rfl (At.new _ _ _) rfl ⟨rfl, by repeat (first | with_reducible exact Below.refl _ _ | with_reducible refine Below.setCell ?_ (by first | (simp; done) | (simp; omega)) _ | with_reducible refine below_drewN ?_ _ | with_reducible refine Below.alloc ?_ (by first | (simp; done) | (simp; omega)) _ | with_reducible refine Below.drew ?_)⟩
                        · have m116 : ((y : Int) == 116) = false := by simp; omega
                          rw [if_neg k116] at hr2
                          by_cases k117 : y = 117
                          · subst k117
                            rw [if_pos rfl] at hr2
                            subst hr2
                            have hf := hid (fun (w1 : World) => four_calls s hs w1)
                            clear hr
                            go_enter Try.func27, Try.ntmps27
                            go_wp2_with fail
                            refine Calls.mono (hf.out _) ?_
                            rintro e w1 ⟨rfl, hb⟩
                            have hb0 : Below w.heap.size w w1 := Below.trans (by repeat (first | with_reducible exact Below.refl _ _ | with_reducible refine Below.setCell ?_ (by first | (simp; done) | (simp; omega)) _ | with_reducible refine below_drewN ?_ _ | with_reducible refine Below.alloc ?_ (by first | (simp; done) | (simp; omega)) _ | with_reducible refine Below.drew ?_)) (hb.mono (by simp))
                            have a1 := (At.new w #[.int .i64 0, .int .i64 0, .bool false] 50).keptAll hb
                            have c0 := a1.cell 0
                            have c1 := a1.cell 1
                            have c2 := a1.cell 2
                            have f0 := a1.frozen 0
                            have f1 := a1.frozen 1
                            have f2 := a1.frozen 2
                            simp only [List.getElem?_toArray, List.getElem?_cons_zero, List.getElem?_cons_succ] at c0 c1 c2
                            have a2 := hid (At.three15 (y0 := .int .i64 ((fourP (bAt s) s.size).size : Int)) (y1 := .int .i64 ((fourP (bAt s) s.size).means : Int)) (y2 := .bool (fourP (bAt s) s.size).four) a1)
                            have hb1 := hid hb0
                            clear hb hb0 a1
                            unfold pcV
                            go_wp2
                            refine ret_pc rfl rfl a2.out rfl ⟨rfl, ?_⟩
                            exact ((hb1.out.setCell (p := ⟨w.heap.size, 0, none⟩) (Nat.le_refl _) _).setCell (p := ⟨w.heap.size, 1, none⟩) (Nat.le_refl _) _).setCell (p := ⟨w.heap.size, 2, none⟩) (Nat.le_refl _) _
                          · have m117 : ((y : Int) == 117) = false := by simp; omega
                            rw [if_neg k117] at hr2
                            subst hr2
                            clear hr
                            go_enter Try.func27, Try.ntmps27
                            go_wp2
                            refine ret_pc rfl rfl (At.new _ _ _) rfl ⟨rfl, by repeat (first | with_reducible exact Below.refl _ _ | with_reducible refine Below.setCell ?_ (by first | (simp; done) | (simp; omega)) _ | with_reducible refine below_drewN ?_ _ | with_reducible refine Below.alloc ?_ (by first | (simp; done) | (simp; omega)) _ | with_reducible refine Below.drew ?_)⟩
      · have n92 : ((x : Int) == 92) = false := by simp; omega
        rw [if_pos h3] at hr2
        subst hr2
        have hxi : 32 ≤ x := by omega
        clear hr
        go_enter Try.func27, Try.ntmps27
        go_wp2
        refine ret_pc rfl rfl (At.new _ _ _) rfl ⟨rfl, by repeat (first | with_reducible exact Below.refl _ _ | with_reducible refine Below.setCell ?_ (by first | (simp; done) | (simp; omega)) _ | with_reducible refine below_drewN ?_ _ | with_reducible refine Below.alloc ?_ (by first | (simp; done) | (simp; omega)) _ | with_reducible refine Below.drew ?_)⟩

end Go.Proofs.Ytlcihopklnnhdaa
