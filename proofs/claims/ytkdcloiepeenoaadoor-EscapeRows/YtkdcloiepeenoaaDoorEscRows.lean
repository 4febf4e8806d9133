/-
  The walk of quarrylaw06.EscapeRows.
-/
import Derived.Test.YtkdcloiepeenoaaDoorEscB
import Derived.Test.YtkdcloiepeenoaaDoorGetWalk
import Derived.SizedLaws
import Derived.Deep.DeepCutAuto
import Derived.Deep.DeepMust
import Derived.Deep.CondSized
namespace Go.Proofs.YtkdcloiepeenoaaDoor
open Go.RowKit Go.Shelf

theorem get6 {N : Nat} {G : Nat → Bool} (hN : N ≤ 281474976710656) (i : Nat) (hi : i < N) (B : Bool) (hB : Hid (G i = B)) (ao : Option Addr) (cap : Nat) (w : World) (hW : Wds w ao (need N) (rowOf G N)) :
    Calls Tryd.prog 26 #[.agg #[.int .i64 (N : Int), .slice ao (need N) cap], .int .i64 (i : Int)] w fun e w' => e = .returned (.bool B) ∧ Below w.heap.size w w' :=
  get_calls N i ao (need N) cap (rowOf G N) N B (wf_size hN) (wf_size (by omega)) (need_le hN) (.inl ⟨rowOf_formed G N, rfl⟩) (by show _ = _; rw [getB_nat hi, rowOf_bit, decide_eq_true hi, Bool.true_and]; exact hB.out) w hW
theorem formed6 {N : Nat} {G : Nat → Bool} (hN : N ≤ 281474976710656) (ao : Option Addr) (cap : Nat) (w : World) (hW : Wds w ao (need N) (rowOf G N)) :
    Calls Tryd.prog 24 #[.agg #[.int .i64 (N : Int), .slice ao (need N) cap]] w fun e w' => e = .returned (.bool true) ∧ Below w.heap.size w w' :=
  formed_calls N ao (need N) cap (rowOf G N) true (wf_size hN) (need_le hN) ⟨fun _ => rfl, fun _ => rowOf_formed G N⟩ w hW

set_option maxRecDepth 10000 in
set_option maxHeartbeats 4000000 in
theorem escapeRows_walk (s : ByteArray) (hs : s.size ≤ reachBytes) (w : World) (hT : Tab w) (h0 : 0 < w.heap.size) :
    Calls Tryd.prog 6 #[.string s] w fun e w' => e = .returned (.bool true) ∧ Below w.heap.size w w' := by
  have hs1 : s.size ≤ 140737488351232 := hs
  have hT' := hid hT
  have h0' := hid h0
  clear hs hT h0
  go_enter Tryd.func6, Tryd.ntmps6
  go_upto_if 12 with fail
  go_cut [0] from 13 to 14 (fun ss wx => ∃ s' : ByteArray, ss = .string s' ∧ s'.size ≤ 16384 ∧ wx = w)
  case first => as_aux_lemma =>
    by_cases h : 16384 < s.size
    · go_wp2
      go_meet
      case rel => exact ⟨_, rfl, by simp; omega, rfl⟩
    · go_wp2
      go_meet
      case rel => exact ⟨s, rfl, by omega, rfl⟩
  case rest => as_aux_lemma =>
    clear hs1
    obtain ⟨t, rfl, hs, rfl⟩ := hcut
    go_wp2_with fail
    refine Calls.mono (escapedS_calls t (by omega) wc hT'.out h0'.out) ?_
    rintro e w1 ⟨g, hg, rfl, hA, hb⟩
    have hn : (t.size : Int) ≤ 16384 := by omega
    have hgl := hid hA.lt
    have e0 : ((t.size : Int) != (t.size : Int)) = false := by simp
    have hAv := At.new w1 #[.int .i64 (t.size : Int), .slice (some ⟨g, 0, none⟩) (need t.size) (need t.size)] 24
    have hAr := hA.alloc (.cells #[.int .i64 (t.size : Int), .slice (some ⟨g, 0, none⟩) (need t.size) (need t.size)] 24)
    have hB := hb.alloc hb.size (.cells #[.int .i64 (t.size : Int), .slice (some ⟨g, 0, none⟩) (need t.size) (need t.size)] 24)
    clear hA hb
    go_wp2_with fail
    refine Calls.mono (formed6 (by omega) _ _ _ hAr.row6) ?_
    rintro e w2 ⟨rfl, hb⟩
    replace hAv := hid (hAv.keptAll hb)
    replace hAr := hid (hAr.keptAll hb)
    replace hB := hid (hB.trans (hb.mono hB.size))
    clear hb
    obtain ⟨b3, hb3⟩ : ∃ b3, Hid (w1.heap.size = b3) := ⟨_, rfl⟩
    rw [hb3.out] at hAv
    go_wp2_with fail
    rw [hb3.out]
    clear hgl hb3 hg
    go_loopw [4, 5, 6, 7] (fun ii _ _ _ wr => ∃ i : Nat, i ≤ t.size ∧ ii = .int .i64 (i : Int) ∧ At wr b3 #[.int .i64 (t.size : Int), .slice (some ⟨g, 0, none⟩) (need t.size) (need t.size)] 24 ∧ At wr g (rowCells (need t.size) (rowOf (escS t) t.size)) 39 ∧ Below wc.heap.size wc wr) (fun ii _ _ _ _ => t.size - (intOf ii).toNat)
    case atStart => exact ⟨0, Nat.zero_le _, rfl, hAv.out, hAr.out, hB.out⟩
    case round =>
      obtain ⟨i, hi, rfl, hV, hR, hBw⟩ := hrel
      clear hAv hAr hB
      have hV' := hid hV
      have hR' := hid hR
      have hB' := hid hBw
      clear hV hR hBw
      by_cases hlt : i < t.size
      · obtain ⟨f, o, hfo⟩ : ∃ f o, Hid (i - runE (slash t) i = f ∧ decide (runE (slash t) i % 2 = 1) = o) := ⟨_, _, rfl, rfl⟩
        have hle := runE_le (slash t) i
        have hf : f ≤ i := by have := hfo.out.1; omega
        have hoB : Hid (escS t i = o) := by show _ = _; rw [escS, escG_odd]; exact hfo.out.2
        go_wp2_with fail
        refine Calls.mono (odd_nat t i f o (by omega) (by omega) hfo _) ?_
        rintro e wq ⟨rfl, rfl⟩
        obtain ⟨c0, c1, -, -⟩ := hV'.out.facts
        go_wp2_with fail
        refine Calls.mono (get6 (by omega) i hlt o hoB _ _ _ hR'.out.row6) ?_
        rintro e w3 ⟨rfl, hb⟩
        have hV3 := hid (hV'.out.keptAll hb)
        have hR3 := hid (hR'.out.keptAll hb)
        have hB3 := hid (hB'.out.trans (hb.mono hB'.out.size))
        clear hV' hR' hB' hb c0 c1
        have e1 : (o != o) = false := by simp
        have e2 : decide ((f : Int) < 0) = false := by simp
        have e3 : decide ((i : Int) < (f : Int)) = false := by simp; omega
        obtain ⟨r, hr⟩ : ∃ r, Hid (runE (slash t) i = r) := ⟨_, rfl⟩
        have e4 : (i : Int) - (f : Int) = (r : Int) := by have h1 := hfo.out.1; rw [hr.out] at h1 hle; omega
        have e5 : ((r : Int) % 2 == 1) = o := by
          rw [← hfo.out.2, hr.out, show ((r : Int) % 2) = ((r % 2 : Nat) : Int) by simp]
          rcases Nat.mod_two_eq_zero_or_one r with h | h <;> simp [h]
        clear hle
        go_wp2_with fail
        clear e1 e2 e3 e4 e5
        have hfi : (f : Int) ≤ (i : Int) := by omega
        -- what stands ahead of the row
        have hfs : Hid (f = 0 ∨ (f - 1 < t.size ∧ slash t (f - 1) = false)) := by
          by_cases h : f = 0
          · exact .inl h
          · right
            have h1 := hfo.out.1
            have h2 := runE_end (slash t) i (by omega)
            rw [h1] at h2
            exact ⟨by omega, h2⟩
        -- what stands right ahead of the place
        have hos : Hid (o = true → 1 ≤ i ∧ slash t (i - 1) = true ∧ escS t (i - 1) = false) := by
          intro ho
          have h1 := hoB.out
          rw [ho] at h1
          cases i with
          | zero => cases h1
          | succ j =>
            rw [escS, escG_succ, Bool.and_eq_true] at h1
            refine ⟨by omega, h1.1, ?_⟩
            have := h1.2
            unfold escS
            simpa using this
        go_loop [7] (fun kk => ∃ j : Nat, f ≤ j ∧ j ≤ i ∧ kk = .int .i64 (j : Int)) (fun kk => i - (intOf kk).toNat)
        case atStart => exact ⟨f, Nat.le_refl _, hf, rfl⟩
        case round =>
          obtain ⟨j, hj1, hj2, rfl⟩ := hrel
          by_cases hji : j < i
          · have hjl : j < t.size := by omega
            have hjli : (j : Int) < (t.size : Int) := by omega
            have hx := slash_at t j hjl
            rw [runE_all (slash t) i j (by have := hfo.out.1; omega) hji] at hx
            obtain ⟨x, hxe⟩ : ∃ x, t[j].toNat = x := ⟨_, rfl⟩
            rw [hxe] at hx
            obtain rfl : x = 92 := by simpa using hx.symm
            clear hx
            go_wp2
            go_round
            case rel => exact ⟨j + 1, by omega, by omega, by simp⟩
            case measure => simp [intOf]; omega
          · obtain rfl : j = i := by omega
            clear hj1 hj2
            have tail1 : f = 0 ∨ 0 < f := by omega
            obtain ⟨c0, c1, -, -⟩ := hV3.out.facts
            rcases tail1 with rfl | hf0
            · clear hfs
              cases o with
              | false =>
                clear hos
                go_wp2
                go_roundw
                case rel => exact ⟨j + 1, by omega, by simp, hV3.out, hR3.out, hB3.out⟩
                case measure => simp [intOf]; omega
              | true =>
                obtain ⟨p1, p2, p3⟩ := hos.out rfl
                obtain ⟨q, rfl⟩ : ∃ q, j = q + 1 := ⟨j - 1, by omega⟩
                simp only [Nat.add_sub_cancel] at p2 p3
                have hql : q < t.size := by omega
                have hqi : (q : Int) < (t.size : Int) := by omega
                have ex := slash_at t q hql
                rw [p2] at ex
                obtain ⟨y, hye⟩ : ∃ y, t[q].toNat = y := ⟨_, rfl⟩
                rw [hye] at ex
                obtain rfl : y = 92 := by simpa using ex.symm
                have eq1 : ((q + 1 : Nat) : Int) - 1 = (q : Int) := by omega
                have eq2 : ((q : Int) + 1) - 1 = (q : Int) := by omega
                have p3' := hid p3
                clear ex p1 p2 p3 hos hoB
                go_wp2_with fail
                refine Calls.mono (get6 (by omega) q hql false p3' _ _ _ hR3.out.row6) ?_
                rintro e w4 ⟨rfl, hb⟩
                have hV4 := hid (hV3.out.keptAll hb)
                have hR4 := hid (hR3.out.keptAll hb)
                have hB4 := hid (hB3.out.trans (hb.mono hB3.out.size))
                clear hV3 hR3 hB3 hb c0 c1
                go_wp2
                go_roundw
                case rel => exact ⟨q + 1 + 1, by omega, by simp, hV4.out, hR4.out, hB4.out⟩
                case measure => simp [intOf]; omega
            · obtain ⟨m, rfl⟩ : ∃ m, f = m + 1 := ⟨f - 1, by omega⟩
              have h4 := hfs.out
              obtain ⟨h5, h6⟩ : m < t.size ∧ slash t m = false := by
                rcases h4 with h | ⟨h1, h2⟩
                · omega
                · exact ⟨h1, h2⟩
              have hz := slash_at t m h5
              rw [h6] at hz
              obtain ⟨z, hze⟩ : ∃ z, t[m].toNat = z := ⟨_, rfl⟩
              rw [hze] at hz
              have hzn : ((z : Int) == 92) = false := by
                have h7 : z ≠ 92 := by simpa using hz.symm
                simp; omega
              have hmi : (m : Int) < (t.size : Int) := by omega
              have em1 : ((m + 1 : Nat) : Int) - 1 = (m : Int) := by omega
              have em2 : ((m : Int) + 1) - 1 = (m : Int) := by omega
              clear h4 h6 hz hfs hf0
              cases o with
              | false =>
                clear hos
                go_wp2
                go_roundw
                case rel => exact ⟨j + 1, by omega, by simp, hV3.out, hR3.out, hB3.out⟩
                case measure => simp [intOf]; omega
              | true =>
                obtain ⟨p1, p2, p3⟩ := hos.out rfl
                obtain ⟨q, rfl⟩ : ∃ q, j = q + 1 := ⟨j - 1, by omega⟩
                simp only [Nat.add_sub_cancel] at p2 p3
                have hql : q < t.size := by omega
                have hqi : (q : Int) < (t.size : Int) := by omega
                have ex := slash_at t q hql
                rw [p2] at ex
                obtain ⟨y, hye⟩ : ∃ y, t[q].toNat = y := ⟨_, rfl⟩
                rw [hye] at ex
                obtain rfl : y = 92 := by simpa using ex.symm
                have eq1 : ((q + 1 : Nat) : Int) - 1 = (q : Int) := by omega
                have eq2 : ((q : Int) + 1) - 1 = (q : Int) := by omega
                have p3' := hid p3
                clear ex p1 p2 p3 hos hoB
                go_wp2_with fail
                refine Calls.mono (get6 (by omega) q hql false p3' _ _ _ hR3.out.row6) ?_
                rintro e w4 ⟨rfl, hb⟩
                have hV4 := hid (hV3.out.keptAll hb)
                have hR4 := hid (hR3.out.keptAll hb)
                have hB4 := hid (hB3.out.trans (hb.mono hB3.out.size))
                clear hV3 hR3 hB3 hb c0 c1
                go_wp2
                go_roundw
                case rel => exact ⟨q + 1 + 1, by omega, by simp, hV4.out, hR4.out, hB4.out⟩
                case measure => simp [intOf]; omega
      · obtain rfl : i = t.size := by omega
        obtain ⟨f, o, hfo⟩ : ∃ f o, Hid (t.size - runE (slash t) t.size = f ∧ decide (runE (slash t) t.size % 2 = 1) = o) := ⟨_, _, rfl, rfl⟩
        have hoB : Hid (behindS t false = o) := by show _ = _; rw [behindS, escG_odd]; exact hfo.out.2
        go_wp2_with fail
        refine Calls.mono (odd_nat t t.size f o (by omega) (Nat.le_refl _) hfo _) ?_
        rintro e wq ⟨rfl, rfl⟩
        go_wp2_with fail
        refine Calls.mono (behind_calls t false o (by omega) hoB _) ?_
        rintro e wq' ⟨rfl, rfl⟩
        have e1 : (o == o) = true := by simp
        go_wp2_with fail
        refine Calls.mono (behind_calls ⟨#[92]⟩ false true (by decide) (hid (by decide)) _) ?_
        rintro e wq'' ⟨rfl, rfl⟩
        go_wp2
        go_ret
        exact ⟨rfl, hB'.out⟩
end Go.Proofs.YtkdcloiepeenoaaDoor
