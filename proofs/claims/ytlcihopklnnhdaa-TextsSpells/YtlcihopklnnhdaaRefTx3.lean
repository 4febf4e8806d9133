/-
  What the reference's Unescape answers.
-/
import Derived.Test.YtlcihopklnnhdaaRefTx2
import Derived.Test.YtlcihopklnnhdaaBadsLaw
namespace Go.Proofs.Ytlcihopklnnhdaa
open Go.RowKit Go.Shelf

/-- What Unescape answers. -/
def unS (s : ByteArray) : ByteArray × Int := if 0 ≤ badOf s then (⟨#[]⟩, 50) else match unescL (byts s) with
  | none => (⟨#[]⟩, 150)
  | some o => (mkS o, 0)
def strSz : Value → Nat
  | .string r => r.size
  | _ => 0
theorem rowT_kept {w w' : World} {B n : Nat} {v : Value} {xs : List Value} (h : w.ownsRow B 5 1 v n xs) (hb : Below w.heap.size w w') : w'.ownsRow B 5 1 v n xs :=
  h.kept (grown_of_below hb) (by cases h : v.ownBlock <;> simp)
/-- What holds between two pieces. -/
def UnR (s r : ByteArray) (o : List Nat) : Prop := unescL (byts s) = (unescL (byts r)).map (o ++ ·) ∧ (∀ x ∈ o, x < 256) ∧ o.length + r.size ≤ s.size
theorem UnR.step {s r r' : ByteArray} {o o2 : List Nat} {k : Nat} (h : UnR s r o) (hr : 0 < r.size) (hs : stepL (byts r) = some (k, o2)) (hr' : byts r' = (byts r).drop k) : UnR s r' (o ++ o2) ∧ r'.size < r.size := by
  obtain ⟨h1, h2, h3⟩ := h
  have hne : byts r ≠ [] := fun e => by
    have := byts_length r
    rw [e] at this
    simp at this
    omega
  obtain ⟨k1, k2, k3, k4⟩ := stepL_some hne (byts_lt r) hs
  have hl : r'.size = r.size - k := by rw [← byts_length, hr', List.length_drop, byts_length]
  rw [byts_length] at k2
  refine ⟨⟨?_, ?_, ?_⟩, by omega⟩
  · rw [h1, unescL_some hne (byts_lt r) hs, hr', Option.map_map]
    congr 1
    funext x
    simp
  · intro x hx
    rcases List.mem_append.1 hx with hx | hx
    · exact h2 x hx
    · exact k4 x hx
  · rw [List.length_append]
    omega
theorem byts_from (r : ByteArray) (k : Nat) : byts (r.extract k r.size) = (byts r).drop k ∧ (r.extract k r.size).size = r.size - k := by
  have h : byts (r.extract k r.size) = (byts r).drop k := by
    rw [byts_extract, List.take_of_length_le (by rw [List.length_drop, byts_length]; exact Nat.le_refl _)]
  exact ⟨h, by rw [← byts_length, h, List.length_drop, byts_length]⟩
theorem next_L (s : ByteArray) : nextP (bAt s) s.size = nextL (byts s) := by
  unfold nextL
  rw [bAt_lb, byts_length]

set_option maxRecDepth 10000 in
set_option maxHeartbeats 4000000 in
theorem refUn_calls (s : ByteArray) (hs : s.size ≤ 1048576) (T : ByteArray) (E : Int) (hU : Hid (unS s = (T, E))) (w : World) :
    Calls Try.prog 10 #[.string s] w fun e w' => e = .returned (.tuple #[.string T, .int .i64 E]) ∧ Below w.heap.size w w' := by
  have hbad := hid (refBad_calls s (by omega) w)
  obtain ⟨B, hB⟩ : ∃ B, Hid (badOf s = B) := ⟨_, rfl⟩
  rw [hB.out] at hbad
  go_enter Try.func10, Try.ntmps10
  go_wp2_with fail
  refine Calls.mono hbad.out ?_
  rintro e w1 ⟨rfl, hb1⟩
  have hb1' := hid hb1
  clear hbad hb1
  by_cases hB0 : 0 ≤ B
  · have hT : Hid (T = ⟨#[]⟩ ∧ E = 50) := by
      have h := hU.out
      unfold unS at h
      rw [hB.out, if_pos hB0] at h
      simp only [Prod.mk.injEq] at h
      exact ⟨h.1.symm, h.2.symm⟩
    obtain ⟨rfl, rfl⟩ := hT.out
    clear hT hU
    go_wp2
    exact bodyPost_ret (v := .tuple #[.string ⟨#[]⟩, .int .i64 50]) (by simp [results, Try.results10, go_sem]; try decide) rfl ⟨rfl, hb1'.out⟩
  · have hB1 : decide (0 ≤ B) = false := by simp; omega
    have hUn : Hid ((match unescL (byts s) with | none => (⟨#[]⟩, 150) | some o => (mkS o, 0)) = (T, E)) := by
      have h := hU.out
      unfold unS at h
      rw [hB.out, if_neg hB0] at h
      exact h
    clear hB0 hU
    go_wp2
    go_loopw [0, 4, 5, 6, 7, 8] (fun r0 v _ _ _ _ wr => ∃ (r : ByteArray) (o : List Nat), r0 = .string r ∧ Hid (UnR s r o) ∧ Hid (wr.ownsRow w1.heap.size 5 1 v o.length (byC o)) ∧ Hid (Below w1.heap.size w1 wr)) (fun r0 _ _ _ _ _ _ => strSz r0)
    case atStart => exact ⟨s, [], rfl, hid ⟨by simp, by simp, by simp⟩, hid (World.ownsRow_nil _ _ _ _), hid (Below.refl _ _)⟩
    case round =>
      obtain ⟨r, o, rfl, hR, hv, hb⟩ := hrel
      have hrl : r.size ≤ 1048576 := by have := hR.out.2.2; omega
      have hol : o.length ≤ 1048576 := by have := hR.out.2.2; omega
      by_cases hr0 : 0 < r.size
      · have hri : (0 : Int) < (r.size : Int) := by omega
        have hne : Hid (byts r ≠ []) := fun e => by
          have := byts_length r
          rw [e] at this
          simp at this
          omega
        have hnx := hid (next_calls r hr0 (by omega) wr)
        rw [next_L] at hnx
        obtain ⟨sz, mn, fr, hP⟩ : ∃ sz mn fr, Hid (nextL (byts r) = ⟨sz, mn, fr⟩) := ⟨_, _, _, rfl⟩
        have hps := nextL_size hne.out (byts_lt r)
        rw [hP.out, byts_length] at hps
        rw [hP.out] at hnx
        have hsz : sz ≤ r.size := hps.1
        have hmn : mn < 65536 := hps.2
        clear hps
        unfold pcV at hnx
        dsimp only at hnx
        go_wp2_with fail
        refine Calls.mono hnx.out ?_
        rintro e w2 ⟨rfl, hb2⟩
        have hv2 := hid (rowT_kept hv.out hb2)
        have hbb2 := hid (hb.out.trans (hb2.mono hb.out.size))
        clear hnx hb2 hv hb
        have a5 := At.new w2 #[.int .i64 (sz : Int), .int .i64 (mn : Int), .bool fr] 50
        have c0 := a5.cell 0
        have c1 := a5.cell 1
        have c2 := a5.cell 2
        simp only [List.getElem?_toArray, List.getElem?_cons_zero, List.getElem?_cons_succ] at c0 c1 c2
        have a5' := hid a5
        have al := hid ((Below.refl _ w2).alloc (Nat.le_refl _) (.cells #[.int .i64 (sz : Int), .int .i64 (mn : Int), .bool fr] 50))
        clear a5
        by_cases hz0 : sz = 0
        · subst hz0
          have hN : Hid (T = ⟨#[]⟩ ∧ E = 150) := by
            have h := hUn.out
            rw [hR.out.1, unescL_none hne.out (by unfold stepL; rw [hP.out, if_pos rfl])] at h
            simp only [Option.map_none, Prod.mk.injEq] at h
            exact ⟨h.1.symm, h.2.symm⟩
          obtain ⟨rfl, rfl⟩ := hN.out
          have hfin := hid ((hb1'.out.trans (hbb2.out.mono hb1'.out.size)).trans (al.out.mono (Nat.le_trans hb1'.out.size hbb2.out.size)))
          clear hN
          go_wp2
          exact bodyPost_ret (v := .tuple #[.string ⟨#[]⟩, .int .i64 150]) (by simp [results, Try.results10, go_sem]; try decide) rfl ⟨rfl, hfin.out⟩
        · have hzi : ((sz : Int) == 0) = false := by simp; omega
          have hszi : (sz : Int) ≤ (r.size : Int) := by omega
          obtain ⟨r2, hr2⟩ : ∃ r2, r.extract sz r.size = r2 := ⟨_, rfl⟩
          have hr2b : Hid (byts r2 = (byts r).drop sz) := by show _ = _; rw [← hr2]; exact (byts_from r sz).1
          have hr2s : Hid (r2.size = r.size - sz) := by show _ = _; rw [← hr2]; exact (byts_from r sz).2
          obtain ⟨W3, hW3⟩ : ∃ W, w2.alloc (.cells #[.int .i64 (sz : Int), .int .i64 (mn : Int), .bool fr] 50) = W := ⟨_, rfl⟩
          rw [hW3] at c0 c1 c2 a5' al
          have hv3 := hid (rowT_kept hv2.out al.out)
          have hb3 := hid (hbb2.out.trans (al.out.mono hbb2.out.size))
          obtain ⟨b5, hb5⟩ : ∃ b, w2.heap.size = b := ⟨_, rfl⟩
          rw [hb5] at c0 c1 c2 a5'
          clear hv2 hbb2 al
          obtain ⟨hi, hHi⟩ : ∃ q, Hid (highP ⟨sz, mn, fr⟩ = q) := ⟨_, rfl⟩
          obtain ⟨lo, hLo⟩ : ∃ q, Hid (lowP ⟨sz, mn, fr⟩ = q) := ⟨_, rfl⟩
          have hhc := hid (fun (u : World) => high_calls sz mn fr hi hmn hHi u)
          have hlc := hid (fun (u : World) => low_calls sz mn fr lo hmn hLo u)
          cases hi with
          | true =>
            obtain ⟨rfl, p1, p2⟩ : fr = true ∧ 55296 ≤ mn ∧ mn ≤ 56319 := by
              have h := hHi.out
              unfold highP at h
              simp only [Bool.and_eq_true, decide_eq_true_eq] at h
              exact h
            go_wp2_with fail
            refine Calls.mono (hhc.out _) ?_
            rintro e wh ⟨rfl, hbq⟩
            replace a5' := hid (a5'.out.keptAll hbq)
            replace hv3 := hid (rowT_kept hv3.out hbq)
            replace hb3 := hid (hb3.out.trans (hbq.mono hb3.out.size))
            clear hbq c0 c1 c2
            have c0 := a5'.out.cell 0
            have c1 := a5'.out.cell 1
            have c2 := a5'.out.cell 2
            simp only [List.getElem?_toArray, List.getElem?_cons_zero, List.getElem?_cons_succ] at c0 c1 c2
            by_cases hr2p : 0 < r2.size
            · have hr2l : r2.size ≤ 1048576 := by have := hr2s.out; omega
              have hqn := hid (fun (u : World) => next_calls r2 hr2p (by omega) u)
              obtain ⟨sq, mq, fq, hQ⟩ : ∃ sq mq fq, Hid (nextL (byts r2) = ⟨sq, mq, fq⟩) := ⟨_, _, _, rfl⟩
              rw [next_L, hQ.out] at hqn
              unfold pcV at hqn
              dsimp only at hqn
              have hqs : sq ≤ r2.size ∧ mq < 65536 := by
                have h := nextL_size (l := byts r2) (fun e => by
                  have := byts_length r2
                  rw [e] at this
                  simp at this
                  omega) (byts_lt r2)
                rw [hQ.out, byts_length] at h
                exact h
              have hsq := hqs.1
              have hmq := hqs.2
              clear hqs
              obtain ⟨lq, hLq⟩ : ∃ q, Hid (lowP ⟨sq, mq, fq⟩ = q) := ⟨_, rfl⟩
              have hqc := hid (fun (u : World) => low_calls sq mq fq lq hmq hLq u)
              have hr2i : (0 : Int) < (r2.size : Int) := by omega
              go_wp2_with fail
              refine Calls.mono (hqn.out _) ?_
              rintro e wn ⟨rfl, hbq⟩
              replace a5' := hid (a5'.out.keptAll hbq)
              replace hv3 := hid (rowT_kept hv3.out hbq)
              replace hb3 := hid (hb3.out.trans (hbq.mono hb3.out.size))
              clear hbq c0 c1 c2
              have c0 := a5'.out.cell 0
              have c1 := a5'.out.cell 1
              have c2 := a5'.out.cell 2
              simp only [List.getElem?_toArray, List.getElem?_cons_zero, List.getElem?_cons_succ] at c0 c1 c2
              go_wp2_with fail
              refine Calls.mono (hqc.out _) ?_
              rintro e wm ⟨rfl, hbq⟩
              replace a5' := hid (a5'.out.keptAll hbq)
              replace hv3 := hid (rowT_kept hv3.out hbq)
              replace hb3 := hid (hb3.out.trans (hbq.mono hb3.out.size))
              clear hbq c0 c1 c2
              have c0 := a5'.out.cell 0
              have c1 := a5'.out.cell 1
              have c2 := a5'.out.cell 2
              simp only [List.getElem?_toArray, List.getElem?_cons_zero, List.getElem?_cons_succ] at c0 c1 c2
              cases lq with
              | true =>
                obtain ⟨rfl, q1, q2⟩ : fq = true ∧ 56320 ≤ mq ∧ mq ≤ 57343 := by
                  have h := hLq.out
                  unfold lowP at h
                  simp only [Bool.and_eq_true, decide_eq_true_eq] at h
                  exact h
                have hsqi : (sq : Int) ≤ (r2.size : Int) := by omega
                obtain ⟨r3, hr3⟩ : ∃ r3, r2.extract sq r2.size = r3 := ⟨_, rfl⟩
                have hr3b : Hid (byts r3 = (byts r).drop (sz + sq)) := by
                  show _ = _
                  rw [← hr3, (byts_from r2 sq).1, hr2b.out, List.drop_drop]
                obtain ⟨MM, hMM⟩ : ∃ MM, Hid (65536 + (mn - 55296) * 1024 + (mq - 56320) = MM) := ⟨_, rfl⟩
                have hsum : (65536 : Int) + ((mn : Int) - 55296) * 1024 + (mq : Int) - 56320 = (MM : Int) := by have := hMM.out; omega
                have hMl : MM < 1114112 := by have := hMM.out; omega
                go_wp2_with fail
                refine Calls.mono (hqn.out _) ?_
                rintro e wz ⟨rfl, hbq⟩
                have d5 := (a5'.out.keptAll hbq).alloc (.cells #[.int .i64 (sq : Int), .int .i64 (mq : Int), .bool true] 50)
                have d7 := At.new wz #[.int .i64 (sq : Int), .int .i64 (mq : Int), .bool true] 50
                have al2 := (Below.refl _ wz).alloc (Nat.le_refl _) (.cells #[.int .i64 (sq : Int), .int .i64 (mq : Int), .bool true] 50)
                obtain ⟨W7, hW7⟩ : ∃ W, wz.alloc (.cells #[.int .i64 (sq : Int), .int .i64 (mq : Int), .bool true] 50) = W := ⟨_, rfl⟩
                rw [hW7] at d5 d7 al2
                replace hv3 := hid (rowT_kept (rowT_kept hv3.out hbq) al2)
                replace hb3 := hid ((hb3.out.trans (hbq.mono hb3.out.size)).trans (al2.mono (Nat.le_trans hb3.out.size hbq.size)))
                clear hbq c0 c1 c2 al2
                have c0 := d5.cell 0
                have c1 := d5.cell 1
                have c2 := d5.cell 2
                have k0 := d7.cell 0
                have k1 := d7.cell 1
                simp only [List.getElem?_toArray, List.getElem?_cons_zero, List.getElem?_cons_succ] at c0 c1 c2 k0 k1
                clear d5 d7
                have hch := hid (fun (u : World) => char_calls MM (hMl) u)
                obtain ⟨CL, hCL⟩ : ∃ CL, Hid (charL MM = CL) := ⟨_, rfl⟩
                rw [hCL.out] at hch
                have hCl : CL.length ≤ 4 := by rw [← hCL.out]; exact (charL_len _).2
                have hst : Hid (UnR s r3 (o ++ CL) ∧ r3.size < r.size) := hR.out.step hr0 (by unfold stepL; rw [hP.out]; dsimp only; rw [if_neg hz0, if_pos ⟨hHi.out, by rw [byts_length]; have h4 := hr2s.out; omega, by rw [← hr2b.out, hQ.out]; exact hLq.out⟩, ← hr2b.out, hQ.out]; dsimp only; rw [hMM.out, hCL.out]) hr3b.out
                go_wp2_with fail
                refine Calls.mono (hch.out _) ?_
                rintro e wc ⟨bc, rfl, hbc, hbq⟩
                replace hv3 := hid (rowT_kept hv3.out hbq)
                replace hb3 := hid (hb3.out.trans (hbq.mono hb3.out.size))
                have hbc' := hid hbc
                have hz := hid hb3.out.size
                obtain ⟨i0, hi0, hz0', hz1, hz2⟩ := info_parts infoU8
                have g0 := hid hz0'
                have g1 := hid hz1
                have g2 := hid hz2
                have g3 := hid hi0
                clear hbc hbq c0 c1 c2 k0 k1 hz0' hz1 hz2 hi0 hch
                go_wp2_with (first
                  | (at_builtin; refine wpList_append_own _ rfl _ _ 32 rfl w1.heap.size 5 i0 (.int .u8 0) 1 1 Try.underlying32 g3.out g0.out g1.out g2.out rfl (by decide) _ _ _ rfl hv3.out ⟨bc, 0, none⟩ CL.length CL.length (byC CL) rfl (by rw [byC_len, Nat.mul_one]) (fun j u hj => by
                      have e : (⟨bc, 0, none⟩ : Addr).add j = ⟨bc, j, none⟩ := by by_cases h : j = 0 <;> simp [Addr.add, h]
                      rw [e, hbc'.out.cell j, List.getElem?_toArray]
                      exact hj) (fun u hu => by
                      unfold byC at hu
                      simp only [List.mem_map] at hu
                      obtain ⟨x, -, rfl⟩ := hu
                      rfl) (by unfold maxLen; omega) (by omega) hz.out ?_)
                  | go_in)
                intro v' w' hown1 hgrow _
                have hown2 : Hid (w'.ownsRow w1.heap.size 5 1 v' (o ++ CL).length (byC (o ++ CL))) := by
                  rw [byC_app, List.length_append]
                  exact hown1
                have hb4 := hid (hb3.out.grown hgrow hb3.out.size (fun b e => (hv3.out.lt b e).1))
                clear hown1 hgrow
                go_wp2
                go_roundw
                case rel => exact ⟨_, _, rfl, hid hst.out.1, hown2, hb4⟩
                case measure => exact hst.out.2
              | false =>
                go_wp2_with fail
                refine Calls.mono (hhc.out _) ?_
                rintro e wh2 ⟨rfl, hbq⟩
                replace a5' := hid (a5'.out.keptAll hbq)
                replace hv3 := hid (rowT_kept hv3.out hbq)
                replace hb3 := hid (hb3.out.trans (hbq.mono hb3.out.size))
                clear hbq c0 c1 c2
                have c0 := a5'.out.cell 0
                have c1 := a5'.out.cell 1
                have c2 := a5'.out.cell 2
                simp only [List.getElem?_toArray, List.getElem?_cons_zero, List.getElem?_cons_succ] at c0 c1 c2
                have hch := hid (fun (u : World) => char_calls 65533 (by decide) u)
                obtain ⟨CL, hCL⟩ : ∃ CL, Hid (charL 65533 = CL) := ⟨_, rfl⟩
                rw [hCL.out] at hch
                have hCl : CL.length ≤ 4 := by rw [← hCL.out]; exact (charL_len _).2
                have hst : Hid (UnR s r2 (o ++ CL) ∧ r2.size < r.size) := hR.out.step hr0 (by unfold stepL; rw [hP.out]; dsimp only; rw [if_neg hz0, if_neg (fun h => by have h3 := h.2.2; rw [← hr2b.out, hQ.out, hLq.out] at h3; cases h3), if_pos (.inl hHi.out), hCL.out]) hr2b.out
                go_wp2_with fail
                refine Calls.mono (hch.out _) ?_
                rintro e wc ⟨bc, rfl, hbc, hbq⟩
                replace hv3 := hid (rowT_kept hv3.out hbq)
                replace hb3 := hid (hb3.out.trans (hbq.mono hb3.out.size))
                have hbc' := hid hbc
                have hz := hid hb3.out.size
                obtain ⟨i0, hi0, hz0', hz1, hz2⟩ := info_parts infoU8
                have g0 := hid hz0'
                have g1 := hid hz1
                have g2 := hid hz2
                have g3 := hid hi0
                clear hbc hbq c0 c1 c2 hz0' hz1 hz2 hi0 hch
                go_wp2_with (first
                  | (at_builtin; refine wpList_append_own _ rfl _ _ 32 rfl w1.heap.size 5 i0 (.int .u8 0) 1 1 Try.underlying32 g3.out g0.out g1.out g2.out rfl (by decide) _ _ _ rfl hv3.out ⟨bc, 0, none⟩ CL.length CL.length (byC CL) rfl (by rw [byC_len, Nat.mul_one]) (fun j u hj => by
                      have e : (⟨bc, 0, none⟩ : Addr).add j = ⟨bc, j, none⟩ := by by_cases h : j = 0 <;> simp [Addr.add, h]
                      rw [e, hbc'.out.cell j, List.getElem?_toArray]
                      exact hj) (fun u hu => by
                      unfold byC at hu
                      simp only [List.mem_map] at hu
                      obtain ⟨x, -, rfl⟩ := hu
                      rfl) (by unfold maxLen; omega) (by omega) hz.out ?_)
                  | go_in)
                intro v' w' hown1 hgrow _
                have hown2 : Hid (w'.ownsRow w1.heap.size 5 1 v' (o ++ CL).length (byC (o ++ CL))) := by
                  rw [byC_app, List.length_append]
                  exact hown1
                have hb4 := hid (hb3.out.grown hgrow hb3.out.size (fun b e => (hv3.out.lt b e).1))
                clear hown1 hgrow
                go_wp2
                go_roundw
                case rel => exact ⟨_, _, rfl, hid hst.out.1, hown2, hb4⟩
                case measure => exact hst.out.2
            · have hr2z : r2.size = 0 := by omega
              have hr2i : decide ((0 : Int) < (r2.size : Int)) = false := decide_eq_false (by omega)
              have hr2j : decide (0 < r2.size) = false := decide_eq_false (by omega)
              go_wp2_with fail
              refine Calls.mono (hhc.out _) ?_
              rintro e wh2 ⟨rfl, hbq⟩
              replace a5' := hid (a5'.out.keptAll hbq)
              replace hv3 := hid (rowT_kept hv3.out hbq)
              replace hb3 := hid (hb3.out.trans (hbq.mono hb3.out.size))
              clear hbq c0 c1 c2
              have c0 := a5'.out.cell 0
              have c1 := a5'.out.cell 1
              have c2 := a5'.out.cell 2
              simp only [List.getElem?_toArray, List.getElem?_cons_zero, List.getElem?_cons_succ] at c0 c1 c2
              have hch := hid (fun (u : World) => char_calls 65533 (by decide) u)
              obtain ⟨CL, hCL⟩ : ∃ CL, Hid (charL 65533 = CL) := ⟨_, rfl⟩
              rw [hCL.out] at hch
              have hCl : CL.length ≤ 4 := by rw [← hCL.out]; exact (charL_len _).2
              have hst : Hid (UnR s r2 (o ++ CL) ∧ r2.size < r.size) := hR.out.step hr0 (by unfold stepL; rw [hP.out]; dsimp only; rw [if_neg hz0, if_neg (fun h => by have := h.2.1; have h4 := hr2s.out; rw [byts_length] at this; omega), if_pos (.inl hHi.out), hCL.out]) hr2b.out
              go_wp2_with fail
              refine Calls.mono (hch.out _) ?_
              rintro e wc ⟨bc, rfl, hbc, hbq⟩
              replace hv3 := hid (rowT_kept hv3.out hbq)
              replace hb3 := hid (hb3.out.trans (hbq.mono hb3.out.size))
              have hbc' := hid hbc
              have hz := hid hb3.out.size
              obtain ⟨i0, hi0, hz0', hz1, hz2⟩ := info_parts infoU8
              have g0 := hid hz0'
              have g1 := hid hz1
              have g2 := hid hz2
              have g3 := hid hi0
              clear hbc hbq c0 c1 c2 hz0' hz1 hz2 hi0 hch
              go_wp2_with (first
                | (at_builtin; refine wpList_append_own _ rfl _ _ 32 rfl w1.heap.size 5 i0 (.int .u8 0) 1 1 Try.underlying32 g3.out g0.out g1.out g2.out rfl (by decide) _ _ _ rfl hv3.out ⟨bc, 0, none⟩ CL.length CL.length (byC CL) rfl (by rw [byC_len, Nat.mul_one]) (fun j u hj => by
                    have e : (⟨bc, 0, none⟩ : Addr).add j = ⟨bc, j, none⟩ := by by_cases h : j = 0 <;> simp [Addr.add, h]
                    rw [e, hbc'.out.cell j, List.getElem?_toArray]
                    exact hj) (fun u hu => by
                    unfold byC at hu
                    simp only [List.mem_map] at hu
                    obtain ⟨x, -, rfl⟩ := hu
                    rfl) (by unfold maxLen; omega) (by omega) hz.out ?_)
                | go_in)
              intro v' w' hown1 hgrow _
              have hown2 : Hid (w'.ownsRow w1.heap.size 5 1 v' (o ++ CL).length (byC (o ++ CL))) := by
                rw [byC_app, List.length_append]
                exact hown1
              have hb4 := hid (hb3.out.grown hgrow hb3.out.size (fun b e => (hv3.out.lt b e).1))
              clear hown1 hgrow
              go_wp2
              go_roundw
              case rel => exact ⟨_, _, rfl, hid hst.out.1, hown2, hb4⟩
              case measure => exact hst.out.2
          | false =>
            go_wp2_with fail
            refine Calls.mono (hhc.out _) ?_
            rintro e wh ⟨rfl, hbq⟩
            replace a5' := hid (a5'.out.keptAll hbq)
            replace hv3 := hid (rowT_kept hv3.out hbq)
            replace hb3 := hid (hb3.out.trans (hbq.mono hb3.out.size))
            clear hbq c0 c1 c2
            have c0 := a5'.out.cell 0
            have c1 := a5'.out.cell 1
            have c2 := a5'.out.cell 2
            simp only [List.getElem?_toArray, List.getElem?_cons_zero, List.getElem?_cons_succ] at c0 c1 c2
            go_wp2_with fail
            refine Calls.mono (hhc.out _) ?_
            rintro e wh2 ⟨rfl, hbq⟩
            replace a5' := hid (a5'.out.keptAll hbq)
            replace hv3 := hid (rowT_kept hv3.out hbq)
            replace hb3 := hid (hb3.out.trans (hbq.mono hb3.out.size))
            clear hbq c0 c1 c2
            have c0 := a5'.out.cell 0
            have c1 := a5'.out.cell 1
            have c2 := a5'.out.cell 2
            simp only [List.getElem?_toArray, List.getElem?_cons_zero, List.getElem?_cons_succ] at c0 c1 c2
            cases lo with
            | true =>
              obtain rfl : fr = true := by
                have h := hLo.out
                unfold lowP at h
                simp only [Bool.and_eq_true] at h
                exact h.1
              go_wp2_with fail
              refine Calls.mono (hlc.out _) ?_
              rintro e wl ⟨rfl, hbq⟩
              replace a5' := hid (a5'.out.keptAll hbq)
              replace hv3 := hid (rowT_kept hv3.out hbq)
              replace hb3 := hid (hb3.out.trans (hbq.mono hb3.out.size))
              clear hbq c0 c1 c2
              have c0 := a5'.out.cell 0
              have c1 := a5'.out.cell 1
              have c2 := a5'.out.cell 2
              simp only [List.getElem?_toArray, List.getElem?_cons_zero, List.getElem?_cons_succ] at c0 c1 c2
              have hch := hid (fun (u : World) => char_calls 65533 (by decide) u)
              obtain ⟨CL, hCL⟩ : ∃ CL, Hid (charL 65533 = CL) := ⟨_, rfl⟩
              rw [hCL.out] at hch
              have hCl : CL.length ≤ 4 := by rw [← hCL.out]; exact (charL_len _).2
              have hst : Hid (UnR s r2 (o ++ CL) ∧ r2.size < r.size) := hR.out.step hr0 (by unfold stepL; rw [hP.out]; dsimp only; rw [if_neg hz0, if_neg (by rw [hHi.out]; simp), if_pos (.inr hLo.out), hCL.out]) hr2b.out
              go_wp2_with fail
              refine Calls.mono (hch.out _) ?_
              rintro e wc ⟨bc, rfl, hbc, hbq⟩
              replace hv3 := hid (rowT_kept hv3.out hbq)
              replace hb3 := hid (hb3.out.trans (hbq.mono hb3.out.size))
              have hbc' := hid hbc
              have hz := hid hb3.out.size
              obtain ⟨i0, hi0, hz0', hz1, hz2⟩ := info_parts infoU8
              have g0 := hid hz0'
              have g1 := hid hz1
              have g2 := hid hz2
              have g3 := hid hi0
              clear hbc hbq c0 c1 c2 hz0' hz1 hz2 hi0 hch
              go_wp2_with (first
                | (at_builtin; refine wpList_append_own _ rfl _ _ 32 rfl w1.heap.size 5 i0 (.int .u8 0) 1 1 Try.underlying32 g3.out g0.out g1.out g2.out rfl (by decide) _ _ _ rfl hv3.out ⟨bc, 0, none⟩ CL.length CL.length (byC CL) rfl (by rw [byC_len, Nat.mul_one]) (fun j u hj => by
                    have e : (⟨bc, 0, none⟩ : Addr).add j = ⟨bc, j, none⟩ := by by_cases h : j = 0 <;> simp [Addr.add, h]
                    rw [e, hbc'.out.cell j, List.getElem?_toArray]
                    exact hj) (fun u hu => by
                    unfold byC at hu
                    simp only [List.mem_map] at hu
                    obtain ⟨x, -, rfl⟩ := hu
                    rfl) (by unfold maxLen; omega) (by omega) hz.out ?_)
                | go_in)
              intro v' w' hown1 hgrow _
              have hown2 : Hid (w'.ownsRow w1.heap.size 5 1 v' (o ++ CL).length (byC (o ++ CL))) := by
                rw [byC_app, List.length_append]
                exact hown1
              have hb4 := hid (hb3.out.grown hgrow hb3.out.size (fun b e => (hv3.out.lt b e).1))
              clear hown1 hgrow
              go_wp2
              go_roundw
              case rel => exact ⟨_, _, rfl, hid hst.out.1, hown2, hb4⟩
              case measure => exact hst.out.2
            | false =>
              cases fr with
              | true =>
                go_wp2_with fail
                refine Calls.mono (hlc.out _) ?_
                rintro e wl ⟨rfl, hbq⟩
                replace a5' := hid (a5'.out.keptAll hbq)
                replace hv3 := hid (rowT_kept hv3.out hbq)
                replace hb3 := hid (hb3.out.trans (hbq.mono hb3.out.size))
                clear hbq c0 c1 c2
                have c0 := a5'.out.cell 0
                have c1 := a5'.out.cell 1
                have c2 := a5'.out.cell 2
                simp only [List.getElem?_toArray, List.getElem?_cons_zero, List.getElem?_cons_succ] at c0 c1 c2
                have hch := hid (fun (u : World) => char_calls mn (by omega) u)
                obtain ⟨CL, hCL⟩ : ∃ CL, Hid (charL mn = CL) := ⟨_, rfl⟩
                rw [hCL.out] at hch
                have hCl : CL.length ≤ 4 := by rw [← hCL.out]; exact (charL_len _).2
                have hst : Hid (UnR s r2 (o ++ CL) ∧ r2.size < r.size) := hR.out.step hr0 (by unfold stepL; rw [hP.out]; dsimp only; rw [if_neg hz0, if_neg (by rw [hHi.out]; simp), if_neg (by rw [hHi.out, hLo.out]; simp), if_pos rfl, hCL.out]) hr2b.out
                go_wp2_with fail
                refine Calls.mono (hch.out _) ?_
                rintro e wc ⟨bc, rfl, hbc, hbq⟩
                replace hv3 := hid (rowT_kept hv3.out hbq)
                replace hb3 := hid (hb3.out.trans (hbq.mono hb3.out.size))
                have hbc' := hid hbc
                have hz := hid hb3.out.size
                obtain ⟨i0, hi0, hz0', hz1, hz2⟩ := info_parts infoU8
                have g0 := hid hz0'
                have g1 := hid hz1
                have g2 := hid hz2
                have g3 := hid hi0
                clear hbc hbq c0 c1 c2 hz0' hz1 hz2 hi0 hch
                go_wp2_with (first
                  | (at_builtin; refine wpList_append_own _ rfl _ _ 32 rfl w1.heap.size 5 i0 (.int .u8 0) 1 1 Try.underlying32 g3.out g0.out g1.out g2.out rfl (by decide) _ _ _ rfl hv3.out ⟨bc, 0, none⟩ CL.length CL.length (byC CL) rfl (by rw [byC_len, Nat.mul_one]) (fun j u hj => by
                      have e : (⟨bc, 0, none⟩ : Addr).add j = ⟨bc, j, none⟩ := by by_cases h : j = 0 <;> simp [Addr.add, h]
                      rw [e, hbc'.out.cell j, List.getElem?_toArray]
                      exact hj) (fun u hu => by
                      unfold byC at hu
                      simp only [List.mem_map] at hu
                      obtain ⟨x, -, rfl⟩ := hu
                      rfl) (by unfold maxLen; omega) (by omega) hz.out ?_)
                  | go_in)
                intro v' w' hown1 hgrow _
                have hown2 : Hid (w'.ownsRow w1.heap.size 5 1 v' (o ++ CL).length (byC (o ++ CL))) := by
                  rw [byC_app, List.length_append]
                  exact hown1
                have hb4 := hid (hb3.out.grown hgrow hb3.out.size (fun b e => (hv3.out.lt b e).1))
                clear hown1 hgrow
                go_wp2
                go_roundw
                case rel => exact ⟨_, _, rfl, hid hst.out.1, hown2, hb4⟩
                case measure => exact hst.out.2
              | false =>
                go_wp2_with fail
                refine Calls.mono (hlc.out _) ?_
                rintro e wl ⟨rfl, hbq⟩
                replace a5' := hid (a5'.out.keptAll hbq)
                replace hv3 := hid (rowT_kept hv3.out hbq)
                replace hb3 := hid (hb3.out.trans (hbq.mono hb3.out.size))
                clear hbq c0 c1 c2
                have c0 := a5'.out.cell 0
                have c1 := a5'.out.cell 1
                have c2 := a5'.out.cell 2
                simp only [List.getElem?_toArray, List.getElem?_cons_zero, List.getElem?_cons_succ] at c0 c1 c2
                have hmb : mn < 256 := by
                  have h := nextP_one (lb (byts r)) (byts r).length (lb_lt (byts_lt r)) (show (nextL (byts r)).four = false by rw [hP.out])
                  have h2 : (nextL (byts r)).means < 256 := h
                  rw [hP.out] at h2
                  exact h2
                have hmbi : (mn : Int) < 256 := by omega
                have hst : Hid (UnR s r2 (o ++ [mn]) ∧ r2.size < r.size) := hR.out.step hr0 (by unfold stepL; rw [hP.out]; dsimp only; rw [if_neg hz0, if_neg (by rw [hHi.out]; simp), if_neg (by rw [hHi.out, hLo.out]; simp), if_neg (by simp)]) hr2b.out
                have hz := hid hb3.out.size
                obtain ⟨i0, hi0, hz0', hz1, hz2⟩ := info_parts infoU8
                have g0 := hid hz0'
                have g1 := hid hz1
                have g2 := hid hz2
                have g3 := hid hi0
                clear hz0' hz1 hz2 hi0
                go_wp2_with (first
                  | (at_builtin; refine wpList_append_own _ rfl _ _ 32 rfl w1.heap.size 5 i0 (.int .u8 0) 1 1 Try.underlying32 g3.out g0.out g1.out g2.out rfl (by decide) _ _ _ rfl (World.ownsRow.alloc hv3.out _) ⟨wl.heap.size, 0, none⟩ 1 1 [.int .u8 (mn : Int)] rfl rfl (fun j u hj => by match j, hj with | 0, hj => simp at hj; subst hj; simp [Addr.add]) (fun u hu => by simp at hu; subst hu; rfl) (by unfold maxLen; omega) (by omega) (by rw [World.size_alloc]; have := hz.out; omega) ?_)
                  | go_in)
                intro v' w' hown1 hgrow _
                have hown2 : Hid (w'.ownsRow w1.heap.size 5 1 v' (o ++ [mn]).length (byC (o ++ [mn]))) := by
                  rw [byC_app, List.length_append]
                  exact hown1
                have hb4 := hid ((hb3.out.alloc hz.out (.cells #[.int .u8 (mn : Int)] 5)).grown hgrow (by rw [World.size_alloc]; have := hz.out; omega) (fun b e => (hv3.out.lt b e).1))
                clear hown1 hgrow c0 c1 c2
                go_wp2
                go_roundw
                case rel => exact ⟨_, _, rfl, hid hst.out.1, hown2, hb4⟩
                case measure => exact hst.out.2
      · have hre : Hid (byts r = []) := List.eq_nil_of_length_eq_zero (by rw [byts_length]; omega)
        have hr0i : decide ((0 : Int) < (r.size : Int)) = false := decide_eq_false (by omega)
        have hr0j : decide (0 < r.size) = false := decide_eq_false (by omega)
        have hN : Hid (T = mkS o ∧ E = 0) := by
          have h := hUn.out
          rw [hR.out.1, hre.out, unescL_nil] at h
          simp only [Option.map_some, List.append_nil, Prod.mk.injEq] at h
          exact ⟨h.1.symm, h.2.symm⟩
        obtain ⟨rfl, rfl⟩ := hN.out
        have hfin := hid (hb1'.out.trans (hb.out.mono hb1'.out.size))
        have hcv : (convert 32 9 u4).run Try.prog wr = .ok (.string (mkS o)) wr := by
          refine conv_row (B := w1.heap.size) ?_
          rw [strCells_mkS hR.out.2.1, mkS_size]
          exact hv.out
        clear hN hv
        go_wp2
        exact bodyPost_ret (v := .tuple #[.string (mkS o), .int .i64 0]) (by simp [results, Try.results10, go_sem]; try decide) rfl ⟨rfl, hfin.out⟩
end Go.Proofs.Ytlcihopklnnhdaa
