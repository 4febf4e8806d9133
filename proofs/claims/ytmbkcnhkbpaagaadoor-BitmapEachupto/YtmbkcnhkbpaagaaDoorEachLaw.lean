/-
  The walk of quarrylaw04.BitmapEach.
-/
import Derived.Test.YtmbkcnhkbpaagaaDoorEachKit
namespace Go.Proofs.YtmbkcnhkbpaagaaDoor
open Go.RowKit Go.Shelf

attribute [local go_sem] Oper.semAt_some

theorem hid' {p : Prop} (h : p) : Hid p := h
theorem below_al (w : World) (o : Obj) : Below w.heap.size w (w.alloc o) := (Below.refl _ _).alloc (Nat.le_refl _) _
theorem below_dr (w : World) : Below w.heap.size w w.drew := (Below.refl _ _).drew
/-- The words of the row that is written over: some words, in a block between. -/
def XRow (G U : Nat) (xo : Option Addr) (k : Nat) (W : World) : Prop := k = 0 ∨ ∃ gx cur, xo = some ⟨gx, 0, none⟩ ∧ G < gx ∧ gx < U ∧ At W gx cur 43 ∧ ∀ j, j < k → ∃ z : Nat, z < 18446744073709551616 ∧ cur[j]? = some (.int .u64 (z : Int))
theorem XRow.kept {G U k : Nat} {xo : Option Addr} {W W' : World} (h : XRow G U xo k W) (hb : Below W.heap.size W W') : XRow G U xo k W' := by
  rcases h with h | ⟨gx, cur, h1, h2, h3, h4, h5⟩
  · exact .inl h
  · exact .inr ⟨gx, cur, h1, h2, h3, h4.keptAll hb, h5⟩
theorem XRow.set {G U k gx i z : Nat} {W : World} (h : XRow G U (some ⟨gx, 0, none⟩) k W) (hz : z < 18446744073709551616) : XRow G U (some ⟨gx, 0, none⟩) k (W.setCell ⟨gx, i, none⟩ (.int .u64 (z : Int))) := by
  rcases h with h | ⟨g', cur, h1, h2, h3, h4, h5⟩
  · exact .inl h
  · cases h1
    refine .inr ⟨gx, _, rfl, h2, h3, h4.set i _, fun j hj => ?_⟩
    obtain ⟨y, hy, hc⟩ := h5 j hj
    by_cases hji : j = i
    · subst hji
      have hlt : j < cur.size := by
        rcases Nat.lt_or_ge j cur.size with hl | hl
        · exact hl
        · rw [Array.getElem?_eq_none hl] at hc; cases hc
      exact ⟨z, hz, by rw [Array.getElem?_setIfInBounds_self_of_lt hlt]⟩
    · exact ⟨y, hy, by rw [Array.getElem?_setIfInBounds_ne (by omega), hc]⟩

set_option maxRecDepth 100000 in
set_option maxHeartbeats 4000000 in
theorem eachLaw_in (n : Int) (ao : Option Addr) (k cap : Nat) (X : Nat → Nat) (hn : (Lit.int .i64 n).wf = true) (hk : k ≤ 1048576) (kk : Int) (w : World) (hT : Tab w) (h0 : 0 < w.heap.size) (hW : Wds w ao k X) :
    CallsIn Fence.wide 4 Tryd.prog 6 #[bv n ao k cap, .int .i64 kk] w fun e w' => e = .returned (.bool true) ∧ Below w.heap.size w w' := by
  have hnf : ∀ (f : Fn) (a b : Array Value) (w : World), Sem.run Tryd.prog (binOp BinOp.eql 41 (.func f a b) .nilFunc) w = .ok (.bool false) w := fun _ _ _ _ => by rfl
  obtain ⟨N0, hE0⟩ := Eff.get n k X
  have hE : Hid (Eff n k X N0) := hE0
  obtain ⟨L, hL⟩ : ∃ L, Hid (placesB X N0 = L) := ⟨_, rfl⟩
  obtain ⟨N, hN⟩ : ∃ N, Hid (L.length = N) := ⟨_, rfl⟩
  have hNc : Hid (cntB X N0 = N) := by show _ = _; rw [← placesB_len, hL.out, hN.out]
  have hX := hid' (fun j hj => (hW j hj).1)
  have hW' := hid' hW
  have hT' := hid' hT
  have hn' := hid' hn
  clear hE0 hW hT hn
  refine callsIn_of_wp_marks Tryd.func6 rfl trivial ?_ rfl
  simp only [Tryd.ntmps6, List.size_toArray, List.length_cons, List.length_nil, Nat.reduceAdd, Nat.reduceSub, Array.replicate_succ, Array.replicate_zero, List.push_toArray, List.append_toArray, List.nil_append, List.cons_append]
  refine wpIn_wide.2 ?_
  go_wp2_with fail
  refine Calls.mono (refPlaces_calls n ao k cap X N0 hn'.out hk hE _ (hW'.out.kept (by repeat (first | with_reducible exact Below.refl _ _ | with_reducible refine Below.setCell ?_ (by first | (simp; done) | (simp; omega)) _ | with_reducible refine below_drewN ?_ _ | with_reducible refine Below.alloc ?_ (by first | (simp; done) | (simp; omega)) _ | with_reducible refine Below.drew ?_)))) ?_
  rintro e w1 ⟨⟨v, rfl, hown⟩, hNl, hb⟩
  have a0 : At w1 w.heap.size #[.int .i64 n, .slice ao k cap] 24 := (((At.new w _ _).alloc _).alloc _).keptAll hb
  have a1 : At w1 (w.heap.size + 1) #[.int .i64 kk] 3 := by
    have h := ((At.new (w.alloc (.cells #[.int .i64 n, .slice ao k cap] 24)) #[.int .i64 kk] 3).alloc (.cells #[.bool false] 4)).keptAll (by exact hb)
    simpa using h
  have a2 : At w1 (w.heap.size + 2) #[.bool false] 4 := by
    have h := (At.new ((w.alloc (.cells #[.int .i64 n, .slice ao k cap] 24)).alloc (.cells #[.int .i64 kk] 3)) #[.bool false] 4).keptAll (by exact hb)
    simpa using h
  have hB1 : Below w.heap.size w w1 := Below.trans (by repeat (first | with_reducible exact Below.refl _ _ | with_reducible refine Below.setCell ?_ (by first | (simp; done) | (simp; omega)) _ | with_reducible refine below_drewN ?_ _ | with_reducible refine Below.alloc ?_ (by first | (simp; done) | (simp; omega)) _ | with_reducible refine Below.drew ?_)) (hb.mono (by simp; omega))
  have hG : w.heap.size + 3 ≤ w1.heap.size := a2.lt
  have l1 : Lst w1 v (w.heap.size + 3) w1.heap.size L := by
    have h := lst_of_row (L := L) (by rw [hN.out, ← hNc.out, ← hL.out]; exact hown)
    exact h.wide (by simp) (Nat.le_refl _)
  have hNle : N ≤ 67108864 := by have := hNc.out; have := cntB_le X N0; omega
  rw [hNc.out] at hown
  obtain ⟨vo, vc, rfl⟩ := row_slice hown
  have a0' := hid' a0
  have hsA : Hid (At w1 (w.heap.size + 1) #[.int .i64 kk] 3 ∧ At w1 (w.heap.size + 2) #[.bool false] 4 ∧ Lst w1 (.slice vo N vc) (w.heap.size + 3) w1.heap.size L ∧ Below w.heap.size w w1) := ⟨a1, a2, l1, hB1⟩
  obtain ⟨c0, c1, -, -⟩ := (a0.alloc (.cells #[.slice vo N vc] 38)).facts
  clear hown hb a0 a1 a2 l1 hB1
  go_wp2_with fail
  refine Calls.mono (copyB_calls n ao k cap X (by omega) _ (hW'.out.kept (hsA.out.2.2.2.alloc hsA.out.2.2.2.size _))) ?_
  rintro e w2 ⟨vx, rfl, hownx, hb2⟩
  obtain ⟨xo, xc, rfl⟩ := row_slice hownx
  have hxz : Hid (xo = none → k = 0 ∧ xc = 0) := by
    rcases hownx.2 with ⟨hv, hk0⟩ | ⟨g, cap', cur, hv, _⟩
    · cases hv; exact fun _ => ⟨hk0, rfl⟩
    · cases hv; exact fun h => by cases h
  have hWx : Hid (Wds w2 xo k X) := by
    obtain ⟨ao', cap', he, hw⟩ := wds_of_row hownx (fun j hj => hX.out j hj)
    cases he
    exact hw
  have hXr : XRow w1.heap.size w2.heap.size xo k w2 := by
    rcases hownx.2 with ⟨hv, hk0⟩ | ⟨g, cap', cur, hv, hb, hgb, h3, h4, h5, h6⟩
    · exact .inl hk0
    · cases hv
      refine .inr ⟨g, cur, rfl, by simp at hb; omega, At.lt hgb, hgb, fun j hj => ⟨X j, hX.out j hj, ?_⟩⟩
      have : (cur.toList.take (k * 1))[j]? = (wl X k)[j]? := by rw [h6]
      rw [List.getElem?_take, if_pos (by omega)] at this
      simp only [Array.getElem?_toList] at this
      rw [this]; simp [wl, hj]
  have bA := below_al w1 (.cells #[.slice vo N vc] 38)
  have s1 := (hsA.out.1.keptAll bA).keptAll hb2
  have s2 := (hsA.out.2.1.keptAll bA).keptAll hb2
  have s3 := (hsA.out.2.2.1.kept bA (Nat.le_refl _)).kept hb2 (by simp)
  have s5 : At w2 w1.heap.size #[.slice vo N vc] 38 := (At.new w1 _ _).keptAll hb2
  have hB2 : Below w.heap.size w w2 := (hsA.out.2.2.2.alloc hsA.out.2.2.2.size _).trans (hb2.mono (by have := hsA.out.2.2.2.size; simp; omega))
  have hsB : Hid (At w2 (w.heap.size + 1) #[.int .i64 kk] 3 ∧ At w2 (w.heap.size + 2) #[.bool false] 4 ∧ Lst w2 (.slice vo N vc) (w.heap.size + 3) w1.heap.size L ∧ At w2 w1.heap.size #[.slice vo N vc] 38 ∧ Below w.heap.size w w2 ∧ XRow w1.heap.size w2.heap.size xo k w2) := ⟨s1, s2, s3, s5, hB2, hXr⟩
  have hGx : w1.heap.size < w2.heap.size := s5.lt
  clear c0 c1 hownx hb2 bA s1 s2 s3 s5 hB2 hXr hsA a0'
  go_wp2_with fail
  refine Calls.mono (eachB_calls n xo k xc X N0 hn'.out (by omega) hxz.out hE _ (hWx.out.kept (below_al _ _))) ?_
  rintro e w3 ⟨Bl, gs, rfl, hBl, hgs, hsq, hb3⟩
  rw [hL.out] at hsq
  have hBl' : w2.heap.size < Bl := by simp at hBl; omega
  have hgs' : w2.heap.size < gs := by simp at hgs; omega
  have bA := below_al w2 (.cells #[.int .i64 n, .slice xo k xc] 24)
  have bC := below_al w3 (.cells #[seqB Bl] 41)
  have hBeq : Bl < w3.heap.size ∧ gs < w3.heap.size := hsq.lt
  have s1 := ((hsB.out.1.keptAll bA).keptAll hb3).keptAll bC
  have s2 := ((hsB.out.2.1.keptAll bA).keptAll hb3).keptAll bC
  have hzz2 : w2.heap.size < w3.heap.size := by have := hb3.size; simp at this; omega
  have s3 := ((hsB.out.2.2.1.kept bA (by omega)).kept hb3 (by simp; omega)).kept bC (by omega)
  have s5 := ((hsB.out.2.2.2.1.keptAll bA).keptAll hb3).keptAll bC
  have s6 : At (w3.alloc (.cells #[seqB Bl] 41)) w2.heap.size #[.int .i64 n, .slice xo k xc] 24 := ((At.new w2 _ _).keptAll hb3).keptAll bC
  have hXr := ((hsB.out.2.2.2.2.2.kept bA).kept hb3).kept bC
  have hB3 : Below w.heap.size w (w3.alloc (.cells #[seqB Bl] 41)) := (((hsB.out.2.2.2.2.1.alloc hsB.out.2.2.2.2.1.size _).trans (hb3.mono (by have := hsB.out.2.2.2.2.1.size; simp; omega)))).alloc (by have := hsB.out.2.2.2.2.1.size; omega) _
  have hS3 : EaSt w L kk (.slice vo N vc) w1.heap.size Bl gs w3.heap.size (w3.alloc (.cells #[seqB Bl] 41)) := ⟨s1, s2, s5, At.new w3 _ _, hsq.kept bC, s3, hT'.out.below hB3 h0, hB3⟩
  have hS3' := hid' hS3
  have s6' := hid' s6
  have hXr' := hid' hXr
  have hszs : Hid (w2.heap.size < w3.heap.size) := hzz2
  clear hBl hgs hsq hb3 bA bC s1 s2 s3 s5 s6 hXr hB3 hS3 hsB hWx hxz
  go_wp2
  go_loopw [8] (fun ii wr => ∃ i : Nat, i ≤ k ∧ ii = .int .i64 (i : Int) ∧ EaSt w L kk (.slice vo N vc) w1.heap.size Bl gs w3.heap.size wr ∧ At wr w2.heap.size #[.int .i64 n, .slice xo k xc] 24 ∧ XRow w1.heap.size w2.heap.size xo k wr) (fun ii _ => k - (intOf ii).toNat)
  case atStart => exact ⟨0, Nat.zero_le _, rfl, hS3'.out, s6'.out, hXr'.out⟩
  case round =>
    obtain ⟨i, hik, rfl, hS, a6, hXr⟩ := hrel
    obtain ⟨c0, c1, -, -⟩ := a6.facts
    have hS' := hid' hS
    have a6h := hid' a6
    have hXh := hid' hXr
    clear hS a6 hXr hS3' s6' hXr'
    by_cases hlt : i < k
    · obtain h | ⟨gx, cur, rfl, hg1, hg2, hat, hcur⟩ := hXh.out
      · omega
      obtain ⟨z, hz, hcz⟩ := hcur i hlt
      have d1 := hat.cell i
      rw [hcz] at d1
      have f1 := hat.frozen i
      have e1 := not_eq hz
      obtain ⟨y, hy⟩ : ∃ y, 18446744073709551615 ^^^ z = y := ⟨_, rfl⟩
      have hyl : y < 18446744073709551616 := hy ▸ Nat.xor_lt_two_pow (n := 64) (by decide) hz
      rw [hy] at e1
      have e2 := hid' e1
      clear hcur hat hcz hy e1
      go_wp2
      go_region
      all_goals (try go_wp2_with (simp only [e2.out]))
      all_goals (try go_wp2)
      all_goals (try simp only [e2.out])
      all_goals go_roundw
      all_goals first
        | (simp [intOf]; omega; done)
        | (refine ⟨i + 1, by omega, by simp, ?_, ?_, ?_⟩
           · exact (hS'.out.kept h0 (below_dr _)).other h0 hG (i := i) hg1 (by omega) (by omega) (by omega) _
           · exact At.other (p := ⟨gx, i, none⟩) (a6h.out.drew) (by show w2.heap.size ≠ gx; omega) _
           · first | exact XRow.set hXh.out hyl | exact XRow.set (hXh.out.kept (below_dr _)) hyl)
    · obtain rfl : i = k := by omega
      have c7 := hS'.out.a7.cell 0
      simp only [List.getElem?_toArray, List.getElem?_cons_zero] at c7
      have hac : Hid _ := awake_calls wr hS'.out.tb (Nat.lt_of_lt_of_le h0 hS'.out.bl.size)
      clear hXh a6h
      go_wp2_with fail
      refine Calls.mono hac.out ?_
      rintro e w5 ⟨rfl, hb5⟩
      have hS5 := hS'.out.kept h0 hb5
      have hz5 : w3.heap.size < w5.heap.size := by have := hS'.out.a7.lt; have := hb5.size; omega
      have hS6 : EaN w L kk (.slice vo N vc) w1.heap.size Bl gs w3.heap.size w5.heap.size 0 (w5.alloc (.cells #[.int .i64 0] 3)) := ⟨hS5.kept h0 (below_al _ _), At.new w5 _ _⟩
      have c8 := hS6.st.a7.cell 0
      simp only [List.getElem?_toArray, List.getElem?_cons_zero] at c8
      have hS6' := hid' hS6
      clear hac hb5 hS5 c0 c1 c7 hS' hS6
      go_wp2_with fail
      have hS6 := hS6'.out
      clear hS6' c8
      have h8a : w1.heap.size < w5.heap.size := by have := hszs.out; omega
      have h8b : Bl < w5.heap.size := by omega
      have h8c : gs < w5.heap.size := by omega
      have h8d : w3.heap.size < w5.heap.size := hz5
      generalize w5.alloc (.cells #[.int .i64 0] 3) = W7 at *
      generalize w5.heap.size = b8 at *
      rename_i K hKr
      have rest : ∀ (D : Nat) (W : World) (m : Int), b8 < D → EaN w L kk (.slice vo N vc) w1.heap.size Bl gs w3.heap.size b8 m W → (m = kk ∨ m = (N : Int)) → W.heap[D]? = some (.deferred (some [])) → K { tmps := #[bv n ao i cap, .int .i64 kk, .pointer (some ⟨w.heap.size, 0, none⟩), .pointer (some ⟨w.heap.size + 1, 0, none⟩), .pointer (some ⟨w.heap.size + 1 + 1, 0, none⟩), .pointer (some ⟨w1.heap.size, 0, none⟩), .pointer (some ⟨w2.heap.size, 0, none⟩), .pointer (some ⟨w3.heap.size, 0, none⟩), .int .i64 (i : Int), .pointer (some ⟨b8, 0, none⟩), undef, undef, .agg #[.int .i64 n, .slice ao i cap], .slice vo N vc, .agg #[.int .i64 n, .slice ao i cap], .agg #[.int .i64 n, .slice xo i xc], .agg #[.int .i64 n, .slice xo i xc], seqB Bl, .int .i64 (i : Int), .pointer (some ⟨w2.heap.size, 1, none⟩), .slice xo i xc, .int .i64 (i : Int), .bool false, u23, u24, u25, u26, u27, u28, u29, u30, u31, u32, u33, u34, seqB Bl, .bool false, .bool false, .bool true, .bool false, .bool false, seqB Bl, undef, undef, undef, undef, undef, undef, undef, undef, undef, undef, undef, undef, undef, undef, undef, undef, undef, undef, undef, undef, undef, undef, undef, undef, undef, undef, undef, undef, undef, undef, undef, undef, undef, undef, undef, undef, undef, undef, undef, undef, undef, undef, undef, undef, undef, undef, undef, undef, undef, undef, undef, undef, undef, undef, undef, undef, undef, undef, undef, undef, undef, undef, undef], defers := [{ target := .collected D, args := #[] }] } W := by
        intro D W m hD hS hn hK
        refine hKr _ _ ?_
        clear hKr
        have c1 := hS.st.a1.cell 0
        have c2 := hS.st.a2.cell 0
        have c5 := hS.st.a5.cell 0
        have c7 := hS.st.a7.cell 0
        have c8 := hS.a8.cell 0
        have f2 := hS.st.a2.frozen 0
        have f8 := hS.a8.frozen 0
        simp only [List.getElem?_toArray, List.getElem?_cons_zero] at c1 c2 c5 c7 c8
        by_cases hnk : m = kk
        · have hnk2 : kk = m := hnk.symm
          subst hnk2
          have hnk' : (kk != kk) = false := by simp
          clear hnk
          have hgv : Hid (Calls Tryd.prog 33 #[seqB Bl, .slice vo N vc] W fun e w' => e = .returned (.bool true) ∧ Below W.heap.size W w') :=
            told_calls L Bl gs _ _ _ W hS.st.tb (Nat.lt_of_lt_of_le h0 hS.st.bl.size) (Nat.le_of_lt hS.st.a5.lt) hS.st.sq hS.st.ls
          go_wp2_with fail
          refine Calls.mono hgv.out ?_
          rintro e W4 ⟨rfl, hb4⟩
          have hS4 := hS.kept h0 hb4
          have hK4 : W4.heap[D]? = some (.deferred (some [])) := (hb4.block D (Array.getElem?_eq_some_iff.1 hK).1).trans hK
          have hS0 := hS4.put h0 hG h8a h8b h8c h8d 0
          have hKd : (W4.setCell ⟨b8, 0, none⟩ (.int .i64 0)).heap[D]? = some (.deferred (some [])) := (Below.heap_setCell W4 ⟨b8, 0, none⟩ _ D (by show D ≠ b8; omega)).trans hK4
          have c7' := hS0.st.a7.cell 0
          simp only [List.getElem?_toArray, List.getElem?_cons_zero] at c7'
          clear c1 c2 c5 c7 c8 f2 f8 hgv hb4
          have c1 := hS4.st.a1.cell 0
          have c2 := hS4.st.a2.cell 0
          have c5 := hS4.st.a5.cell 0
          have c7 := hS4.st.a7.cell 0
          have c8 := hS4.a8.cell 0
          have f2 := hS4.st.a2.frozen 0
          have f8 := hS4.a8.frozen 0
          simp only [List.getElem?_toArray, List.getElem?_cons_zero] at c1 c2 c5 c7 c8
          go_wp2_with fail
          have hDl : D < W4.heap.size := (Array.getElem?_eq_some_iff.1 hK4).1
          have hDl0 : D < (W4.setCell ⟨b8, 0, none⟩ (.int .i64 0)).heap.size := by simpa using hDl
          clear c1 c2 c5 c7 c8 f2 f8 c7' hK hS hDl hS4 hK4
          generalize W4.setCell ⟨b8, 0, none⟩ (.int .i64 0) = W0 at *
          have hz : b8 < W0.heap.size := hS0.a8.lt
          refine (wpIn_wide (n := 4)).1 ?_
          refine range_held (n := 4) (by decide) (gf := 57) (lb := #[.pointer (some ⟨Bl, 0, none⟩)]) rfl (enters_of Tryd.func57 (by kernel_rfl) rfl)
            (seqB_held (4 - 1) (by decide) Bl gs w.heap.size (W0.heap.size + 1 + 1) L h0 W0 hS0.st.bl.size (Nat.lt_of_lt_of_le h0 hS0.st.bl.size) (Nat.le_refl _) hS0.st.tb hS0.st.sq) (Below.refl _ _) (fun _ => rfl) Held.trans (fun W r r' h => Held.turn h (by omega) (by omega) (by omega))
            (fun pre W => EaN w L kk (.slice vo N vc) w1.heap.size Bl gs w3.heap.size b8 ((pre.length : Nat) : Int) W ∧ W.heap[D]? = some (.deferred (some [])))
            (fun c pre W => c = .ret ∧ ¬ pre <+: L)
            (fun _ X Y row h2 hg hr => ⟨h2.1.own h0 (by omega) hg hr, (hg.block D (Array.getElem?_eq_some_iff.1 h2.2).1 (fun e => by have := (hr D e.symm).1; omega)).trans h2.2⟩)
            (fun _ _ X Y row h hg hr => h)
            ⟨hS0, hKd⟩
            (fun p => { tmps := #[bv n ao i cap, .int .i64 kk, .pointer (some ⟨w.heap.size, 0, none⟩), .pointer (some ⟨w.heap.size + 1, 0, none⟩), .pointer (some ⟨w.heap.size + 1 + 1, 0, none⟩), .pointer (some ⟨w1.heap.size, 0, none⟩), .pointer (some ⟨w2.heap.size, 0, none⟩), .pointer (some ⟨w3.heap.size, 0, none⟩), .int .i64 (i : Int), .pointer (some ⟨b8, 0, none⟩), undef, .int .i64 ((p % 4611686018427387904 : Nat) : Int), .agg #[.int .i64 n, .slice ao i cap], .slice vo N vc, .agg #[.int .i64 n, .slice ao i cap], .agg #[.int .i64 n, .slice xo i xc], .agg #[.int .i64 n, .slice xo i xc], seqB Bl, .int .i64 (i : Int), .pointer (some ⟨w2.heap.size, 1, none⟩), .slice xo i xc, .int .i64 (i : Int), .bool false, u23, u24, u25, u26, u27, u28, u29, u30, u31, u32, u33, u34, seqB Bl, .bool false, .bool false, .bool true, .bool false, .bool false, seqB Bl, undef, undef, undef, undef, undef, undef, undef, undef, undef, undef, undef, undef, undef, undef, undef, undef, undef, undef, .int .i64 kk, .int .i64 kk, .bool false, .bool false, undef, undef, undef, undef, .bool false, .bool false, seqB Bl, .slice vo N vc, .bool true, .bool false, .bool false, seqB Bl, .int .i64 ((p % 4611686018427387904 : Nat) : Int), undef, undef, undef, undef, undef, undef, undef, undef, undef, undef, undef, undef, undef, undef, undef, undef, undef, undef, undef, undef, undef, undef, undef, undef, undef, undef, undef, undef], defers := [] })
            ?assign ?body ?done ?stop
          case assign =>
            intro l p W K hK
            rw [encB]
            try dsimp only at hK
            generalize p % 4611686018427387904 = q at *
            gi_wp2
            exact hK
          case body =>
            intro l pre p W hll ⟨hS, hKD⟩ hlt
            obtain ⟨g, ca, P, hv, hg, cg, hne⟩ := list_at hS.st.ls (fun p hp => hS.st.sq.small hp) hlt
            obtain ⟨rfl, -, rfl⟩ : vo = some ⟨g, 0, none⟩ ∧ N = L.length ∧ vc = ca := by simpa using hv
            have hlen : pre.length < N := hN.out ▸ hlt
            have hne' : Hid _ := hne p
            clear hne hv
            try dsimp only
            have c1 := hS.st.a1.cell 0
            have c2 := hS.st.a2.cell 0
            have c5 := hS.st.a5.cell 0
            have c7 := hS.st.a7.cell 0
            have c8 := hS.a8.cell 0
            have f2 := hS.st.a2.frozen 0
            have f8 := hS.a8.frozen 0
            simp only [List.getElem?_toArray, List.getElem?_cons_zero] at c1 c2 c5 c7 c8
            by_cases he : p % 4611686018427387904 = P
            · subst he
              generalize p % 4611686018427387904 = q at *
              clear hne'
              have ePl : ((((pre ++ [p]).length : Nat)) : Int) = (pre.length : Int) + 1 := by simp
              have ePh : Hid _ := ePl
              clear ePl
              by_cases h3 : pre.length < 3
              · have hgv : Hid (Calls Tryd.prog 33 #[seqB Bl, .slice (some ⟨g, 0, none⟩) N vc] W fun e w' => e = .returned (.bool true) ∧ Below W.heap.size W w') :=
                  told_calls L Bl gs _ _ _ W hS.st.tb (Nat.lt_of_lt_of_le h0 hS.st.bl.size) (Nat.le_of_lt hS.st.a5.lt) hS.st.sq hS.st.ls
                gi_wp2_with fail
                refine ⟨trivial, ?_⟩
                refine (CallsIn.inRound l (callsIn_wide.2 hgv.out)).mono ?_
                rintro e W4 ⟨rfl, hb4⟩
                have hS4 := hS.kept h0 hb4
                have cg4 := (hb4.cell (p := ⟨g, pre.length, none⟩) (cell_block cg)).trans cg
                have kf : KeepsFrom W0.heap.size W W4 := (keeps_below hb4).from _
                have hKD4 : W4.heap[D]? = some (.deferred (some [])) := (hb4.block D (Array.getElem?_eq_some_iff.1 hKD).1).trans hKD
                have hKD5 : (W4.setCell ⟨b8, 0, none⟩ (.int .i64 ((pre.length : Int) + 1))).heap[D]? = some (.deferred (some [])) := (Below.heap_setCell W4 ⟨b8, 0, none⟩ _ D (by show D ≠ b8; omega)).trans hKD4
                have hhl : Held w.heap.size (W0.heap.size + 1 + 1) gs W W4 := Held.below hS.st.bl.size hb4
                clear c1 c2 c5 c7 c8 f2 f8 cg hgv hb4
                have c1 := hS4.st.a1.cell 0
                have c2 := hS4.st.a2.cell 0
                have c5 := hS4.st.a5.cell 0
                have c7 := hS4.st.a7.cell 0
                have c8 := hS4.a8.cell 0
                have f2 := hS4.st.a2.frozen 0
                have f8 := hS4.a8.frozen 0
                simp only [List.getElem?_toArray, List.getElem?_cons_zero] at c1 c2 c5 c7 c8
                have hS5 := hS4.put h0 hG h8a h8b h8c h8d ((pre.length : Int) + 1)
                gi_wp2
                refine ⟨kf.trans ((KeepsOthers.setCell _ _ _).from _), hhl.trans (Held.setCell (b := b8) _ _ (by omega) (by omega) (by omega)), ?_, hKD5⟩
                rw [ePh.out]
                exact hS5
              · have h3' : ¬ (pre.length : Int) < 3 := by omega
                have hS5 := hS.put h0 hG h8a h8b h8c h8d ((pre.length : Int) + 1)
                have hKD5 : (W.setCell ⟨b8, 0, none⟩ (.int .i64 ((pre.length : Int) + 1))).heap[D]? = some (.deferred (some [])) := (Below.heap_setCell W ⟨b8, 0, none⟩ _ D (by show D ≠ b8; omega)).trans hKD
                gi_wp2_with fail
                all_goals (try (refine ⟨trivial, ?_⟩))
                all_goals (try gi_wp2)
                refine ⟨(KeepsOthers.setCell _ _ _).from _, Held.setCell (b := b8) _ _ (by omega) (by omega) (by omega), ?_, hKD5⟩
                rw [ePh.out]
                exact hS5
            · have hout : Hid _ := hne'.out he
              generalize p % 4611686018427387904 = q at *
              have he' : ((q : Int) != (P : Int)) = true := by simp; omega
              clear hne'
              by_cases h3 : pre.length < 3
              · have hgv : Hid (Calls Tryd.prog 33 #[seqB Bl, .slice (some ⟨g, 0, none⟩) N vc] W fun e w' => e = .returned (.bool true) ∧ Below W.heap.size W w') :=
                  told_calls L Bl gs _ _ _ W hS.st.tb (Nat.lt_of_lt_of_le h0 hS.st.bl.size) (Nat.le_of_lt hS.st.a5.lt) hS.st.sq hS.st.ls
                gi_wp2_with fail
                refine ⟨trivial, ?_⟩
                refine (CallsIn.inRound l (callsIn_wide.2 hgv.out)).mono ?_
                rintro e W4 ⟨rfl, hb4⟩
                have hS4 := hS.kept h0 hb4
                have cg4 := (hb4.cell (p := ⟨g, pre.length, none⟩) (cell_block cg)).trans cg
                have kf : KeepsFrom W0.heap.size W W4 := (keeps_below hb4).from _
                have hhl : Held w.heap.size (W0.heap.size + 1 + 1) gs W W4 := Held.below hS.st.bl.size hb4
                clear c1 c2 c5 c7 c8 f2 f8 cg hgv hb4
                have c1 := hS4.st.a1.cell 0
                have c2 := hS4.st.a2.cell 0
                have c5 := hS4.st.a5.cell 0
                have c7 := hS4.st.a7.cell 0
                have c8 := hS4.a8.cell 0
                have f2 := hS4.st.a2.frozen 0
                have f8 := hS4.a8.frozen 0
                simp only [List.getElem?_toArray, List.getElem?_cons_zero] at c1 c2 c5 c7 c8
                gi_wp2
                all_goals (try (exfalso; exact undef_bool (by assumption)))
                exact ⟨kf.trans ((KeepsOthers.setCell _ _ _).from _), hhl.trans (Held.setCell (b := w.heap.size + 1 + 1) _ _ (by omega) (by omega) (by omega)), rfl, hout.out⟩
              · have h3' : ¬ (pre.length : Int) < 3 := by omega
                gi_wp2_with fail
                all_goals (try (exfalso; exact undef_bool (by assumption)))
                all_goals (try (refine ⟨trivial, ?_⟩))
                all_goals (try gi_wp2)
                all_goals (try (exfalso; exact undef_bool (by assumption)))
                exact ⟨(KeepsOthers.setCell _ _ _).from _, Held.setCell (b := w.heap.size + 1 + 1) _ _ (by omega) (by omega) (by omega), rfl, hout.out⟩
          case done =>
            rintro D2 xs W hD2 hxs ⟨hS, hKD⟩ hK2
            rw [show xs.length = N by rw [hxs]; exact hN.out] at hS
            have c1 := hS.st.a1.cell 0
            have c2 := hS.st.a2.cell 0
            have c5 := hS.st.a5.cell 0
            have c7 := hS.st.a7.cell 0
            have c8 := hS.a8.cell 0
            have f2 := hS.st.a2.frozen 0
            have f8 := hS.a8.frozen 0
            simp only [List.getElem?_toArray, List.getElem?_cons_zero] at c1 c2 c5 c7 c8
            have k2 : (W.setCell ⟨w.heap.size + 1 + 1, 0, none⟩ (.bool true)).heap[D2]? = some (.deferred (some [])) := (Below.heap_setCell W ⟨w.heap.size + 1 + 1, 0, none⟩ _ D2 (by show D2 ≠ w.heap.size + 1 + 1; omega)).trans hK2
            have k1 : (W.setCell ⟨w.heap.size + 1 + 1, 0, none⟩ (.bool true)).heap[D]? = some (.deferred (some [])) := (Below.heap_setCell W ⟨w.heap.size + 1 + 1, 0, none⟩ _ D (by show D ≠ w.heap.size + 1 + 1; omega)).trans hKD
            have cr := World.cell?_setCell_same' W ⟨w.heap.size + 1 + 1, 0, none⟩ (.bool true) (by rw [c2]; rfl)
            have hBe := hS.st.bl.setCell (p := ⟨w.heap.size + 1 + 1, 0, none⟩) (by show w.heap.size ≤ w.heap.size + 1 + 1; omega) (.bool true)
            have k1' : ((W.setCell ⟨w.heap.size + 1 + 1, 0, none⟩ (.bool true)).putObj D2 (.deferred none)).heap[D]? = some (.deferred (some [])) := (World.putObj_heap_other (by omega)).trans k1
            have cr2 := cell_kept cr (grownBy_putObj' _ D2 (.deferred none)) (fun r e => by cases e; exact ⟨_, k2, rfl⟩)
            have cr3 := cell_kept cr2 (grownBy_putObj' _ D (.deferred none)) (fun r e => by cases e; exact ⟨_, k1', rfl⟩)
            have hBe2 := hBe.trans (belowK_b (w := w) (Nat.le_refl _) _ D2 _ (.deferred none) (by omega) k2 rfl rfl)
            have hBe3 := hBe2.trans (belowK_b (w := w) (Nat.le_refl _) _ D _ (.deferred none) (by omega) k1' rfl rfl)
            have eNN : ((N : Int) == (N : Int)) = true := by simp
            go_wp2
            refine ⟨by simp, .inl ⟨_, _, rfl, run_takeDeferred k2, ?_⟩⟩
            refine ⟨by simp, .inl ⟨_, _, rfl, run_takeDeferred k1', ?_⟩⟩
            refine ⟨.bool true, ?_, rfl, hBe3⟩
            simp [results, Tryd.f6, go_sem, cr3]
          case stop =>
            rintro D2 c pre W hD2 hpre ⟨-, h⟩ hK2
            exact absurd hpre h
        · obtain rfl : m = (N : Int) := by omega
          have hnk' : ((N : Int) != kk) = true := by simpa using hnk
          have hNN : ((N : Int) != (N : Int)) = false := by simp
          have hgv : Hid (Calls Tryd.prog 33 #[seqB Bl, .slice vo N vc] W fun e w' => e = .returned (.bool true) ∧ Below W.heap.size W w') :=
            told_calls L Bl gs _ _ _ W hS.st.tb (Nat.lt_of_lt_of_le h0 hS.st.bl.size) (Nat.le_of_lt hS.st.a5.lt) hS.st.sq hS.st.ls
          go_wp2_with fail
          refine Calls.mono hgv.out ?_
          rintro e W4 ⟨rfl, hb4⟩
          have hS4 := hS.kept h0 hb4
          have hK4 : W4.heap[D]? = some (.deferred (some [])) := (hb4.block D (Array.getElem?_eq_some_iff.1 hK).1).trans hK
          have hS0 := hS4.put h0 hG h8a h8b h8c h8d 0
          have hKd : (W4.setCell ⟨b8, 0, none⟩ (.int .i64 0)).heap[D]? = some (.deferred (some [])) := (Below.heap_setCell W4 ⟨b8, 0, none⟩ _ D (by show D ≠ b8; omega)).trans hK4
          have c7' := hS0.st.a7.cell 0
          simp only [List.getElem?_toArray, List.getElem?_cons_zero] at c7'
          clear c1 c2 c5 c7 c8 f2 f8 hgv hb4
          have c1 := hS4.st.a1.cell 0
          have c2 := hS4.st.a2.cell 0
          have c5 := hS4.st.a5.cell 0
          have c7 := hS4.st.a7.cell 0
          have c8 := hS4.a8.cell 0
          have f2 := hS4.st.a2.frozen 0
          have f8 := hS4.a8.frozen 0
          simp only [List.getElem?_toArray, List.getElem?_cons_zero] at c1 c2 c5 c7 c8
          go_wp2_with fail
          have hDl : D < W4.heap.size := (Array.getElem?_eq_some_iff.1 hK4).1
          have hDl0 : D < (W4.setCell ⟨b8, 0, none⟩ (.int .i64 0)).heap.size := by simpa using hDl
          clear c1 c2 c5 c7 c8 f2 f8 c7' hK hS hDl hS4 hK4
          generalize W4.setCell ⟨b8, 0, none⟩ (.int .i64 0) = W0 at *
          have hz : b8 < W0.heap.size := hS0.a8.lt
          refine (wpIn_wide (n := 4)).1 ?_
          refine range_held (n := 4) (by decide) (gf := 57) (lb := #[.pointer (some ⟨Bl, 0, none⟩)]) rfl (enters_of Tryd.func57 (by kernel_rfl) rfl)
            (seqB_held (4 - 1) (by decide) Bl gs w.heap.size (W0.heap.size + 1 + 1) L h0 W0 hS0.st.bl.size (Nat.lt_of_lt_of_le h0 hS0.st.bl.size) (Nat.le_refl _) hS0.st.tb hS0.st.sq) (Below.refl _ _) (fun _ => rfl) Held.trans (fun W r r' h => Held.turn h (by omega) (by omega) (by omega))
            (fun pre W => EaN w L kk (.slice vo N vc) w1.heap.size Bl gs w3.heap.size b8 ((pre.length : Nat) : Int) W ∧ W.heap[D]? = some (.deferred (some [])))
            (fun c pre W => c = .ret ∧ ¬ pre <+: L)
            (fun _ X Y row h2 hg hr => ⟨h2.1.own h0 (by omega) hg hr, (hg.block D (Array.getElem?_eq_some_iff.1 h2.2).1 (fun e => by have := (hr D e.symm).1; omega)).trans h2.2⟩)
            (fun _ _ X Y row h hg hr => h)
            ⟨hS0, hKd⟩
            (fun p => { tmps := #[bv n ao i cap, .int .i64 kk, .pointer (some ⟨w.heap.size, 0, none⟩), .pointer (some ⟨w.heap.size + 1, 0, none⟩), .pointer (some ⟨w.heap.size + 1 + 1, 0, none⟩), .pointer (some ⟨w1.heap.size, 0, none⟩), .pointer (some ⟨w2.heap.size, 0, none⟩), .pointer (some ⟨w3.heap.size, 0, none⟩), .int .i64 (i : Int), .pointer (some ⟨b8, 0, none⟩), undef, .int .i64 ((p % 4611686018427387904 : Nat) : Int), .agg #[.int .i64 n, .slice ao i cap], .slice vo N vc, .agg #[.int .i64 n, .slice ao i cap], .agg #[.int .i64 n, .slice xo i xc], .agg #[.int .i64 n, .slice xo i xc], seqB Bl, .int .i64 (i : Int), .pointer (some ⟨w2.heap.size, 1, none⟩), .slice xo i xc, .int .i64 (i : Int), .bool false, u23, u24, u25, u26, u27, u28, u29, u30, u31, u32, u33, u34, seqB Bl, .bool false, .bool false, .bool true, .bool false, .bool false, seqB Bl, undef, undef, undef, undef, undef, undef, undef, undef, undef, undef, undef, undef, undef, undef, undef, undef, undef, undef, .int .i64 (N : Int), .int .i64 kk, .bool true, .bool true, .int .i64 (N : Int), .slice vo N vc, .int .i64 (N : Int), .bool false, .bool false, .bool false, seqB Bl, .slice vo N vc, .bool true, .bool false, .bool false, seqB Bl, .int .i64 ((p % 4611686018427387904 : Nat) : Int), undef, undef, undef, undef, undef, undef, undef, undef, undef, undef, undef, undef, undef, undef, undef, undef, undef, undef, undef, undef, undef, undef, undef, undef, undef, undef, undef, undef], defers := [] })
            ?assign ?body ?done ?stop
          case assign =>
            intro l p W K hK
            rw [encB]
            try dsimp only at hK
            generalize p % 4611686018427387904 = q at *
            gi_wp2
            exact hK
          case body =>
            intro l pre p W hll ⟨hS, hKD⟩ hlt
            obtain ⟨g, ca, P, hv, hg, cg, hne⟩ := list_at hS.st.ls (fun p hp => hS.st.sq.small hp) hlt
            obtain ⟨rfl, -, rfl⟩ : vo = some ⟨g, 0, none⟩ ∧ N = L.length ∧ vc = ca := by simpa using hv
            have hlen : pre.length < N := hN.out ▸ hlt
            have hne' : Hid _ := hne p
            clear hne hv
            try dsimp only
            have c1 := hS.st.a1.cell 0
            have c2 := hS.st.a2.cell 0
            have c5 := hS.st.a5.cell 0
            have c7 := hS.st.a7.cell 0
            have c8 := hS.a8.cell 0
            have f2 := hS.st.a2.frozen 0
            have f8 := hS.a8.frozen 0
            simp only [List.getElem?_toArray, List.getElem?_cons_zero] at c1 c2 c5 c7 c8
            by_cases he : p % 4611686018427387904 = P
            · subst he
              generalize p % 4611686018427387904 = q at *
              clear hne'
              have ePl : ((((pre ++ [p]).length : Nat)) : Int) = (pre.length : Int) + 1 := by simp
              have ePh : Hid _ := ePl
              clear ePl
              by_cases h3 : pre.length < 3
              · have hgv : Hid (Calls Tryd.prog 33 #[seqB Bl, .slice (some ⟨g, 0, none⟩) N vc] W fun e w' => e = .returned (.bool true) ∧ Below W.heap.size W w') :=
                  told_calls L Bl gs _ _ _ W hS.st.tb (Nat.lt_of_lt_of_le h0 hS.st.bl.size) (Nat.le_of_lt hS.st.a5.lt) hS.st.sq hS.st.ls
                gi_wp2_with fail
                refine ⟨trivial, ?_⟩
                refine (CallsIn.inRound l (callsIn_wide.2 hgv.out)).mono ?_
                rintro e W4 ⟨rfl, hb4⟩
                have hS4 := hS.kept h0 hb4
                have cg4 := (hb4.cell (p := ⟨g, pre.length, none⟩) (cell_block cg)).trans cg
                have kf : KeepsFrom W0.heap.size W W4 := (keeps_below hb4).from _
                have hKD4 : W4.heap[D]? = some (.deferred (some [])) := (hb4.block D (Array.getElem?_eq_some_iff.1 hKD).1).trans hKD
                have hKD5 : (W4.setCell ⟨b8, 0, none⟩ (.int .i64 ((pre.length : Int) + 1))).heap[D]? = some (.deferred (some [])) := (Below.heap_setCell W4 ⟨b8, 0, none⟩ _ D (by show D ≠ b8; omega)).trans hKD4
                have hhl : Held w.heap.size (W0.heap.size + 1 + 1) gs W W4 := Held.below hS.st.bl.size hb4
                clear c1 c2 c5 c7 c8 f2 f8 cg hgv hb4
                have c1 := hS4.st.a1.cell 0
                have c2 := hS4.st.a2.cell 0
                have c5 := hS4.st.a5.cell 0
                have c7 := hS4.st.a7.cell 0
                have c8 := hS4.a8.cell 0
                have f2 := hS4.st.a2.frozen 0
                have f8 := hS4.a8.frozen 0
                simp only [List.getElem?_toArray, List.getElem?_cons_zero] at c1 c2 c5 c7 c8
                have hS5 := hS4.put h0 hG h8a h8b h8c h8d ((pre.length : Int) + 1)
                gi_wp2
                refine ⟨kf.trans ((KeepsOthers.setCell _ _ _).from _), hhl.trans (Held.setCell (b := b8) _ _ (by omega) (by omega) (by omega)), ?_, hKD5⟩
                rw [ePh.out]
                exact hS5
              · have h3' : ¬ (pre.length : Int) < 3 := by omega
                have hS5 := hS.put h0 hG h8a h8b h8c h8d ((pre.length : Int) + 1)
                have hKD5 : (W.setCell ⟨b8, 0, none⟩ (.int .i64 ((pre.length : Int) + 1))).heap[D]? = some (.deferred (some [])) := (Below.heap_setCell W ⟨b8, 0, none⟩ _ D (by show D ≠ b8; omega)).trans hKD
                gi_wp2_with fail
                all_goals (try (refine ⟨trivial, ?_⟩))
                all_goals (try gi_wp2)
                refine ⟨(KeepsOthers.setCell _ _ _).from _, Held.setCell (b := b8) _ _ (by omega) (by omega) (by omega), ?_, hKD5⟩
                rw [ePh.out]
                exact hS5
            · have hout : Hid _ := hne'.out he
              generalize p % 4611686018427387904 = q at *
              have he' : ((q : Int) != (P : Int)) = true := by simp; omega
              clear hne'
              by_cases h3 : pre.length < 3
              · have hgv : Hid (Calls Tryd.prog 33 #[seqB Bl, .slice (some ⟨g, 0, none⟩) N vc] W fun e w' => e = .returned (.bool true) ∧ Below W.heap.size W w') :=
                  told_calls L Bl gs _ _ _ W hS.st.tb (Nat.lt_of_lt_of_le h0 hS.st.bl.size) (Nat.le_of_lt hS.st.a5.lt) hS.st.sq hS.st.ls
                gi_wp2_with fail
                refine ⟨trivial, ?_⟩
                refine (CallsIn.inRound l (callsIn_wide.2 hgv.out)).mono ?_
                rintro e W4 ⟨rfl, hb4⟩
                have hS4 := hS.kept h0 hb4
                have cg4 := (hb4.cell (p := ⟨g, pre.length, none⟩) (cell_block cg)).trans cg
                have kf : KeepsFrom W0.heap.size W W4 := (keeps_below hb4).from _
                have hhl : Held w.heap.size (W0.heap.size + 1 + 1) gs W W4 := Held.below hS.st.bl.size hb4
                clear c1 c2 c5 c7 c8 f2 f8 cg hgv hb4
                have c1 := hS4.st.a1.cell 0
                have c2 := hS4.st.a2.cell 0
                have c5 := hS4.st.a5.cell 0
                have c7 := hS4.st.a7.cell 0
                have c8 := hS4.a8.cell 0
                have f2 := hS4.st.a2.frozen 0
                have f8 := hS4.a8.frozen 0
                simp only [List.getElem?_toArray, List.getElem?_cons_zero] at c1 c2 c5 c7 c8
                gi_wp2
                all_goals (try (exfalso; exact undef_bool (by assumption)))
                exact ⟨kf.trans ((KeepsOthers.setCell _ _ _).from _), hhl.trans (Held.setCell (b := w.heap.size + 1 + 1) _ _ (by omega) (by omega) (by omega)), rfl, hout.out⟩
              · have h3' : ¬ (pre.length : Int) < 3 := by omega
                gi_wp2_with fail
                all_goals (try (exfalso; exact undef_bool (by assumption)))
                all_goals (try (refine ⟨trivial, ?_⟩))
                all_goals (try gi_wp2)
                all_goals (try (exfalso; exact undef_bool (by assumption)))
                exact ⟨(KeepsOthers.setCell _ _ _).from _, Held.setCell (b := w.heap.size + 1 + 1) _ _ (by omega) (by omega) (by omega), rfl, hout.out⟩
          case done =>
            rintro D2 xs W hD2 hxs ⟨hS, hKD⟩ hK2
            rw [show xs.length = N by rw [hxs]; exact hN.out] at hS
            have c1 := hS.st.a1.cell 0
            have c2 := hS.st.a2.cell 0
            have c5 := hS.st.a5.cell 0
            have c7 := hS.st.a7.cell 0
            have c8 := hS.a8.cell 0
            have f2 := hS.st.a2.frozen 0
            have f8 := hS.a8.frozen 0
            simp only [List.getElem?_toArray, List.getElem?_cons_zero] at c1 c2 c5 c7 c8
            have k2 : (W.setCell ⟨w.heap.size + 1 + 1, 0, none⟩ (.bool true)).heap[D2]? = some (.deferred (some [])) := (Below.heap_setCell W ⟨w.heap.size + 1 + 1, 0, none⟩ _ D2 (by show D2 ≠ w.heap.size + 1 + 1; omega)).trans hK2
            have k1 : (W.setCell ⟨w.heap.size + 1 + 1, 0, none⟩ (.bool true)).heap[D]? = some (.deferred (some [])) := (Below.heap_setCell W ⟨w.heap.size + 1 + 1, 0, none⟩ _ D (by show D ≠ w.heap.size + 1 + 1; omega)).trans hKD
            have cr := World.cell?_setCell_same' W ⟨w.heap.size + 1 + 1, 0, none⟩ (.bool true) (by rw [c2]; rfl)
            have hBe := hS.st.bl.setCell (p := ⟨w.heap.size + 1 + 1, 0, none⟩) (by show w.heap.size ≤ w.heap.size + 1 + 1; omega) (.bool true)
            have k1' : ((W.setCell ⟨w.heap.size + 1 + 1, 0, none⟩ (.bool true)).putObj D2 (.deferred none)).heap[D]? = some (.deferred (some [])) := (World.putObj_heap_other (by omega)).trans k1
            have cr2 := cell_kept cr (grownBy_putObj' _ D2 (.deferred none)) (fun r e => by cases e; exact ⟨_, k2, rfl⟩)
            have cr3 := cell_kept cr2 (grownBy_putObj' _ D (.deferred none)) (fun r e => by cases e; exact ⟨_, k1', rfl⟩)
            have hBe2 := hBe.trans (belowK_b (w := w) (Nat.le_refl _) _ D2 _ (.deferred none) (by omega) k2 rfl rfl)
            have hBe3 := hBe2.trans (belowK_b (w := w) (Nat.le_refl _) _ D _ (.deferred none) (by omega) k1' rfl rfl)
            have eNN : ((N : Int) == (N : Int)) = true := by simp
            go_wp2
            refine ⟨by simp, .inl ⟨_, _, rfl, run_takeDeferred k2, ?_⟩⟩
            refine ⟨by simp, .inl ⟨_, _, rfl, run_takeDeferred k1', ?_⟩⟩
            refine ⟨.bool true, ?_, rfl, hBe3⟩
            simp [results, Tryd.f6, go_sem, cr3]
          case stop =>
            rintro D2 c pre W hD2 hpre ⟨-, h⟩ hK2
            exact absurd hpre h
      have hz : b8 < W7.heap.size := hS6.a8.lt
      refine (wpIn_wide (n := 4)).1 ?_
      refine range_held (n := 4) (by decide) (gf := 57) (lb := #[.pointer (some ⟨Bl, 0, none⟩)]) rfl (enters_of Tryd.func57 (by kernel_rfl) rfl)
        (seqB_held (4 - 1) (by decide) Bl gs w.heap.size (W7.heap.size + 1 + 1) L h0 W7 hS6.st.bl.size (Nat.lt_of_lt_of_le h0 hS6.st.bl.size) (Nat.le_refl _) hS6.st.tb hS6.st.sq) (Below.refl _ _) (fun _ => rfl) Held.trans (fun W r r' h => Held.turn h (by omega) (by omega) (by omega))
        (fun pre W => Hid (kk < 0 ∨ (pre.length : Int) ≤ kk) ∧ EaN w L kk (.slice vo N vc) w1.heap.size Bl gs w3.heap.size b8 ((pre.length : Nat) : Int) W)
        (fun c pre W => (c = .ret ∧ ¬ pre <+: L) ∨ (c = .exit 2 ∧ EaN w L kk (.slice vo N vc) w1.heap.size Bl gs w3.heap.size b8 kk W))
        (fun _ X Y row ⟨h1, h2⟩ hg hr => ⟨h1, h2.own h0 (by omega) hg hr⟩)
        (fun _ _ X Y row h hg hr => by rcases h with h | h; exact .inl h; exact .inr ⟨h.1, h.2.own h0 (by omega) hg hr⟩)
        ⟨by show _ ∨ _; simp; omega, hS6⟩
        (fun p => { tmps := #[bv n ao i cap, .int .i64 kk, .pointer (some ⟨w.heap.size, 0, none⟩), .pointer (some ⟨w.heap.size + 1, 0, none⟩), .pointer (some ⟨w.heap.size + 1 + 1, 0, none⟩), .pointer (some ⟨w1.heap.size, 0, none⟩), .pointer (some ⟨w2.heap.size, 0, none⟩), .pointer (some ⟨w3.heap.size, 0, none⟩), .int .i64 (i : Int), .pointer (some ⟨b8, 0, none⟩), .int .i64 ((p % 4611686018427387904 : Nat) : Int), undef, .agg #[.int .i64 n, .slice ao i cap], .slice vo N vc, .agg #[.int .i64 n, .slice ao i cap], .agg #[.int .i64 n, .slice xo i xc], .agg #[.int .i64 n, .slice xo i xc], seqB Bl, .int .i64 (i : Int), .pointer (some ⟨w2.heap.size, 1, none⟩), .slice xo i xc, .int .i64 (i : Int), .bool false, u23, u24, u25, u26, u27, u28, u29, u30, u31, u32, u33, u34, seqB Bl, .bool false, .bool false, .bool true, .bool false, .bool false, seqB Bl, .int .i64 ((p % 4611686018427387904 : Nat) : Int), undef, undef, undef, undef, undef, undef, undef, undef, undef, undef, undef, undef, undef, undef, undef, undef, undef, undef, undef, undef, undef, undef, undef, undef, undef, undef, undef, undef, undef, undef, undef, undef, undef, undef, undef, undef, undef, undef, undef, undef, undef, undef, undef, undef, undef, undef, undef, undef, undef, undef, undef, undef, undef, undef, undef, undef, undef, undef, undef, undef, undef, undef], defers := [] })
        ?assign ?body ?done ?stop
      case assign =>
        intro l p W K hK
        rw [encB]
        try dsimp only at hK
        generalize p % 4611686018427387904 = q at *
        gi_wp2
        exact hK
      case body =>
        intro l pre p W hll ⟨hk1, hS⟩ hlt
        obtain ⟨g, ca, P, hv, hg, cg, hne⟩ := list_at hS.st.ls (fun p hp => hS.st.sq.small hp) hlt
        obtain ⟨rfl, -, rfl⟩ : vo = some ⟨g, 0, none⟩ ∧ N = L.length ∧ vc = ca := by simpa using hv
        have hlen : pre.length < N := hN.out ▸ hlt
        have hne' : Hid _ := hne p
        clear hne hv
        try dsimp only
        have c1 := hS.st.a1.cell 0
        have c2 := hS.st.a2.cell 0
        have c5 := hS.st.a5.cell 0
        have c7 := hS.st.a7.cell 0
        have c8 := hS.a8.cell 0
        have f2 := hS.st.a2.frozen 0
        have f8 := hS.a8.frozen 0
        simp only [List.getElem?_toArray, List.getElem?_cons_zero] at c1 c2 c5 c7 c8
        by_cases he : p % 4611686018427387904 = P
        · subst he
          generalize p % 4611686018427387904 = q at *
          clear hne'
          by_cases hkk : (pre.length : Int) = kk
          · have hS' : EaN w L kk (.slice (some ⟨g, 0, none⟩) N vc) w1.heap.size Bl gs w3.heap.size b8 kk W := by rw [← hkk]; rw [← hkk] at hS; exact hS
            have hkk' : ((pre.length : Int) == kk) = true := by simpa using hkk
            clear hkk hk1
            gi_wp2
            exact ⟨KeepsFrom.refl _ _, Held.refl _ _ _ _, .inr ⟨rfl, hS'⟩⟩
          · have hkk' : ((pre.length : Int) == kk) = false := by simpa using hkk
            have hk2 : Hid (kk < 0 ∨ ((pre ++ [p]).length : Int) ≤ kk) := by have := hk1.out; show _ ∨ _; simp; omega
            have hS2 := hS.put h0 hG h8a h8b h8c h8d (((pre ++ [p]).length : Nat) : Int)
            have ePl : ((((pre ++ [p]).length : Nat)) : Int) = (pre.length : Int) + 1 := by simp
            rw [ePl] at hS2
            have ePh : Hid _ := ePl
            clear hk1 ePl hkk
            gi_wp2
            refine ⟨(KeepsOthers.setCell _ _ _).from _, Held.setCell (b := b8) _ _ (by omega) (by omega) (by omega), hk2, ?_⟩
            rw [ePh.out]
            exact hS2
        · have hout : Hid _ := hne'.out he
          generalize p % 4611686018427387904 = q at *
          have he' : ((q : Int) != (P : Int)) = true := by simp; omega
          clear hne'
          clear hk1
          gi_wp2
          all_goals (try (exfalso; exact undef_bool (by assumption)))
          exact ⟨(KeepsOthers.setCell _ _ _).from _, Held.setCell (b := w.heap.size + 1 + 1) _ _ (by omega) (by omega) (by omega), .inl ⟨rfl, hout.out⟩⟩
      case done =>
        rintro D xs W hD hxs ⟨hk1, hS⟩ hK
        refine rest D W N (by omega) ?_ (.inr rfl) hK
        rw [show xs.length = N by rw [hxs]; exact hN.out] at hS
        exact hS
      case stop =>
        rintro D c pre W hD hpre hX hK
        rcases hX with ⟨-, h⟩ | ⟨rfl, hS⟩
        · exact absurd hpre h
        · gi_wp2
          exact rest D W kk (by omega) hS (.inl rfl) hK

theorem bitmapEach_walk (n : Int) (ao : Option Addr) (k cap : Nat) (X : Nat → Nat) (hn : (Lit.int .i64 n).wf = true) (hk : k ≤ 1048576) (kk : Int) (_ : (Lit.int .i64 kk).wf = true) (w : World) (hT : Tab w) (h0 : 0 < w.heap.size) (hW : Wds w ao k X) :
    Calls Tryd.prog 6 #[bv n ao k cap, .int .i64 kk] w fun e w' => e = .returned (.bool true) ∧ Below w.heap.size w w' := callsIn_wide.1 (eachLaw_in n ao k cap X hn hk kk w hT h0 hW)
end Go.Proofs.YtmbkcnhkbpaagaaDoor
