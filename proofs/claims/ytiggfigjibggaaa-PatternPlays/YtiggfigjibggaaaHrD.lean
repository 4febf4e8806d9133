/-
  The document's pattern: Learn of a key that isn't there.
-/
import Derived.Test.YtiggfigjibggaaaHrC
namespace Go.Proofs.Ytiggfigjibggaaa
open Go.RowKit Go.Shelf Go.Maps

theorem row_src {w : World} {B N : Nat} {g c : Nat} {L : List Ent} (h : w.ownsRow B 25 4 (.slice (some ⟨g, 0, none⟩) N c) N ((L.map lrOf).flatMap lrL)) (hN : L.length = N) {M : List Ent} {o : Nat} (hM : ∀ j x, M[j]? = some x → L[o + j]? = some x) :
    ∀ j u, ((M.map lrOf).flatMap lrL)[j]? = some u → w.cell? ((⟨g, o * 4, none⟩ : Addr).add j) = some u := fun j u hj => by
  obtain ⟨q, k, x, rfl, h2, h3⟩ := flat_lrR_inv hj
  obtain ⟨g', c', e, -, h4⟩ := rows_at h (hM q x h2) hN
  cases e
  have h5 := h4 k u h3
  rw [Addr.add_mid, show o * 4 + (q * 4 + k) = (o + q) * 4 + k by omega]
  exact h5
set_option maxRecDepth 10000 in
set_option maxHeartbeats 8000000 in
theorem learnR_room (qb : Nat) (S : Nat → Prop) (room came : Nat) (L : List Ent) (hlen : L.length < room) (hr : room ≤ 4096) (r n : ByteArray) (hno : ∀ e ∈ L, ¬ (e.r = r ∧ e.n = n)) (p : Nat) (hp : p ≤ 9223372036854775807) (w : World) (hP : Hid (RfM w qb S room L)) :
    Calls Try.prog 37 #[ptB qb, .string r, .string n, .int .i64 (p : Int)] w fun e w' => LeR qb S room came L r n p w e w' := by
  obtain ⟨so, c, hV⟩ := hP.out.shape
  obtain ⟨N, hN⟩ : ∃ N, Hid (L.length = N) := ⟨_, rfl⟩
  rw [hN.out] at hV hlen
  have hrow := hV.2.1
  rw [hN.out] at hrow
  have hN4 : N ≤ 4096 := by omega
  have hNi : (N : Int) ≤ 4096 := by omega
  have hfd := hid (find25_calls L N hN.out hN4 _ r n (k := -1) (.inl ⟨rfl, hno⟩) w hrow)
  have hp0 : ¬ (p : Int) < 0 := by omega
  have c0 := hV.1.cell 0
  have c1 := hV.1.cell 1
  simp only [List.getElem?_toArray, List.getElem?_cons_succ, List.getElem?_cons_zero] at c0 c1
  have hr0 : (0 : Int) < (room : Int) := by omega
  have hri : (room : Int) ≤ 4096 := by omega
  have hne : ((N : Int) == (room : Int)) = false := by simp; omega
  have hV := hid hV
  have hno := hid hno
  clear hrow
  go_enter Try.func37, Try.ntmps37
  go_wp2_with fail
  refine Calls.mono hfd.out ?_
  rintro e w1 ⟨rfl, rfl⟩
  clear hfd
  go_wp2_with fail
  go_quiet (fail)
  obtain ⟨W0, hW0⟩ : ∃ W, w1.drewN nq = W := ⟨_, rfl⟩
  rw [hW0]
  have V0 : RfV W0 qb S room L (.slice so N c) := by rw [← hW0]; exact ⟨hV.out.1.drewN nq, own_onP (W' := w1.drewN nq) hV.out.2.1 (fun _ _ _ _ => rfl), hV.out.2.2⟩
  have l0 := hid (show Lap S w1 W0 by rw [← hW0]; exact Lap.of (below_drewN _ _ _))
  clear hW0 c0 c1
  obtain ⟨so', c', W2, hap, box2, l2, V3, l3⟩ := rf_appV hN.out V0 ⟨r, n, p, 1, came⟩ hN4
  have k1 := V0.1.cell 1
  have b1 := box2.cell 1
  have bf := box2.frozen 1
  simp only [List.getElem?_toArray, List.getElem?_cons_succ, List.getElem?_cons_zero] at k1 b1
  obtain ⟨X, hX⟩ : ∃ X, W0.heap.size = X := ⟨_, rfl⟩
  obtain ⟨W1, hW1⟩ : ∃ W, W0.alloc (.cells #[.string r, .string n, .int .i64 (p : Int), .int .i64 1] 25) = W := ⟨_, rfl⟩
  have hap' := hid (show ∀ ty, (Builtin.append_ #[22, 22] ty #[.slice so N c, .slice (some ⟨X, 0, none⟩) 1 1]).run Try.prog W1 = .ok (.slice so' (N + 1) c') W2 by rw [← hX, ← hW1]; exact hap)
  have hfin := hid (show LeR qb S room came L r n p w1 (.returned (.int .i64 0)) (W2.setCell ⟨qb, 1, none⟩ (.slice so' (N + 1) c')) from
    ⟨rfl, came + 1, L ++ [⟨r, n, p, 1, came⟩], hid (.inr ⟨hno.out, .inr ⟨by omega, L, .inl ⟨by rw [hN.out]; exact hlen, rfl⟩, rfl, rfl⟩⟩), hid (V3.toM.mono (fun q _ h => h.imp id (fun h => Nat.le_trans l0.out.size h))), hid (l0.out.trans l3 (fun q _ h => h))⟩)
  clear hap l2 V3 l3 V0 box2 l0 hP hV
  go_wp2_with (first | (at_builtin; refine wpList_append_runP rfl _ _ 22 rfl (.slice so N c) (.slice (some ⟨X, 0, none⟩) 1 1) (.slice so' (N + 1) c') W2 rfl rfl hap'.out ?_) | fail)
  go_ret
  exact hfin.out
theorem learnR_none (qb : Nat) (S : Nat → Prop) (came : Nat) (r n : ByteArray) (p : Nat) (hp : p ≤ 9223372036854775807) (w : World) (hP : Hid (RfM w qb S 0 [])) :
    Calls Try.prog 37 #[ptB qb, .string r, .string n, .int .i64 (p : Int)] w fun e w' => LeR qb S 0 came [] r n p w e w' := by
  obtain ⟨so, c, hV⟩ := hP.out.shape
  have hrow := hV.2.1
  have hfd := hid (find25_calls [] 0 rfl (by omega) _ r n (k := -1) (.inl ⟨rfl, fun e he => by simp at he⟩) w hrow)
  have hp0 : ¬ (p : Int) < 0 := by omega
  have c0 := hV.1.cell 0
  have c1 := hV.1.cell 1
  simp only [List.getElem?_toArray, List.getElem?_cons_succ, List.getElem?_cons_zero] at c0 c1
  have c1 : w.cell? ⟨qb, 1, none⟩ = some (.slice so 0 c) := c1
  have c0 : w.cell? ⟨qb, 0, none⟩ = some (.int .i64 0) := c0
  have hfd := hid (show Calls Try.prog 51 #[.slice so 0 c, .string r, .string n] w fun e w' => e = .returned (.int .i64 (-1)) ∧ w' = w from hfd.out)
  clear hrow hV
  go_enter Try.func37, Try.ntmps37
  go_wp2_with fail
  refine Calls.mono hfd.out ?_
  rintro e w1 ⟨rfl, rfl⟩
  clear hfd
  go_wp2
  go_ret
  exact ⟨rfl, came, [], hid (.inr ⟨fun e he => by simp at he, .inl ⟨rfl, rfl, rfl⟩⟩), hid (hP.out.mono (fun q _ h => .inl h)), hid (Lap.refl _ _)⟩
set_option maxRecDepth 10000 in
set_option maxHeartbeats 8000000 in
/-- Learn of one more where there is no room. -/
theorem learnR_full (qb : Nat) (S : Nat → Prop) (N came : Nat) (L : List Ent) (hN : Hid (L.length = N)) (h0 : 0 < N) (hN4 : N ≤ 4096) (hasc : Hid (L.Pairwise (fun x y => x.a < y.a))) (r n : ByteArray) (hno : Hid (∀ e ∈ L, ¬ (e.r = r ∧ e.n = n))) (p : Nat) (hp : p ≤ 9223372036854775807) (w : World) (hP : Hid (RfM w qb S N L)) :
    Calls Try.prog 37 #[ptB qb, .string r, .string n, .int .i64 (p : Int)] w fun e w' => LeR qb S N came L r n p w e w' := by
  obtain ⟨so, c, hV⟩ := hP.out.shape
  rw [hN.out] at hV
  have hrow := hV.2.1
  rw [hN.out] at hrow
  have hNi : (N : Int) ≤ 4096 := by omega
  have hN0 : (0 : Int) < (N : Int) := by omega
  have hfd := hid (find25_calls L N hN.out hN4 _ r n (k := -1) (.inl ⟨rfl, hno.out⟩) w hrow)
  have hp0 : ¬ (p : Int) < 0 := by omega
  have c0 := hV.1.cell 0
  have c1 := hV.1.cell 1
  simp only [List.getElem?_toArray, List.getElem?_cons_succ, List.getElem?_cons_zero] at c0 c1
  obtain ⟨g, c', e⟩ := own_someP hrow h0
  cases e
  have hcN : N ≤ c := by
    rcases hrow.2 with ⟨h1, -⟩ | ⟨g', cap, cur, h1, -, -, h2, -⟩
    · cases h1
    · cases h1
      exact h2
  have hcI : (N : Int) ≤ (c : Int) := by omega
  have hcM : (c : Int) ≤ 9223372036854775807 := by
    rcases hrow.2 with ⟨h1, -⟩ | ⟨g', cap, cur, h1, -, -, -, h2, -⟩
    · cases h1
    · cases h1
      unfold maxLen at h2
      omega
  have hgl := hid (show g < w.heap.size from (hrow.lt g rfl).2)
  have hV := hid hV
  have hrow := hid hrow
  obtain ⟨f0, hf0⟩ : ∃ x, Hid (L[0]? = some x) := ⟨L[0]'(by rw [hN.out]; exact h0), List.getElem?_eq_getElem _⟩
  go_enter Try.func37, Try.ntmps37
  go_wp2_with fail
  refine Calls.mono hfd.out ?_
  rintro e w1 ⟨rfl, rfl⟩
  clear hfd
  go_wp2_with fail
  go_quiet (fail)
  have hB0 := hid (below_drewN w1.heap.size w1 nq)
  go_wp2_with fail
  go_loopw [10, 11] (fun ll kk wr => ∃ (m k : Nat) (f : Ent), m < N ∧ k ≤ N ∧ ll = .int .i64 (m : Int) ∧ kk = .int .i64 (k : Int) ∧ Hid (L[m]? = some f) ∧ Hid (∀ j z, j < k → L[j]? = some z → ¬ z.h < f.h) ∧ Hid (∀ j z, j < m → L[j]? = some z → f.h < z.h) ∧ Hid (Below w1.heap.size w1 wr)) (fun _ kk _ => N - (intOf kk).toNat)
  case atStart => exact ⟨0, 0, f0, h0, Nat.zero_le _, rfl, rfl, hf0, hid (fun j z h => by omega), hid (fun j z h => by omega), hB0⟩
  case round =>
    clear hB0 c0 c1
    obtain ⟨m, k, f, hm, hk, rfl, rfl, hf, hge, hfst, hB⟩ := hrel
    have hmi : (m : Int) < (N : Int) := by omega
    have Vr := hid (show RfV wr qb S N L (.slice (some ⟨g, 0, none⟩) N c) from ⟨hV.out.1.keptAll hB.out, own_onP (W' := wr) hV.out.2.1 (fun q _ _ hl => hB.out.block q hl), hV.out.2.2⟩)
    have Rr := hid (own_onP (W' := wr) hrow.out (fun q _ _ hl => hB.out.block q hl))
    have c1 := Vr.out.1.cell 1
    simp only [List.getElem?_toArray, List.getElem?_cons_succ, List.getElem?_cons_zero] at c1
    by_cases hlt : k < N
    · have hlti : (k : Int) < (N : Int) := by omega
      have hk' := hid (show k + 1 ≤ N by omega)
      obtain ⟨x, hx⟩ : ∃ x, Hid (L[k]? = some x) := ⟨L[k]'(by rw [hN.out]; exact hlt), List.getElem?_eq_getElem _⟩
      obtain ⟨g', c', e, -, hrg⟩ := rows_at Rr.out hx.out hN.out
      cases e
      obtain ⟨g', c', e, -, hrf⟩ := rows_at Rr.out hf.out hN.out
      cases e
      have x3 := hrg 3 _ rfl
      have f3 := hrf 3 _ rfl
      have adk : (⟨g, 0, none⟩ : Addr).add (k * 4) = ⟨g, k * 4, none⟩ := by by_cases h : k * 4 = 0 <;> simp [Addr.add, h]
      have adm : (⟨g, 0, none⟩ : Addr).add (m * 4) = ⟨g, m * 4, none⟩ := by by_cases h : m * 4 = 0 <;> simp [Addr.add, h]
      clear hrg hrf
      by_cases hle : x.h < f.h
      · have hd : decide ((x.h : Int) < (f.h : Int)) = true := by simp; omega
        have hge2 := hid (show ∀ j z, j < k + 1 → L[j]? = some z → ¬ z.h < x.h from fun j z h h2 => by
          by_cases h3 : j = k
          · subst h3
            rw [hx.out] at h2
            cases h2
            omega
          · have := hge.out j z (by omega) h2
            omega)
        have hfst2 := hid (show ∀ j z, j < k → L[j]? = some z → x.h < z.h from fun j z h h2 => by
          have := hge.out j z h h2
          omega)
        obtain ⟨xr, xn, xp, xh, xa⟩ := x
        obtain ⟨fr, fn, fp, fh, fa⟩ := f
        dsimp only at *
        clear Vr Rr
        go_wp2_with fail
        go_quiet (fail)
        have hB2 := hid (show Below w1.heap.size w1 (wr.drewN nq) from hB.out.trans ((below_drewN _ _ _).mono hB.out.size))
        go_wp2
        go_roundw
        case rel => exact ⟨k, k + 1, _, hlt, hk'.out, rfl, by simp, hx, hge2, hfst2, hB2⟩
        case measure => simp [intOf]; have := hk'.out; omega
      · have hd : decide ((x.h : Int) < (f.h : Int)) = false := by simp; omega
        have hge2 := hid (show ∀ j z, j < k + 1 → L[j]? = some z → ¬ z.h < f.h from fun j z h h2 => by
          by_cases h3 : j = k
          · subst h3
            rw [hx.out] at h2
            cases h2
            exact hle
          · exact hge.out j z (by omega) h2)
        obtain ⟨xr, xn, xp, xh, xa⟩ := x
        obtain ⟨fr, fn, fp, fh, fa⟩ := f
        dsimp only at *
        clear Vr Rr
        go_wp2_with fail
        go_quiet (fail)
        have hB2 := hid (show Below w1.heap.size w1 (wr.drewN nq) from hB.out.trans ((below_drewN _ _ _).mono hB.out.size))
        go_wp2
        go_roundw
        case rel => exact ⟨m, k + 1, _, hm, hk'.out, rfl, by simp, hf, hge2, hfst, hB2⟩
        case measure => simp [intOf]; have := hk'.out; omega
    · obtain rfl : k = N := by omega
      have hrmd := hid (show Rmd k L (L.take m ++ L.drop (m + 1)) from .inr ⟨hN.out, L.take m, f, L.drop (m + 1), split_at hf.out, fun z hz => by
        obtain ⟨j, hj, rfl⟩ := List.mem_iff_getElem.1 hz
        have hjz := List.getElem?_eq_getElem hj
        have h1 := hge.out j _ (by rw [← hN.out]; exact hj) hjz
        intro ha
        rcases ha with ha | ⟨ha, hb⟩
        · exact h1 ha
        · by_cases hjm : j < m
          · have := hfst.out j _ hjm hjz
            omega
          · obtain ⟨hml, hfe⟩ := List.getElem?_eq_some_iff.1 hf.out
            by_cases hj2 : j = m
            · subst hj2
              rw [hfe] at hb
              omega
            · have := List.pairwise_iff_getElem.1 hasc.out m j hml hj (by omega)
              rw [hfe] at this
              omega, rfl⟩)
      have hts : (L.take m).length = m := by rw [List.length_take, hN.out]; omega
      have hds : (L.drop (m + 1)).length = k - (m + 1) := by rw [List.length_drop, hN.out]
      obtain ⟨so1, c1', w2, run1, own1, g1, -⟩ := rw_app (World.ownsRow_nil wr wr.heap.size 25 4) (L1 := []) ⟨g, 0, none⟩ m c (L.take m) hts (by
        have h := row_src Rr.out hN.out (M := L.take m) (o := 0) (fun j x h => by
          rw [Nat.zero_add]
          rw [List.getElem?_take] at h
          split at h
          · exact h
          · cases h)
        rw [Nat.zero_mul] at h
        exact h) (by omega) (Nat.le_refl _)
      rw [Nat.zero_add, List.nil_append] at own1
      rw [Nat.zero_add] at run1
      have hg2 : w2.heap[g]? = wr.heap[g]? := g1.block g (Nat.lt_of_lt_of_le hgl.out hB.out.size) (by simp [Value.ownBlock])
      have hqb2 : At w2 qb #[.int .i64 (k : Int), .slice (some ⟨g, 0, none⟩) k c] 50 := (g1.block qb Vr.out.1.lt (by simp [Value.ownBlock])).trans Vr.out.1
      have R2 : w2.ownsRow 0 25 4 (.slice (some ⟨g, 0, none⟩) k c) k ((L.map lrOf).flatMap lrL) := own_onP (W' := w2) Rr.out (fun q hq _ _ => by cases hq; exact hg2)
      by_cases hcm : c = m + 1
      · subst hcm
        have hk1 : k - (m + 1) = 0 := by omega
        rw [hk1] at hds
        obtain ⟨so2, c2', w3, run2, own2, g2, -⟩ := rw_app own1 ⟨g, 0, none⟩ 0 0 (L.drop (m + 1)) hds (by rw [List.drop_eq_nil_of_le (by rw [hN.out]; omega)]; intro j u h; simp at h) (by omega) g1.size
        have hqb3 : At w3 qb #[.int .i64 (k : Int), .slice (some ⟨g, 0, none⟩) k (m + 1)] 50 := (g2.block qb hqb2.lt (fun e => by
          have := (own1.lt qb e.symm).1
          have := Vr.out.1.lt
          omega)).trans hqb2
        obtain ⟨N', hN'⟩ : ∃ N', m + 0 = N' := ⟨_, rfl⟩
        rw [hN'] at run2 own2
        have hlN : (L.take m ++ L.drop (m + 1)).length = N' := by rw [List.length_append, hts, hds, hN']
        have l3 : Lap S w1 w3 := ((Lap.of (Z := S) hB.out).grown g1 (fun q hq _ => by simp [Value.ownBlock] at hq)).grown g2 (fun q hq hl => by
          have := (own1.lt q hq).1
          have := hB.out.size
          omega)
        have V4 : RfV (w3.setCell ⟨qb, 1, none⟩ (.slice so2 N' c2')) qb (fun q => S q ∨ w1.heap.size ≤ q) k (L.take m ++ L.drop (m + 1)) (.slice so2 N' c2') :=
          ⟨by simpa using hqb3.set 1 (.slice so2 N' c2'), by rw [hlN]; exact (own_setCellP own2 hqb3 (by decide)).mono (Nat.zero_le _), .inl Vr.out.2.2.1, fun q hq => .inr (Nat.le_trans hB.out.size (own2.lt q hq).1)⟩
        have l4 : Lap S w1 (w3.setCell ⟨qb, 1, none⟩ (.slice so2 N' c2')) := l3.setCell ⟨qb, 1, none⟩ Vr.out.2.2.1 _
        have hc3 := hqb3.cell 1
        have hf3 := hqb3.frozen 1
        simp only [List.getElem?_toArray, List.getElem?_cons_succ, List.getElem?_cons_zero] at hc3
        have hc2 := hqb2.cell 1
        simp only [List.getElem?_toArray, List.getElem?_cons_succ, List.getElem?_cons_zero] at hc2
        obtain ⟨w4, hw4⟩ : ∃ W, w3.setCell ⟨qb, 1, none⟩ (.slice so2 N' c2') = W := ⟨_, rfl⟩
        rw [hw4] at V4 l4
        obtain ⟨so', cc, W6, hap, box6, l6, V7, l7⟩ := rf_appV hlN V4 ⟨r, n, p, 1, came⟩ (by omega)
        have k1 := V4.1.cell 1
        have b1 := box6.cell 1
        have bf := box6.frozen 1
        simp only [List.getElem?_toArray, List.getElem?_cons_succ, List.getElem?_cons_zero] at k1 b1
        obtain ⟨X, hX⟩ : ∃ X, w4.heap.size = X := ⟨_, rfl⟩
        obtain ⟨W5, hW5⟩ : ∃ W, w4.alloc (.cells #[.string r, .string n, .int .i64 (p : Int), .int .i64 1] 25) = W := ⟨_, rfl⟩
        have hap' := hid (show ∀ ty, (Builtin.append_ #[22, 22] ty #[.slice so2 N' c2', .slice (some ⟨X, 0, none⟩) 1 1]).run Try.prog W5 = .ok (.slice so' (N' + 1) cc) W6 by rw [← hX, ← hW5]; exact hap)
        have run1 := hid run1
        have run2 := hid run2
        have hfin := hid (show LeR qb S k came L r n p w1 (.returned (.int .i64 0)) (W6.setCell ⟨qb, 1, none⟩ (.slice so' (N' + 1) cc)) from
          ⟨rfl, came + 1, L.take m ++ L.drop (m + 1) ++ [⟨r, n, p, 1, came⟩], hid (.inr ⟨hno.out, .inr ⟨h0, _, hrmd.out, rfl, rfl⟩⟩), hid (V7.toM.mono (fun q _ h => h.elim id (fun h => .inr (Nat.le_trans l4.size h)))), hid (l4.trans l7 (fun q hq h => h.elim id (fun h => by omega)))⟩)
        have hmI : (m : Int) + 1 ≤ (k : Int) := by omega
        have hmN : m ≤ (m + 1) := by omega
        have hm1 : ((m : Int) + 1).toNat = m + 1 := by omega
        have add2 : (⟨g, 0, none⟩ : Addr).add ((m + 1) * 4) = ⟨g, (m + 1) * 4, none⟩ := by rw [Addr.add_mid, Nat.zero_add]
        clear hap V7 l7 l6 V4 l4 l3 box6 own1 own2 g1 g2 R2 hqb2 hqb3 hV hrow Vr Rr hts hds hge hfst hB hP
        go_wp2_with (first
          | (at_builtin; refine wpList_append_runP rfl _ _ 22 rfl (.slice none 0 0) (.slice (some ⟨g, 0, none⟩) m (m + 1)) (.slice so1 m c1') w2 rfl rfl run1.out ?_)
          | (at_builtin; refine wpList_append_runP rfl _ _ 22 rfl (.slice so1 m c1') (.slice (some ⟨g, 0, none⟩) 0 0) (.slice so2 N' c2') w3 rfl rfl run2.out ?_)
          | (at_builtin; refine wpList_append_runP rfl _ _ 22 rfl (.slice so2 N' c2') (.slice (some ⟨X, 0, none⟩) 1 1) (.slice so' (N' + 1) cc) W6 rfl rfl hap'.out ?_)
          | fail)
        go_ret
        exact hfin.out
      · obtain ⟨d, hd⟩ : ∃ d, c - (m + 1) = d := ⟨_, rfl⟩
        have hd0 : (d == 0) = false := by simp; omega
        have hd1 : ¬ d = 0 := by omega
        have hd2 : 0 < d := by omega
        obtain ⟨so2, c2', w3, run2, own2, g2, -⟩ := rw_app own1 ⟨g, (m + 1) * 4, none⟩ (k - (m + 1)) d (L.drop (m + 1)) hds (row_src R2 hN.out (fun j x h => by rw [List.getElem?_drop] at h; exact h)) (by omega) g1.size
        have hqb3 : At w3 qb #[.int .i64 (k : Int), .slice (some ⟨g, 0, none⟩) k c] 50 := (g2.block qb hqb2.lt (fun e => by
          have := (own1.lt qb e.symm).1
          have := Vr.out.1.lt
          omega)).trans hqb2
        obtain ⟨N', hN'⟩ : ∃ N', m + (k - (m + 1)) = N' := ⟨_, rfl⟩
        rw [hN'] at run2 own2
        have hlN : (L.take m ++ L.drop (m + 1)).length = N' := by rw [List.length_append, hts, hds, hN']
        have l3 : Lap S w1 w3 := ((Lap.of (Z := S) hB.out).grown g1 (fun q hq _ => by simp [Value.ownBlock] at hq)).grown g2 (fun q hq hl => by
          have := (own1.lt q hq).1
          have := hB.out.size
          omega)
        have V4 : RfV (w3.setCell ⟨qb, 1, none⟩ (.slice so2 N' c2')) qb (fun q => S q ∨ w1.heap.size ≤ q) k (L.take m ++ L.drop (m + 1)) (.slice so2 N' c2') :=
          ⟨by simpa using hqb3.set 1 (.slice so2 N' c2'), by rw [hlN]; exact (own_setCellP own2 hqb3 (by decide)).mono (Nat.zero_le _), .inl Vr.out.2.2.1, fun q hq => .inr (Nat.le_trans hB.out.size (own2.lt q hq).1)⟩
        have l4 : Lap S w1 (w3.setCell ⟨qb, 1, none⟩ (.slice so2 N' c2')) := l3.setCell ⟨qb, 1, none⟩ Vr.out.2.2.1 _
        have hc3 := hqb3.cell 1
        have hf3 := hqb3.frozen 1
        simp only [List.getElem?_toArray, List.getElem?_cons_succ, List.getElem?_cons_zero] at hc3
        have hc2 := hqb2.cell 1
        simp only [List.getElem?_toArray, List.getElem?_cons_succ, List.getElem?_cons_zero] at hc2
        obtain ⟨w4, hw4⟩ : ∃ W, w3.setCell ⟨qb, 1, none⟩ (.slice so2 N' c2') = W := ⟨_, rfl⟩
        rw [hw4] at V4 l4
        obtain ⟨so', cc, W6, hap, box6, l6, V7, l7⟩ := rf_appV hlN V4 ⟨r, n, p, 1, came⟩ (by omega)
        have k1 := V4.1.cell 1
        have b1 := box6.cell 1
        have bf := box6.frozen 1
        simp only [List.getElem?_toArray, List.getElem?_cons_succ, List.getElem?_cons_zero] at k1 b1
        obtain ⟨X, hX⟩ : ∃ X, w4.heap.size = X := ⟨_, rfl⟩
        obtain ⟨W5, hW5⟩ : ∃ W, w4.alloc (.cells #[.string r, .string n, .int .i64 (p : Int), .int .i64 1] 25) = W := ⟨_, rfl⟩
        have hap' := hid (show ∀ ty, (Builtin.append_ #[22, 22] ty #[.slice so2 N' c2', .slice (some ⟨X, 0, none⟩) 1 1]).run Try.prog W5 = .ok (.slice so' (N' + 1) cc) W6 by rw [← hX, ← hW5]; exact hap)
        have run1 := hid run1
        have run2 := hid run2
        have hfin := hid (show LeR qb S k came L r n p w1 (.returned (.int .i64 0)) (W6.setCell ⟨qb, 1, none⟩ (.slice so' (N' + 1) cc)) from
          ⟨rfl, came + 1, L.take m ++ L.drop (m + 1) ++ [⟨r, n, p, 1, came⟩], hid (.inr ⟨hno.out, .inr ⟨h0, _, hrmd.out, rfl, rfl⟩⟩), hid (V7.toM.mono (fun q _ h => h.elim id (fun h => .inr (Nat.le_trans l4.size h)))), hid (l4.trans l7 (fun q hq h => h.elim id (fun h => by omega)))⟩)
        have hmI : (m : Int) + 1 ≤ (k : Int) := by omega
        have hmN : m ≤ c := by omega
        have hm1 : ((m : Int) + 1).toNat = m + 1 := by omega
        have add2 : (⟨g, 0, none⟩ : Addr).add ((m + 1) * 4) = ⟨g, (m + 1) * 4, none⟩ := by rw [Addr.add_mid, Nat.zero_add]
        clear hap V7 l7 l6 V4 l4 l3 box6 own1 own2 g1 g2 R2 hqb2 hqb3 hV hrow Vr Rr hts hds hge hfst hB hP
        go_wp2_with (first
          | (at_builtin; refine wpList_append_runP rfl _ _ 22 rfl (.slice none 0 0) (.slice (some ⟨g, 0, none⟩) m c) (.slice so1 m c1') w2 rfl rfl run1.out ?_)
          | (at_builtin; refine wpList_append_runP rfl _ _ 22 rfl (.slice so1 m c1') (.slice (some ⟨g, (m + 1) * 4, none⟩) (k - (m + 1)) d) (.slice so2 N' c2') w3 rfl rfl run2.out ?_)
          | (at_builtin; refine wpList_append_runP rfl _ _ 22 rfl (.slice so2 N' c2') (.slice (some ⟨X, 0, none⟩) 1 1) (.slice so' (N' + 1) cc) W6 rfl rfl hap'.out ?_)
          | fail)
        go_ret
        exact hfin.out
end Go.Proofs.Ytiggfigjibggaaa
