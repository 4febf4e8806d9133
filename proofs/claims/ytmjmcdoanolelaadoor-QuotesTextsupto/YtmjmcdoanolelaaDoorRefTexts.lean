/-
  What quarryref07.Texts answers.
-/
import Derived.Test.YtmjmcdoanolelaaDoorRefQ
import Derived.Test.YtmjmcdoanolelaaDoorSpanMath
import Derived.Test.YtmjmcdoanolelaaDoorQuoTold
import Derived.Laws.AppendOwn
namespace Go.Proofs.YtmjmcdoanolelaaDoor
open Go.RowKit Go.Shelf

theorem infoSp : (Tryd.prog.info? 36).map (fun i => (i.zero, i.size, i.bytes)) = some (some (.agg #[.int .i64 0, .int .i64 0]), 2, 16) := by kernel_rfl
/-- A span's two cells. -/
def spc (x : Nat × Nat) : List Value := [.int .i64 (x.1 : Int), .int .i64 (x.2 : Int)]
/-- The cells of the first r spans. -/
def spl (T : List (Nat × Nat)) (r : Nat) : List Value := (T.take r).flatMap spc
theorem spl_succ {T : List (Nat × Nat)} {r A C : Nat} (h : T[r]? = some (A, C)) : spl T r ++ [.int .i64 (A : Int), .int .i64 (C : Int)] = spl T (r + 1) := by
  unfold spl
  rw [List.take_add_one, h, List.flatMap_append]
  rfl
theorem spc_get (T : List (Nat × Nat)) : ∀ (j P C : Nat), T[j]? = some (P, C) → (T.flatMap spc)[j * 2]? = some (.int .i64 (P : Int)) ∧ (T.flatMap spc)[j * 2 + 1]? = some (.int .i64 (C : Int)) := by
  induction T with
  | nil => intro j P C h; simp at h
  | cons x T ih =>
    intro j P C h
    cases j with
    | zero => simp at h; subst h; exact ⟨rfl, rfl⟩
    | succ j =>
      have := ih j P C (by simpa using h)
      rw [List.flatMap_cons, show (j + 1) * 2 = j * 2 + 2 by omega]
      exact this
/-- The list as it was made holds the spans. -/
theorem spans_list {w : World} {B N : Nat} {v : Value} {T : List (Nat × Nat)} (hN : T.length = N) (h : w.ownsRow B 36 2 v N (spl T N)) : ∃ ao cap, v = .slice ao N cap ∧ SpansAt w ao T := by
  have hall : spl T N = T.flatMap spc := by unfold spl; rw [← hN, List.take_length]
  have lt := h.lt
  rcases h.2 with ⟨rfl, e1⟩ | ⟨g, cap, cur, rfl, hb, hgb, h3⟩
  · subst e1
    exact ⟨none, 0, rfl, fun j P C hj => by rw [List.eq_nil_of_length_eq_zero hN] at hj; simp at hj⟩
  · refine ⟨_, cap, rfl, fun j P C hj => ⟨g, rfl, (lt g rfl).2, ?_, ?_⟩⟩
    · have := h.cells (g := g) rfl (j * 2) (.int .i64 (P : Int)) (by rw [hall]; exact (spc_get T j P C hj).1)
      rwa [show (⟨g, 0, none⟩ : Addr).add (j * 2) = ⟨g, j * 2, none⟩ by by_cases h : j * 2 = 0 <;> simp [Addr.add, h]] at this
    · have := h.cells (g := g) rfl (j * 2 + 1) (.int .i64 (C : Int)) (by rw [hall]; exact (spc_get T j P C hj).2)
      rwa [show (⟨g, 0, none⟩ : Addr).add (j * 2 + 1) = ⟨g, j * 2 + 1, none⟩ by simp [Addr.add]] at this
/-- Of the places below i those that open a text are gone through. -/
def TxTo (s : ByteArray) (i r : Nat) : Prop := ∃ f, SpAt s r f ∧ (∀ j, f ≤ j → j < i → markS s j = false) ∧ ∀ j, i ≤ j → j < f → (markS s j && inS s j) = false
theorem txTo_zero (s : ByteArray) : TxTo s 0 0 := ⟨0, spAt_zero s, fun j _ h => by omega, fun j _ h => by omega⟩
theorem TxTo.skip {s : ByteArray} {i r : Nat} (h : TxTo s i r) (hi : i < s.size) (hn : (markS s i && inS s i) = false) : TxTo s (i + 1) r := by
  obtain ⟨f, h1, h2, h3⟩ := h
  refine ⟨f, h1, fun j g1 g2 => ?_, fun j g1 g2 => h3 j (by omega) g2⟩
  by_cases hj : j < i
  · exact h2 j g1 hj
  · obtain rfl : j = i := by omega
    have ho : oddG (markS s) j = false := (oddG_same g1 h2).trans (h1.2.2.2 (by omega))
    cases hm : markS s j with
    | false => rfl
    | true =>
      have : inS s j = true := by rw [inS, oddG_succ, ho, hm]; rfl
      rw [hm, this] at hn
      cases hn
theorem TxTo.hit {s : ByteArray} {i r : Nat} (h : TxTo s i r) (hi : i < s.size) (hm : markS s i = true) (hin : inS s i = true) : r < (spansS s).length ∧ (spansS s)[r]? = some (i + 1, nxt (markS s) s.size (i + 1)) ∧ TxTo s (i + 1) (r + 1) := by
  obtain ⟨f, h1, h2, h3⟩ := h
  have hf : f ≤ i := by
    by_cases hf : f ≤ i
    · exact hf
    · have := h3 i (Nat.le_refl _) (by omega)
      rw [hm, hin] at this
      cases this
  have ho : nxt (markS s) s.size f = i := nxt_is hf hi hm h2
  have hs := h1.step ho hi
  refine ⟨hs.lt, hs.at_, _, hs.next, fun j g1 g2 => by have := hs.oc; omega, fun j g1 g2 => ?_⟩
  by_cases hj : j < nxt (markS s) s.size (i + 1)
  · rw [hs.within j (by omega) hj]; rfl
  · obtain rfl : j = nxt (markS s) s.size (i + 1) := by omega
    by_cases hn : nxt (markS s) s.size (i + 1) < s.size
    · rw [hs.last hn]; simp
    · rw [markS_out s _ (by omega)]; rfl
theorem TxTo.end {s : ByteArray} {r : Nat} (h : TxTo s s.size r) : r = (spansS s).length := by
  obtain ⟨f, h1, h2, h3⟩ := h
  refine (h1.end ?_).1
  by_cases hf : f ≤ s.size
  · rw [nxt_none hf h2]; omega
  · have := nxt_lo (G := markS s) (n := s.size) (f := f); omega
theorem txTo_le {s : ByteArray} {i r : Nat} (h : TxTo s i r) : r ≤ s.size + 1 := by
  obtain ⟨f, h1, -⟩ := h
  have := h1.2.1
  have := spansS_len s
  omega

set_option maxRecDepth 10000 in
set_option maxHeartbeats 4000000 in
theorem refTexts_calls (s : ByteArray) (hs : s.size ≤ 1048576) (N : Nat) (hN : Hid ((spansS s).length = N)) (w : World) :
    Calls Tryd.prog 19 #[.string s] w fun e w' => ∃ ao cap, e = .returned (.slice ao N cap) ∧ SpansAt w' ao (spansS s) ∧ Below w.heap.size w w' := by
  obtain ⟨i0, hi, hz0, hz1, hz2⟩ := info_parts infoSp
  go_enter Tryd.func19, Tryd.ntmps19
  go_wp2_with fail
  refine Calls.mono (marks7_calls s (by omega) w) ?_
  rintro e w1 ⟨g1, hg1, rfl, hA1, hb1⟩
  go_wp2_with fail
  refine Calls.mono (inside7_calls s (by omega) w1) ?_
  rintro e w2 ⟨g2, hg2, rfl, hA2, hb2⟩
  replace hA1 := hA1.keptAll hb2
  have hB2 := hid (hb1.trans (hb2.mono hb1.size))
  have l1 := hA1.lt
  have l2 := hA2.lt
  have hA1' := hid hA1
  have hA2' := hid hA2
  have hsi : (s.size : Int) ≤ 1048576 := by omega
  clear hA1 hA2 hb1 hb2 hg1 hg2
  go_wp2_with fail
  go_loopw [3, 6, 7] (fun v ii _ wr => ∃ i r : Nat, i ≤ s.size ∧ ii = .int .i64 (i : Int) ∧ Hid (TxTo s i r) ∧ wr.ownsRow w2.heap.size 36 2 v r (spl (spansS s) r) ∧ Below w2.heap.size w2 wr) (fun _ ii _ _ => s.size - (intOf ii).toNat)
  case atStart => exact ⟨0, 0, Nat.zero_le _, rfl, txTo_zero s, World.ownsRow_nil _ _ _ _, Below.refl _ _⟩
  case round =>
    obtain ⟨i, r, hiN, rfl, hto, hown, hb⟩ := hrel
    have hA1r := hA1'.out.kept hb l1
    have hA2r := hA2'.out.kept hb l2
    by_cases hlt : i < s.size
    · have hli : (i : Int) < (s.size : Int) := by omega
      have c1 := hA1r.cell i
      have c2 := hA2r.cell i
      rw [boolCells_get _ hlt] at c1 c2
      obtain ⟨m, hm⟩ : ∃ m, Hid (markS s i = m) := ⟨_, rfl⟩
      obtain ⟨y, hy⟩ : ∃ y, Hid (inS s i = y) := ⟨_, rfl⟩
      rw [hm.out] at c1
      rw [hy.out] at c2
      have hown' := hid hown
      have hskip : Hid ((m && y) = false → TxTo s (i + 1) r) := fun h => hto.out.skip hlt (by rw [hm.out, hy.out]; exact h)
      have hhit : Hid (m = true → y = true → r < (spansS s).length ∧ (spansS s)[r]? = some (i + 1, nxt (markS s) s.size (i + 1)) ∧ TxTo s (i + 1) (r + 1)) := fun h1 h2 => hto.out.hit hlt (by rw [hm.out, h1]) (by rw [hy.out, h2])
      have hrl := txTo_le hto.out
      have hA1h := hid hA1r
      clear hown hm hy hA1r hA2r hto
      cases m with
      | false =>
        have h1 := hid (hskip.out rfl)
        clear hskip hhit
        go_wp2
        go_roundw
        case rel => exact ⟨i + 1, r, by omega, by simp, h1, hown'.out, hb⟩
        case measure => simp [intOf]; omega
      | true =>
        cases y with
        | false =>
          have h1 := hid (hskip.out rfl)
          clear hskip hhit
          go_wp2
          go_roundw
          case rel => exact ⟨i + 1, r, by omega, by simp, h1, hown'.out, hb⟩
          case measure => simp [intOf]; omega
        | true =>
          obtain ⟨q1, q2, q3⟩ := hhit.out rfl rfl
          obtain ⟨C, hC⟩ : ∃ C, nxt (markS s) s.size (i + 1) = C := ⟨_, rfl⟩
          rw [hC] at q2
          have hq2 := hid q2
          have hq3 := hid q3
          have hCn : C ≤ s.size := by rw [← hC]; exact nxt_le hlt
          have hCi : i + 1 ≤ C := by rw [← hC]; exact nxt_lo
          have hgap := hid (fun k (h1 : i + 1 ≤ k) (h2 : k < C) => show markS s k = false from nxt_gap (G := markS s) (n := s.size) h1 (by rw [hC]; exact h2))
          have hhitC := hid (fun (h : C < s.size) => show markS s C = true by rw [← hC]; exact nxt_hit (by rw [hC]; exact h))
          clear hskip hhit q1 q2 q3 hC
          go_wp2_with fail
          clear c1 c2
          go_loop [7] (fun kk => ∃ k : Nat, i + 1 ≤ k ∧ k ≤ C ∧ kk = .int .i64 (k : Int)) (fun kk => s.size - (intOf kk).toNat)
          case atStart => exact ⟨i + 1, Nat.le_refl _, hCi, by simp⟩
          case round =>
            obtain ⟨k, hk1, hk2, rfl⟩ := hrel
            by_cases hkC : k < C
            · have hkn : k < s.size := by omega
              have hki : (k : Int) < (s.size : Int) := by omega
              have ck := hA1h.out.cell k
              rw [boolCells_get _ hkn, hgap.out k hk1 hkC] at ck
              go_wp2
              go_round
              case rel => exact ⟨k + 1, by omega, hkC, by simp⟩
              case measure => simp [intOf]; omega
            · obtain rfl : k = C := by omega
              have tail : ∀ (Q : Prop), Q → Q := fun _ h => h
              clear tail
              have key : Hid (∀ (v' : Value) (wz : World), wz.ownsRow w2.heap.size 36 2 v' (r + 1) (spl (spansS s) r ++ [.int .i64 ((i : Int) + 1), .int .i64 (k : Int)]) → wz.ownsRow w2.heap.size 36 2 v' (r + 1) (spl (spansS s) (r + 1))) := fun v' wz h => by
                rw [← spl_succ hq2.out]
                simpa using h
              have hbz := hb.size
              have hkl : (k : Int) ≤ 1048576 := by omega
              have hil : (i : Int) ≤ 1048576 := by omega
              by_cases hCs : k < s.size
              · have hki : (k : Int) < (s.size : Int) := by omega
                have ck := hA1h.out.cell k
                rw [boolCells_get _ hCs, hhitC.out hCs] at ck
                clear hgap hhitC hq2 hk1 hk2 hkC hCi hA1h
                go_wp2_with (first
                  | (at_builtin; refine wpList_append_own _ rfl _ _ 30 rfl w2.heap.size 36 i0 (.agg #[.int .i64 0, .int .i64 0]) 2 16 Tryd.underlying30 hi hz0 hz1 hz2 rfl (by decide) _ _ _ rfl (World.ownsRow.alloc hown'.out _) ⟨wr.heap.size, 0, none⟩ 1 1 [.int .i64 ((i : Int) + 1), .int .i64 (k : Int)] rfl rfl (fun j u hj => by match j, hj with | 0, hj => (simp at hj; subst hj; simp [Addr.add]) | 1, hj => (simp at hj; subst hj; simp [Addr.add])) (fun u hu => by simp at hu; rcases hu with rfl | rfl <;> rfl) (by unfold maxLen; omega) (by omega) (by simp; omega) ?_)
                  | go_in)
                intro v' wn hown1 hgrow _
                have hbn := (hb.alloc hb.size (.cells #[.int .i64 ((i : Int) + 1), .int .i64 (k : Int)] 36)).grown hgrow (by simp; omega) (fun b e => by have := (hown'.out.lt b e).1; omega)
                have hown2 := hid (key.out v' wn hown1)
                clear hgrow hown1 key hown'
                go_wp2
                go_roundw
                case rel => exact ⟨i + 1, r + 1, by omega, by simp, hq3, hown2.out, hbn⟩
                case measure => simp [intOf]; omega
              · obtain rfl : k = s.size := by omega
                clear hgap hhitC hq2 hk1 hk2 hkC hCi hA1h hCs hCn
                go_wp2_with (first
                  | (at_builtin; refine wpList_append_own _ rfl _ _ 30 rfl w2.heap.size 36 i0 (.agg #[.int .i64 0, .int .i64 0]) 2 16 Tryd.underlying30 hi hz0 hz1 hz2 rfl (by decide) _ _ _ rfl (World.ownsRow.alloc hown'.out _) ⟨wr.heap.size, 0, none⟩ 1 1 [.int .i64 ((i : Int) + 1), .int .i64 (s.size : Int)] rfl rfl (fun j u hj => by match j, hj with | 0, hj => (simp at hj; subst hj; simp [Addr.add]) | 1, hj => (simp at hj; subst hj; simp [Addr.add])) (fun u hu => by simp at hu; rcases hu with rfl | rfl <;> rfl) (by unfold maxLen; omega) (by omega) (by simp; omega) ?_)
                  | go_in)
                intro v' wn hown1 hgrow _
                have hbn := (hb.alloc hb.size (.cells #[.int .i64 ((i : Int) + 1), .int .i64 (s.size : Int)] 36)).grown hgrow (by simp; omega) (fun b e => by have := (hown'.out.lt b e).1; omega)
                have hown2 := hid (key.out v' wn hown1)
                clear hgrow hown1 key hown'
                go_wp2
                go_roundw
                case rel => exact ⟨i + 1, r + 1, by omega, by simp, hq3, hown2.out, hbn⟩
                case measure => simp [intOf]; omega
    · obtain rfl : i = s.size := by omega
      have hrN := hto.out.end
      rw [hN.out] at hrN
      subst hrN
      obtain ⟨ao, cap, rfl, hSA⟩ := spans_list hN.out hown
      have hSA' := hid hSA
      clear hown hto hA1r hA2r hSA
      go_wp2
      go_ret
      exact ⟨_, _, rfl, hSA'.out, hB2.out.trans (hb.mono hB2.out.size)⟩
end Go.Proofs.YtmjmcdoanolelaaDoor
