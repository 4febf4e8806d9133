/-
  ValidParts: of a document each text of a value is a document by itself; what begins and is no value is a sign or a name.
-/
import Derived.Test.YtlckhiflhnlgpabGreatDoorVaAwk
import Derived.Test.YtlckhiflhnlgpabGreatDoorMkIndex
namespace Go.Proofs.YtlckhiflhnlgpabGreatDoor
open Go.RowKit Go.Shelf

set_option maxRecDepth 10000 in
theorem blankL_calls (c : Nat) (hc : c < 256) (w : World) : Calls Tryz.prog 10 #[.int .u8 (c : Int)] w fun e w' => e = .returned (.bool (blankN c)) ∧ w' = w := by
  by_cases h0 : c = 32 ∨ c = 9 ∨ c = 10 ∨ c = 13
  · have hz : blankN c = true := decide_eq_true h0
    rw [hz]
    rcases h0 with h | h | h | h <;> subst h <;> clear hz
    · go_enter Tryz.func10, Tryz.ntmps10
      go_wp2
      go_ret
      exact ⟨rfl, rfl⟩
    · go_enter Tryz.func10, Tryz.ntmps10
      go_wp2
      go_ret
      exact ⟨rfl, rfl⟩
    · go_enter Tryz.func10, Tryz.ntmps10
      go_wp2
      go_ret
      exact ⟨rfl, rfl⟩
    · go_enter Tryz.func10, Tryz.ntmps10
      go_wp2
      go_ret
      exact ⟨rfl, rfl⟩
  · have hz : blankN c = false := decide_eq_false h0
    rw [hz]
    have g1 : ¬ (c : Int) = 32 := by omega
    have g2 : ¬ (c : Int) = 9 := by omega
    have g3 : ¬ (c : Int) = 10 := by omega
    have g4 : ¬ (c : Int) = 13 := by omega
    clear hz h0
    go_enter Tryz.func10, Tryz.ntmps10
    go_wp2
    go_ret
    refine ⟨?_, rfl⟩
    show Ending.returned (.bool ((c : Int) == 32 || (c : Int) == 9 || (c : Int) == 10 || (c : Int) == 13)) = _
    simp [g1, g2, g3, g4]
/-- What Value answers at a place of a document. -/
theorem place_facts {s : ByteArray} {A : Nat} {E : Int} (hc : IsChk s 1024 1 A E) {i : Nat} (hi : i < s.size) :
    (∃ e : Nat, IsVal s (i : Int) (e : Int) 0 ∧ IsPart s i e ∧ begS s i = true) ∨ (IsVal s (i : Int) 0 2 ∧ (begS s i = true → IsBeg s i false)) := by
  obtain ⟨hd, -⟩ := chk_most hc
  obtain ⟨B, hB⟩ := beg_ex hd hi
  cases B with
  | true =>
    obtain ⟨n, hn⟩ := end_ex hd hi (fun h => beg_quote hd hi hB h)
    obtain ⟨e, rfl, hp⟩ := part_of hd hi hB hn
    exact .inl ⟨e, ⟨1, A, E, hc, .inr ⟨rfl, .inr ⟨i, rfl, hi, .inr ⟨hB, hn, rfl⟩⟩⟩⟩, hp, beg_index hB⟩
  | false => exact .inr ⟨⟨1, A, E, hc, .inr ⟨rfl, .inr ⟨i, rfl, hi, .inl ⟨hB, rfl, rfl⟩⟩⟩⟩, fun _ => hB⟩
theorem part_chk {s : ByteArray} {A : Nat} {E : Int} (hc : IsChk s 1024 1 A E) {i e : Nat} (h : IsPart s i e) : IsChk (s.extract i e) 1024 1 (s.extract i e).size 0 := by
  obtain ⟨hd, hm⟩ := chk_most hc
  have hb : byts (s.extract i e) = ((byts s).drop i).take (e - i) := byts_extract s i e
  have := doc_chk (t := s.extract i e) (d := 1024) (by decide) (by decide) (by rw [hb]; exact h.doc) (by rw [hb]; exact Nat.le_trans h.most hm)
  exact this
/-- How far the list of what begins has been gone through. -/
def IxP (s : ByteArray) (i n : Nat) : Prop := (∀ j p, j < n → (idxS s)[j]? = some p → p < i) ∧ (∀ j p, n ≤ j → (idxS s)[j]? = some p → i ≤ p)
theorem IxP.here {s : ByteArray} {i n : Nat} (h : IxP s i n) (hp : (idxS s)[n]? = some i) : IxP s (i + 1) (n + 1) := by
  refine ⟨fun j p hj hq => ?_, fun j p hj hq => ?_⟩
  · by_cases e : j = n
    · subst e
      rw [hp] at hq
      injection hq with hq
      omega
    · have := h.1 j p (by omega) hq
      omega
  · have := idxS_lt (i := n) (j := j) (by omega) hp hq
    omega
theorem IxP.past {s : ByteArray} {i n p : Nat} (h : IxP s i n) (hp : (idxS s)[n]? = some p) (hne : i ≠ p) : i < p ∧ begS s i = false ∧ IxP s (i + 1) n := by
  have h1 := h.2 n p (Nat.le_refl _) hp
  have hlt : i < p := by omega
  refine ⟨hlt, ?_, fun j q hj hq => ?_, fun j q hj hq => ?_⟩
  · cases hb : begS s i with
    | false => rfl
    | true =>
      exfalso
      have hps : p < s.size := (idxS_mem.1 (List.mem_of_getElem? hp)).1
      obtain ⟨m, hm⟩ := List.mem_iff_getElem?.1 (idxS_mem.2 ⟨by omega, hb⟩)
      rcases Nat.lt_trichotomy m n with g | g | g
      · have := h.1 m i g hm
        omega
      · subst g
        rw [hp] at hm
        injection hm with hm
        omega
      · have := idxS_lt (i := n) (j := m) g hp hm
        omega
  · have := h.1 j q hj hq
    omega
  · by_cases e : j = n
    · subst e
      rw [hp] at hq
      injection hq with hq
      omega
    · have := idxS_lt (i := n) (j := j) (by omega) hp hq
      omega
/-- What begins next. -/
theorem idx_nextP {s : ByteArray} {i n k q : Nat} (hi : (idxS s)[n]? = some i) (hq : (idxS s)[n + 1]? = some q) (hik : i < k) (hks : k < s.size) (hk : begS s k = true) (hno : ∀ r, i < r → r < k → begS s r = false) : q = k := by
  have h1 := idxS_lt (i := n) (j := n + 1) (by omega) hi hq
  have h2 := idxS_mem.1 (List.mem_of_getElem? hq)
  obtain ⟨m, hm⟩ := List.mem_iff_getElem?.1 (idxS_mem.2 ⟨hks, hk⟩)
  have h3 : ¬ q < k := fun h => by
    have := hno q h1 h
    rw [h2.2] at this
    cases this
  rcases Nat.lt_trichotomy m (n + 1) with g | g | g
  · by_cases e : m = n
    · subst e
      rw [hi] at hm
      injection hm with hm
      omega
    · have := idxS_lt (i := m) (j := n) (by omega) hm hi
      omega
  · subst g
    rw [hq] at hm
    injection hm
  · have := idxS_lt (i := n + 1) (j := m) g hq hm
    omega
/-- Between two rounds. -/
def VpI (s : ByteArray) (N : Nat) (w w3 : World) (i n a : Nat) (wr : World) : Prop := i ≤ s.size ∧ n ≤ N ∧ a ≤ i ∧ IxP s i n ∧ Below w3.heap.size w3 wr ∧ Below w.heap.size w wr

set_option maxRecDepth 10000 in
set_option maxHeartbeats 16000000 in
theorem validParts_walk (a0 : ByteArray) (h0 : a0.size ≤ 1048576) (w : World) (hT : Tab w) (hM : TabM w) (hw0 : 1 < w.heap.size) (h16 : Ok16 w) :
    Calls Tryz.prog 4 #[.string a0] w fun e w' => e = .returned (.bool true) ∧ Below w.heap.size w w' := by
  have h16' := hid h16
  have hT' := hid hT
  have hM' := hid hM
  have hw0' := hid hw0
  obtain ⟨C, A, E, hC⟩ := chk_ex a0 1024
  have hC' := hid hC
  have gC := hid (fun (u : World) (g : Ok16 u) => code16_calls a0 (by omega) C A E hC' u g)
  clear h16 hT hM hw0
  go_enter Tryz.func4, Tryz.ntmps4
  go_wp2_with fail
  refine Calls.mono (awake16_calls _ h16'.out) ?_
  rintro e w1 ⟨rfl, hb⟩
  have B1 := hid hb
  clear hb
  go_wp2_with fail
  refine Calls.mono (gC.out _ (h16'.out.below B1.out)) ?_
  rintro e w2 ⟨rfl, hb⟩
  have B2 := hid (B1.out.trans (hb.mono B1.out.size))
  clear hb B1 gC
  by_cases h1 : C = 1
  · subst h1
    have hsi : (a0.size : Int) ≤ 1048576 := by omega
    go_wp2_with fail
    refine Calls.mono (index8_calls a0 (by omega) _ (hT'.out.below B2.out (by have := hw0'.out; omega)) (hM'.out.below B2.out hw0'.out) (Nat.lt_of_lt_of_le hw0'.out B2.out.size)) ?_
    rintro e w3 ⟨v, rfl, hown, hb⟩
    have B3 := hid (B2.out.trans (hb.mono B2.out.size))
    have hcells : Hid (∀ (so : Option Addr) (n cp j p : Nat), v = .slice so n cp → (idxS a0)[j]? = some p → ∃ g, so = some ⟨g, 0, none⟩ ∧ g < w3.heap.size ∧ w3.cell? ⟨g, j, none⟩ = some (.int .i64 (p : Int))) := fun so n cp j p hv hp => by
      rcases hown.2 with ⟨rfl, hz⟩ | ⟨g, cap, cur, rfl, hb1, hgb, h3⟩
      · have := (List.getElem?_eq_some_iff.1 hp).1
        omega
      · injection hv with e1 e2 e3
        subst e1
        refine ⟨g, rfl, (Array.getElem?_eq_some_iff.1 hgb).1, ?_⟩
        have h := hown.cells (g := g) rfl j (.int .i64 (p : Int)) (by unfold ints; rw [List.getElem?_map, hp]; rfl)
        rwa [show (⟨g, 0, none⟩ : Addr).add j = ⟨g, j, none⟩ by by_cases h : j = 0 <;> simp [Addr.add, h]] at h
    obtain ⟨so, cp, rfl⟩ := rowI_slice8 hown
    obtain ⟨L, hL⟩ : ∃ L, Hid ((idxS a0).length = L) := ⟨_, rfl⟩
    have hLs : L ≤ 1048576 := by
      rw [← hL.out]
      unfold idxS idxTo
      exact Nat.le_trans (List.length_filter_le _ _) (by rw [List.length_range]; exact h0)
    rw [hL.out]
    have hLcp : L ≤ cp := by
      rcases hown.2 with ⟨e, hz⟩ | ⟨g, cap, cur, e, hb1, hgb, h3, -⟩
      · rw [hL.out] at hz; omega
      · injection e with e1 e2 e3
        rw [hL.out] at h3
        omega
    clear hown hb B2

    by_cases h300 : 300 < L
    · have h3i : (300 : Int) < (L : Int) := by omega
      have hLi : (L : Int) ≤ 1048576 := by omega
      go_wp2

      go_loopw [6, 7, 8, 9, 10, 11, 12] (fun nn aa ii _ _ _ _ wr => ∃ (i n a : Nat), nn = .int .i64 (n : Int) ∧ aa = .int .i64 (a : Int) ∧ ii = .int .i64 (i : Int) ∧ Hid (VpI a0 300 w w3 i n a wr)) (fun _ _ ii _ _ _ _ _ => a0.size - (intOf ii).toNat)
      case atStart => exact ⟨0, 0, 0, rfl, rfl, rfl, hid ⟨Nat.zero_le _, Nat.zero_le _, Nat.le_refl _, ⟨fun j p h _ => by omega, fun j p _ _ => Nat.zero_le _⟩, Below.refl _ _, B3.out⟩⟩
      case round =>
        obtain ⟨i, n, a, rfl, rfl, rfl, hI⟩ := hrel
        have hi1 : i ≤ a0.size := hI.out.1
        have hn1 : n ≤ 300 := hI.out.2.1
        have ha1 : a ≤ i := hI.out.2.2.1
        have hii : (i : Int) ≤ 1048576 := by omega
        have hnn : (n : Int) ≤ 1048576 := by omega
        by_cases hlt : i < a0.size
        · have hli : (i : Int) < (a0.size : Int) := by omega
          by_cases hnx : n < 300
          · have hni : (n : Int) < (300 : Int) := by omega
            obtain ⟨p, hp⟩ : ∃ p, Hid ((idxS a0)[n]? = some p) := ⟨_, List.getElem?_eq_getElem (by rw [hL.out]; omega)⟩
            obtain ⟨g, hso, hg, hc⟩ := hcells.out _ _ _ n p rfl hp.out
            subst hso
            have c0 : wr.cell? ⟨g, n, none⟩ = some (.int .i64 (p : Int)) := (hI.out.2.2.2.2.1.cell (p := ⟨g, n, none⟩) hg).trans hc
            by_cases hip : i = p
            · subst hip
              rcases place_facts hC'.out hlt with ⟨en, hv, hpt, hbg⟩ | ⟨hv, hbf⟩
              · as_aux_lemma =>
                  have hvA : (idxS a0)[n]? = some i := hp.out
                  have e1 := hpt.lt
                  have e2 := hpt.le
                  have i1 : decide ((en : Int) ≤ (i : Int)) = false := by simp; omega
                  have i1n : decide (en ≤ i) = false := by simp; omega
                  have i2 : decide ((a0.size : Int) < (en : Int)) = false := by simp; omega
                  have i2n : decide (a0.size < en) = false := by simp; omega
                  have i3 : (i : Int) ≤ (en : Int) := by omega
                  have i4 : (en : Int) ≤ (a0.size : Int) := by omega
                  obtain ⟨q, hq⟩ : ∃ q, a0.extract i en = q := ⟨_, rfl⟩
                  have hqc : IsChk q 1024 1 q.size 0 := by rw [← hq]; exact part_chk hC'.out hpt
                  have hqs : q.size ≤ 1048576 := by rw [← hq, ByteArray.size_extract]; omega
                  have gq := hid (fun (u : World) (g : Ok16 u) => code16_calls q (by omega) 1 q.size 0 (hid hqc) u g)
                  obtain ⟨x, hx⟩ : ∃ x, Hid (byteAt a0 i = x) := ⟨_, rfl⟩
                  have hxe := byteAt_eq a0 i hlt
                  rw [hx.out] at hxe
                  have hxb : blankN x = false := by rw [← hx.out]; exact hpt.first
                  have gx := hid (fun u : World => blankL_calls x (by rw [← hx.out]; exact byteAt_lt a0 i) u)
                  rw [hxb] at gx
                  obtain ⟨m, hm⟩ : ∃ m, Hid (en - 1 = m) := ⟨_, rfl⟩
                  have hmi : (en : Int) - 1 = (m : Int) := by have := hm.out; omega
                  have hml : m < a0.size := by have := hm.out; omega
                  have hmz : (m : Int) < (a0.size : Int) := by omega
                  obtain ⟨y, hy⟩ : ∃ y, Hid (byteAt a0 m = y) := ⟨_, rfl⟩
                  have hye := byteAt_eq a0 m hml
                  rw [hy.out] at hye
                  have hyb : blankN y = false := by rw [← hy.out, ← hm.out]; exact hpt.last
                  have gy := hid (fun u : World => blankL_calls y (by rw [← hy.out]; exact byteAt_lt a0 m) u)
                  rw [hyb] at gy
                  have hpt' := hid hpt
                  have hIx := hid (IxP.here hI.out.2.2.2.1 hvA)

                  have gV := hid (fun (u : World) (g : Ok16 u) => vl_calls a0 (by omega) (i : Int) (wf_nat16 i (by omega)) (en : Int) 0 (hid hv) u g)

                  clear hv hbg hpt hqc hxb hyb hqs hvA

                  go_wp2_with fail
                  refine Calls.mono (gV.out _ (h16'.out.below hI.out.2.2.2.2.2)) ?_
                  rintro e w5 ⟨rfl, hb⟩
                  have J5 := hid (hI.out.2.2.2.2.1.trans (hb.mono hI.out.2.2.2.2.1.size))
                  have B5 := hid (hI.out.2.2.2.2.2.trans (hb.mono hI.out.2.2.2.2.2.size))
                  have c5 := (hb.cell (p := ⟨g, n, none⟩) (Nat.lt_of_lt_of_le hg hI.out.2.2.2.2.1.size)).trans c0

                  clear hb c0 gV
                  go_wp2_with fail
                  refine Calls.mono (gq.out _ (h16'.out.below B5.out)) ?_
                  rintro e w6 ⟨rfl, hb⟩
                  have J6 := hid (J5.out.trans (hb.mono J5.out.size))
                  have B6 := hid (B5.out.trans (hb.mono B5.out.size))
                  clear hb c5 gq J5 B5
                  go_wp2_with fail
                  refine Calls.mono (gx.out _) ?_
                  rintro e wq ⟨rfl, hwq⟩
                  obtain rfl := hwq.symm
                  clear hwq gx
                  go_wp2_with fail
                  refine Calls.mono (gy.out _) ?_
                  rintro e wq ⟨rfl, hwq⟩
                  obtain rfl := hwq.symm
                  clear hwq gy hq hxe hye
                  go_wp2

                  go_roundw
                  case rel => exact ⟨i + 1, n + 1, a, by simp, by simp, by simp, hid ⟨by omega, by omega, by omega, hIx.out, J6.out, B6.out⟩⟩
                  case measure => simp [intOf]; omega
              · as_aux_lemma =>
                  have hvA : (idxS a0)[n]? = some i := hp.out
                  have hbg : begS a0 i = true := (idxS_mem.1 (List.mem_of_getElem? hvA)).2
                  obtain ⟨hd0, -⟩ := chk_most hC'.out
                  obtain ⟨s1, s2⟩ := index_not hd0 hlt hbg (hbf hbg)
                  obtain ⟨x, hx⟩ : ∃ x, Hid (byteAt a0 i = x) := ⟨_, rfl⟩
                  have hxe := byteAt_eq a0 i hlt
                  rw [hx.out] at hxe s1
                  have s2' := hid s2
                  have hIx := hid (IxP.here hI.out.2.2.2.1 hvA)
                  have hvA' := hid hvA

                  have gV := hid (fun (u : World) (g : Ok16 u) => vl_calls a0 (by omega) (i : Int) (wf_nat16 i (by omega)) 0 2 (hid hv) u g)

                  clear hv hbg hbf hd0 s2 hvA
                  rcases s1 with rfl | rfl | rfl | rfl | rfl
                  · as_aux_lemma =>
                      go_wp2_with fail
                      refine Calls.mono (gV.out _ (h16'.out.below hI.out.2.2.2.2.2)) ?_
                      rintro e w5 ⟨rfl, hb⟩
                      have J5 := hid (hI.out.2.2.2.2.1.trans (hb.mono hI.out.2.2.2.2.1.size))
                      have B5 := hid (hI.out.2.2.2.2.2.trans (hb.mono hI.out.2.2.2.2.2.size))
                      have c5 := (hb.cell (p := ⟨g, n, none⟩) (Nat.lt_of_lt_of_le hg hI.out.2.2.2.2.1.size)).trans c0

                      clear hb c0 gV
                      go_wp2

                      go_roundw
                      case rel => exact ⟨i + 1, n + 1, a, by simp, by simp, by simp, hid ⟨by omega, by omega, by omega, hIx.out, J5.out, B5.out⟩⟩
                      case measure => simp [intOf]; omega
                  · as_aux_lemma =>
                      go_wp2_with fail
                      refine Calls.mono (gV.out _ (h16'.out.below hI.out.2.2.2.2.2)) ?_
                      rintro e w5 ⟨rfl, hb⟩
                      have J5 := hid (hI.out.2.2.2.2.1.trans (hb.mono hI.out.2.2.2.2.1.size))
                      have B5 := hid (hI.out.2.2.2.2.2.trans (hb.mono hI.out.2.2.2.2.2.size))
                      have c5 := (hb.cell (p := ⟨g, n, none⟩) (Nat.lt_of_lt_of_le hg hI.out.2.2.2.2.1.size)).trans c0

                      clear hb c0 gV
                      go_wp2

                      go_roundw
                      case rel => exact ⟨i + 1, n + 1, a, by simp, by simp, by simp, hid ⟨by omega, by omega, by omega, hIx.out, J5.out, B5.out⟩⟩
                      case measure => simp [intOf]; omega
                  · as_aux_lemma =>
                      go_wp2_with fail
                      refine Calls.mono (gV.out _ (h16'.out.below hI.out.2.2.2.2.2)) ?_
                      rintro e w5 ⟨rfl, hb⟩
                      have J5 := hid (hI.out.2.2.2.2.1.trans (hb.mono hI.out.2.2.2.2.1.size))
                      have B5 := hid (hI.out.2.2.2.2.2.trans (hb.mono hI.out.2.2.2.2.2.size))
                      have c5 := (hb.cell (p := ⟨g, n, none⟩) (Nat.lt_of_lt_of_le hg hI.out.2.2.2.2.1.size)).trans c0

                      clear hb c0 gV
                      go_wp2

                      go_roundw
                      case rel => exact ⟨i + 1, n + 1, a, by simp, by simp, by simp, hid ⟨by omega, by omega, by omega, hIx.out, J5.out, B5.out⟩⟩
                      case measure => simp [intOf]; omega
                  · as_aux_lemma =>
                      go_wp2_with fail
                      refine Calls.mono (gV.out _ (h16'.out.below hI.out.2.2.2.2.2)) ?_
                      rintro e w5 ⟨rfl, hb⟩
                      have J5 := hid (hI.out.2.2.2.2.1.trans (hb.mono hI.out.2.2.2.2.1.size))
                      have B5 := hid (hI.out.2.2.2.2.2.trans (hb.mono hI.out.2.2.2.2.2.size))
                      have c5 := (hb.cell (p := ⟨g, n, none⟩) (Nat.lt_of_lt_of_le hg hI.out.2.2.2.2.1.size)).trans c0

                      clear hb c0 gV
                      go_wp2

                      go_roundw
                      case rel => exact ⟨i + 1, n + 1, a, by simp, by simp, by simp, hid ⟨by omega, by omega, by omega, hIx.out, J5.out, B5.out⟩⟩
                      case measure => simp [intOf]; omega
                  · as_aux_lemma =>
                      by_cases hn1 : n + 1 < 300
                      · have hn1i : (n : Int) + 1 < (300 : Int) := by omega
                        obtain ⟨q, hq⟩ : ∃ q, Hid ((idxS a0)[n + 1]? = some q) := ⟨_, List.getElem?_eq_getElem (by rw [hL.out]; omega)⟩
                        obtain ⟨g2, hg2, -, hc2⟩ := hcells.out _ _ _ (n + 1) q rfl hq.out
                        injection hg2 with hg2
                        injection hg2 with hg2
                        subst hg2
                        obtain ⟨k, k1, k2, k3, k4, k5⟩ := s2'.out hx.out
                        have hqk := idx_nextP hvA'.out hq.out k1 k2 k4 k5
                        subst hqk
                        have hqi : (q : Int) < (a0.size : Int) := by omega
                        have q1 : decide ((q : Int) < 0) = false := by simp
                        have q2 : decide ((a0.size : Int) ≤ (q : Int)) = false := by simp; omega
                        have q2n : decide (a0.size ≤ q) = false := by simp; omega
                        have hqe := byteAt_eq a0 q k2
                        rw [k3] at hqe
                        have hn1t : ((n : Int) + 1).toNat = n + 1 := by omega
                        clear k4 k5 k3

                        go_wp2_with fail
                        refine Calls.mono (gV.out _ (h16'.out.below hI.out.2.2.2.2.2)) ?_
                        rintro e w5 ⟨rfl, hb⟩
                        have J5 := hid (hI.out.2.2.2.2.1.trans (hb.mono hI.out.2.2.2.2.1.size))
                        have B5 := hid (hI.out.2.2.2.2.2.trans (hb.mono hI.out.2.2.2.2.2.size))
                        have c5 := (hb.cell (p := ⟨g, n, none⟩) (Nat.lt_of_lt_of_le hg hI.out.2.2.2.2.1.size)).trans c0

                        have d5 : w5.cell? ⟨g, n + 1, none⟩ = some (.int .i64 (q : Int)) := (J5.out.cell (p := ⟨g, n + 1, none⟩) hg).trans hc2
                        clear hb c0 gV hc2
                        go_wp2

                        go_roundw
                        case rel => exact ⟨i + 1, n + 1, a, by simp, by simp, by simp, hid ⟨by omega, by omega, by omega, hIx.out, J5.out, B5.out⟩⟩
                        case measure => simp [intOf]; omega
                      · have hn1i : decide ((n : Int) + 1 < (300 : Int)) = false := by simp; omega

                        go_wp2_with fail
                        refine Calls.mono (gV.out _ (h16'.out.below hI.out.2.2.2.2.2)) ?_
                        rintro e w5 ⟨rfl, hb⟩
                        have J5 := hid (hI.out.2.2.2.2.1.trans (hb.mono hI.out.2.2.2.2.1.size))
                        have B5 := hid (hI.out.2.2.2.2.2.trans (hb.mono hI.out.2.2.2.2.2.size))
                        have c5 := (hb.cell (p := ⟨g, n, none⟩) (Nat.lt_of_lt_of_le hg hI.out.2.2.2.2.1.size)).trans c0

                        clear hb c0 gV
                        go_wp2

                        go_roundw
                        case rel => exact ⟨i + 1, n + 1, a, by simp, by simp, by simp, hid ⟨by omega, by omega, by omega, hIx.out, J5.out, B5.out⟩⟩
                        case measure => simp [intOf]; omega
            · as_aux_lemma =>
                have hieq : ((i : Int) == (p : Int)) = false := by simp; omega
                obtain ⟨hpl, hbn, hix⟩ := IxP.past hI.out.2.2.2.1 hp.out hip
                have hv : IsVal a0 (i : Int) 0 2 := by
                  rcases place_facts hC'.out hlt with ⟨en, -, -, h⟩ | ⟨h, -⟩
                  · rw [hbn] at h; cases h
                  · exact h
                have hIx := hid hix
                have hai : (a : Int) ≤ 1048576 := by omega

                have gV := hid (fun (u : World) (g : Ok16 u) => vl_calls a0 (by omega) (i : Int) (wf_nat16 i (by omega)) 0 2 (hid hv) u g)

                clear hv hbn hix hpl
                obtain ⟨K, hK⟩ : ∃ K, Hid (a0.size / 64 + 1 = K) := ⟨_, rfl⟩
                obtain ⟨R, hR⟩ : ∃ R, Hid (i % K = R) := ⟨_, rfl⟩
                have hK1 : 1 ≤ K := by have := hK.out; omega
                have hKs : K ≤ 1048577 := by have := hK.out; omega
                have hKi : ((a0.size : Int) / 64) + 1 = (K : Int) := by have := hK.out; omega
                have hRi : (i : Int) % (K : Int) = (R : Int) := by rw [← hR.out]; exact (Int.natCast_emod i K).symm
                have hRi2 : Int.tmod (i : Int) (K : Int) = (R : Int) := by rw [Int.tmod_eq_emod_of_nonneg (by omega)]; exact hRi
                have hKi2 : Int.tdiv (a0.size : Int) 64 + 1 = (K : Int) := by rw [Int.tdiv_eq_ediv_of_nonneg (by omega)]; exact hKi
                have hRs : R ≤ 1048577 := by rw [← hR.out]; exact Nat.le_trans (Nat.le_of_lt (Nat.mod_lt _ (by omega))) hKs
                have hK0 : ((K : Int) == 0) = false := by simp; omega

                by_cases ha3 : 300 < a + 1
                · have ha3i : (300 : Int) < (a : Int) + 1 := by omega
                  by_cases hR0 : R = 0
                  · subst hR0

                    go_wp2_with fail
                    refine Calls.mono (gV.out _ (h16'.out.below hI.out.2.2.2.2.2)) ?_
                    rintro e w5 ⟨rfl, hb⟩
                    have J5 := hid (hI.out.2.2.2.2.1.trans (hb.mono hI.out.2.2.2.2.1.size))
                    have B5 := hid (hI.out.2.2.2.2.2.trans (hb.mono hI.out.2.2.2.2.2.size))
                    have c5 := (hb.cell (p := ⟨g, n, none⟩) (Nat.lt_of_lt_of_le hg hI.out.2.2.2.2.1.size)).trans c0

                    clear hb c0 gV
                    go_wp2

                    go_roundw
                    case rel => exact ⟨i + 1, n, a + 1, by simp, by simp, by simp, hid ⟨by omega, by omega, by omega, hIx.out, J5.out, B5.out⟩⟩
                    case measure => simp [intOf]; omega
                  · have hRn : ((R : Int) != 0) = true := by simp; omega
                    have hRn2 : ((R : Int) == 0) = false := by simp; omega
                    clear gV
                    go_wp2

                    go_roundw
                    case rel => exact ⟨i + 1, n, a + 1, by simp, by simp, by simp, hid ⟨by omega, by omega, by omega, hIx.out, hI.out.2.2.2.2.1, hI.out.2.2.2.2.2⟩⟩
                    case measure => simp [intOf]; omega
                · have ha3i : decide ((300 : Int) < (a : Int) + 1) = false := by simp; omega

                  go_wp2_with fail
                  refine Calls.mono (gV.out _ (h16'.out.below hI.out.2.2.2.2.2)) ?_
                  rintro e w5 ⟨rfl, hb⟩
                  have J5 := hid (hI.out.2.2.2.2.1.trans (hb.mono hI.out.2.2.2.2.1.size))
                  have B5 := hid (hI.out.2.2.2.2.2.trans (hb.mono hI.out.2.2.2.2.2.size))
                  have c5 := (hb.cell (p := ⟨g, n, none⟩) (Nat.lt_of_lt_of_le hg hI.out.2.2.2.2.1.size)).trans c0

                  clear hb c0 gV
                  go_wp2

                  go_roundw
                  case rel => exact ⟨i + 1, n, a + 1, by simp, by simp, by simp, hid ⟨by omega, by omega, by omega, hIx.out, J5.out, B5.out⟩⟩
                  case measure => simp [intOf]; omega
          · have hni : decide ((n : Int) < (300 : Int)) = false := by simp; omega
            have hnin : decide (n < 300) = false := by simp; omega
            go_wp2
            go_ret
            exact ⟨rfl, hI.out.2.2.2.2.2⟩
        · have hli : decide ((i : Int) < (a0.size : Int)) = false := by simp; omega
          have hlin : decide (i < a0.size) = false := by simp; omega
          go_wp2
          go_ret
          exact ⟨rfl, hI.out.2.2.2.2.2⟩
    · have h3i : decide ((300 : Int) < (L : Int)) = false := by simp; omega
      have h3n : decide (300 < L) = false := by simp; omega
      have hLi : (L : Int) ≤ 1048576 := by omega
      go_wp2

      go_loopw [6, 7, 8, 9, 10, 11, 12] (fun nn aa ii _ _ _ _ wr => ∃ (i n a : Nat), nn = .int .i64 (n : Int) ∧ aa = .int .i64 (a : Int) ∧ ii = .int .i64 (i : Int) ∧ Hid (VpI a0 L w w3 i n a wr)) (fun _ _ ii _ _ _ _ _ => a0.size - (intOf ii).toNat)
      case atStart => exact ⟨0, 0, 0, rfl, rfl, rfl, hid ⟨Nat.zero_le _, Nat.zero_le _, Nat.le_refl _, ⟨fun j p h _ => by omega, fun j p _ _ => Nat.zero_le _⟩, Below.refl _ _, B3.out⟩⟩
      case round =>
        obtain ⟨i, n, a, rfl, rfl, rfl, hI⟩ := hrel
        have hi1 : i ≤ a0.size := hI.out.1
        have hn1 : n ≤ L := hI.out.2.1
        have ha1 : a ≤ i := hI.out.2.2.1
        have hii : (i : Int) ≤ 1048576 := by omega
        have hnn : (n : Int) ≤ 1048576 := by omega
        by_cases hlt : i < a0.size
        · have hli : (i : Int) < (a0.size : Int) := by omega
          by_cases hnx : n < L
          · have hni : (n : Int) < (L : Int) := by omega
            obtain ⟨p, hp⟩ : ∃ p, Hid ((idxS a0)[n]? = some p) := ⟨_, List.getElem?_eq_getElem (by rw [hL.out]; omega)⟩
            obtain ⟨g, hso, hg, hc⟩ := hcells.out _ _ _ n p rfl hp.out
            subst hso
            have c0 : wr.cell? ⟨g, n, none⟩ = some (.int .i64 (p : Int)) := (hI.out.2.2.2.2.1.cell (p := ⟨g, n, none⟩) hg).trans hc
            by_cases hip : i = p
            · subst hip
              rcases place_facts hC'.out hlt with ⟨en, hv, hpt, hbg⟩ | ⟨hv, hbf⟩
              · as_aux_lemma =>
                  have hvA : (idxS a0)[n]? = some i := hp.out
                  have e1 := hpt.lt
                  have e2 := hpt.le
                  have i1 : decide ((en : Int) ≤ (i : Int)) = false := by simp; omega
                  have i1n : decide (en ≤ i) = false := by simp; omega
                  have i2 : decide ((a0.size : Int) < (en : Int)) = false := by simp; omega
                  have i2n : decide (a0.size < en) = false := by simp; omega
                  have i3 : (i : Int) ≤ (en : Int) := by omega
                  have i4 : (en : Int) ≤ (a0.size : Int) := by omega
                  obtain ⟨q, hq⟩ : ∃ q, a0.extract i en = q := ⟨_, rfl⟩
                  have hqc : IsChk q 1024 1 q.size 0 := by rw [← hq]; exact part_chk hC'.out hpt
                  have hqs : q.size ≤ 1048576 := by rw [← hq, ByteArray.size_extract]; omega
                  have gq := hid (fun (u : World) (g : Ok16 u) => code16_calls q (by omega) 1 q.size 0 (hid hqc) u g)
                  obtain ⟨x, hx⟩ : ∃ x, Hid (byteAt a0 i = x) := ⟨_, rfl⟩
                  have hxe := byteAt_eq a0 i hlt
                  rw [hx.out] at hxe
                  have hxb : blankN x = false := by rw [← hx.out]; exact hpt.first
                  have gx := hid (fun u : World => blankL_calls x (by rw [← hx.out]; exact byteAt_lt a0 i) u)
                  rw [hxb] at gx
                  obtain ⟨m, hm⟩ : ∃ m, Hid (en - 1 = m) := ⟨_, rfl⟩
                  have hmi : (en : Int) - 1 = (m : Int) := by have := hm.out; omega
                  have hml : m < a0.size := by have := hm.out; omega
                  have hmz : (m : Int) < (a0.size : Int) := by omega
                  obtain ⟨y, hy⟩ : ∃ y, Hid (byteAt a0 m = y) := ⟨_, rfl⟩
                  have hye := byteAt_eq a0 m hml
                  rw [hy.out] at hye
                  have hyb : blankN y = false := by rw [← hy.out, ← hm.out]; exact hpt.last
                  have gy := hid (fun u : World => blankL_calls y (by rw [← hy.out]; exact byteAt_lt a0 m) u)
                  rw [hyb] at gy
                  have hpt' := hid hpt
                  have hIx := hid (IxP.here hI.out.2.2.2.1 hvA)

                  have gV := hid (fun (u : World) (g : Ok16 u) => vl_calls a0 (by omega) (i : Int) (wf_nat16 i (by omega)) (en : Int) 0 (hid hv) u g)

                  clear hv hbg hpt hqc hxb hyb hqs hvA

                  go_wp2_with fail
                  refine Calls.mono (gV.out _ (h16'.out.below hI.out.2.2.2.2.2)) ?_
                  rintro e w5 ⟨rfl, hb⟩
                  have J5 := hid (hI.out.2.2.2.2.1.trans (hb.mono hI.out.2.2.2.2.1.size))
                  have B5 := hid (hI.out.2.2.2.2.2.trans (hb.mono hI.out.2.2.2.2.2.size))
                  have c5 := (hb.cell (p := ⟨g, n, none⟩) (Nat.lt_of_lt_of_le hg hI.out.2.2.2.2.1.size)).trans c0

                  clear hb c0 gV
                  go_wp2_with fail
                  refine Calls.mono (gq.out _ (h16'.out.below B5.out)) ?_
                  rintro e w6 ⟨rfl, hb⟩
                  have J6 := hid (J5.out.trans (hb.mono J5.out.size))
                  have B6 := hid (B5.out.trans (hb.mono B5.out.size))
                  clear hb c5 gq J5 B5
                  go_wp2_with fail
                  refine Calls.mono (gx.out _) ?_
                  rintro e wq ⟨rfl, hwq⟩
                  obtain rfl := hwq.symm
                  clear hwq gx
                  go_wp2_with fail
                  refine Calls.mono (gy.out _) ?_
                  rintro e wq ⟨rfl, hwq⟩
                  obtain rfl := hwq.symm
                  clear hwq gy hq hxe hye
                  go_wp2

                  go_roundw
                  case rel => exact ⟨i + 1, n + 1, a, by simp, by simp, by simp, hid ⟨by omega, by omega, by omega, hIx.out, J6.out, B6.out⟩⟩
                  case measure => simp [intOf]; omega
              · as_aux_lemma =>
                  have hvA : (idxS a0)[n]? = some i := hp.out
                  have hbg : begS a0 i = true := (idxS_mem.1 (List.mem_of_getElem? hvA)).2
                  obtain ⟨hd0, -⟩ := chk_most hC'.out
                  obtain ⟨s1, s2⟩ := index_not hd0 hlt hbg (hbf hbg)
                  obtain ⟨x, hx⟩ : ∃ x, Hid (byteAt a0 i = x) := ⟨_, rfl⟩
                  have hxe := byteAt_eq a0 i hlt
                  rw [hx.out] at hxe s1
                  have s2' := hid s2
                  have hIx := hid (IxP.here hI.out.2.2.2.1 hvA)
                  have hvA' := hid hvA

                  have gV := hid (fun (u : World) (g : Ok16 u) => vl_calls a0 (by omega) (i : Int) (wf_nat16 i (by omega)) 0 2 (hid hv) u g)

                  clear hv hbg hbf hd0 s2 hvA
                  rcases s1 with rfl | rfl | rfl | rfl | rfl
                  · as_aux_lemma =>
                      go_wp2_with fail
                      refine Calls.mono (gV.out _ (h16'.out.below hI.out.2.2.2.2.2)) ?_
                      rintro e w5 ⟨rfl, hb⟩
                      have J5 := hid (hI.out.2.2.2.2.1.trans (hb.mono hI.out.2.2.2.2.1.size))
                      have B5 := hid (hI.out.2.2.2.2.2.trans (hb.mono hI.out.2.2.2.2.2.size))
                      have c5 := (hb.cell (p := ⟨g, n, none⟩) (Nat.lt_of_lt_of_le hg hI.out.2.2.2.2.1.size)).trans c0

                      clear hb c0 gV
                      go_wp2

                      go_roundw
                      case rel => exact ⟨i + 1, n + 1, a, by simp, by simp, by simp, hid ⟨by omega, by omega, by omega, hIx.out, J5.out, B5.out⟩⟩
                      case measure => simp [intOf]; omega
                  · as_aux_lemma =>
                      go_wp2_with fail
                      refine Calls.mono (gV.out _ (h16'.out.below hI.out.2.2.2.2.2)) ?_
                      rintro e w5 ⟨rfl, hb⟩
                      have J5 := hid (hI.out.2.2.2.2.1.trans (hb.mono hI.out.2.2.2.2.1.size))
                      have B5 := hid (hI.out.2.2.2.2.2.trans (hb.mono hI.out.2.2.2.2.2.size))
                      have c5 := (hb.cell (p := ⟨g, n, none⟩) (Nat.lt_of_lt_of_le hg hI.out.2.2.2.2.1.size)).trans c0

                      clear hb c0 gV
                      go_wp2

                      go_roundw
                      case rel => exact ⟨i + 1, n + 1, a, by simp, by simp, by simp, hid ⟨by omega, by omega, by omega, hIx.out, J5.out, B5.out⟩⟩
                      case measure => simp [intOf]; omega
                  · as_aux_lemma =>
                      go_wp2_with fail
                      refine Calls.mono (gV.out _ (h16'.out.below hI.out.2.2.2.2.2)) ?_
                      rintro e w5 ⟨rfl, hb⟩
                      have J5 := hid (hI.out.2.2.2.2.1.trans (hb.mono hI.out.2.2.2.2.1.size))
                      have B5 := hid (hI.out.2.2.2.2.2.trans (hb.mono hI.out.2.2.2.2.2.size))
                      have c5 := (hb.cell (p := ⟨g, n, none⟩) (Nat.lt_of_lt_of_le hg hI.out.2.2.2.2.1.size)).trans c0

                      clear hb c0 gV
                      go_wp2

                      go_roundw
                      case rel => exact ⟨i + 1, n + 1, a, by simp, by simp, by simp, hid ⟨by omega, by omega, by omega, hIx.out, J5.out, B5.out⟩⟩
                      case measure => simp [intOf]; omega
                  · as_aux_lemma =>
                      go_wp2_with fail
                      refine Calls.mono (gV.out _ (h16'.out.below hI.out.2.2.2.2.2)) ?_
                      rintro e w5 ⟨rfl, hb⟩
                      have J5 := hid (hI.out.2.2.2.2.1.trans (hb.mono hI.out.2.2.2.2.1.size))
                      have B5 := hid (hI.out.2.2.2.2.2.trans (hb.mono hI.out.2.2.2.2.2.size))
                      have c5 := (hb.cell (p := ⟨g, n, none⟩) (Nat.lt_of_lt_of_le hg hI.out.2.2.2.2.1.size)).trans c0

                      clear hb c0 gV
                      go_wp2

                      go_roundw
                      case rel => exact ⟨i + 1, n + 1, a, by simp, by simp, by simp, hid ⟨by omega, by omega, by omega, hIx.out, J5.out, B5.out⟩⟩
                      case measure => simp [intOf]; omega
                  · as_aux_lemma =>
                      by_cases hn1 : n + 1 < L
                      · have hn1i : (n : Int) + 1 < (L : Int) := by omega
                        obtain ⟨q, hq⟩ : ∃ q, Hid ((idxS a0)[n + 1]? = some q) := ⟨_, List.getElem?_eq_getElem (by rw [hL.out]; omega)⟩
                        obtain ⟨g2, hg2, -, hc2⟩ := hcells.out _ _ _ (n + 1) q rfl hq.out
                        injection hg2 with hg2
                        injection hg2 with hg2
                        subst hg2
                        obtain ⟨k, k1, k2, k3, k4, k5⟩ := s2'.out hx.out
                        have hqk := idx_nextP hvA'.out hq.out k1 k2 k4 k5
                        subst hqk
                        have hqi : (q : Int) < (a0.size : Int) := by omega
                        have q1 : decide ((q : Int) < 0) = false := by simp
                        have q2 : decide ((a0.size : Int) ≤ (q : Int)) = false := by simp; omega
                        have q2n : decide (a0.size ≤ q) = false := by simp; omega
                        have hqe := byteAt_eq a0 q k2
                        rw [k3] at hqe
                        have hn1t : ((n : Int) + 1).toNat = n + 1 := by omega
                        clear k4 k5 k3

                        go_wp2_with fail
                        refine Calls.mono (gV.out _ (h16'.out.below hI.out.2.2.2.2.2)) ?_
                        rintro e w5 ⟨rfl, hb⟩
                        have J5 := hid (hI.out.2.2.2.2.1.trans (hb.mono hI.out.2.2.2.2.1.size))
                        have B5 := hid (hI.out.2.2.2.2.2.trans (hb.mono hI.out.2.2.2.2.2.size))
                        have c5 := (hb.cell (p := ⟨g, n, none⟩) (Nat.lt_of_lt_of_le hg hI.out.2.2.2.2.1.size)).trans c0

                        have d5 : w5.cell? ⟨g, n + 1, none⟩ = some (.int .i64 (q : Int)) := (J5.out.cell (p := ⟨g, n + 1, none⟩) hg).trans hc2
                        clear hb c0 gV hc2
                        go_wp2

                        go_roundw
                        case rel => exact ⟨i + 1, n + 1, a, by simp, by simp, by simp, hid ⟨by omega, by omega, by omega, hIx.out, J5.out, B5.out⟩⟩
                        case measure => simp [intOf]; omega
                      · have hn1i : decide ((n : Int) + 1 < (L : Int)) = false := by simp; omega

                        go_wp2_with fail
                        refine Calls.mono (gV.out _ (h16'.out.below hI.out.2.2.2.2.2)) ?_
                        rintro e w5 ⟨rfl, hb⟩
                        have J5 := hid (hI.out.2.2.2.2.1.trans (hb.mono hI.out.2.2.2.2.1.size))
                        have B5 := hid (hI.out.2.2.2.2.2.trans (hb.mono hI.out.2.2.2.2.2.size))
                        have c5 := (hb.cell (p := ⟨g, n, none⟩) (Nat.lt_of_lt_of_le hg hI.out.2.2.2.2.1.size)).trans c0

                        clear hb c0 gV
                        go_wp2

                        go_roundw
                        case rel => exact ⟨i + 1, n + 1, a, by simp, by simp, by simp, hid ⟨by omega, by omega, by omega, hIx.out, J5.out, B5.out⟩⟩
                        case measure => simp [intOf]; omega
            · as_aux_lemma =>
                have hieq : ((i : Int) == (p : Int)) = false := by simp; omega
                obtain ⟨hpl, hbn, hix⟩ := IxP.past hI.out.2.2.2.1 hp.out hip
                have hv : IsVal a0 (i : Int) 0 2 := by
                  rcases place_facts hC'.out hlt with ⟨en, -, -, h⟩ | ⟨h, -⟩
                  · rw [hbn] at h; cases h
                  · exact h
                have hIx := hid hix
                have hai : (a : Int) ≤ 1048576 := by omega

                have gV := hid (fun (u : World) (g : Ok16 u) => vl_calls a0 (by omega) (i : Int) (wf_nat16 i (by omega)) 0 2 (hid hv) u g)

                clear hv hbn hix hpl
                obtain ⟨K, hK⟩ : ∃ K, Hid (a0.size / 64 + 1 = K) := ⟨_, rfl⟩
                obtain ⟨R, hR⟩ : ∃ R, Hid (i % K = R) := ⟨_, rfl⟩
                have hK1 : 1 ≤ K := by have := hK.out; omega
                have hKs : K ≤ 1048577 := by have := hK.out; omega
                have hKi : ((a0.size : Int) / 64) + 1 = (K : Int) := by have := hK.out; omega
                have hRi : (i : Int) % (K : Int) = (R : Int) := by rw [← hR.out]; exact (Int.natCast_emod i K).symm
                have hRi2 : Int.tmod (i : Int) (K : Int) = (R : Int) := by rw [Int.tmod_eq_emod_of_nonneg (by omega)]; exact hRi
                have hKi2 : Int.tdiv (a0.size : Int) 64 + 1 = (K : Int) := by rw [Int.tdiv_eq_ediv_of_nonneg (by omega)]; exact hKi
                have hRs : R ≤ 1048577 := by rw [← hR.out]; exact Nat.le_trans (Nat.le_of_lt (Nat.mod_lt _ (by omega))) hKs
                have hK0 : ((K : Int) == 0) = false := by simp; omega

                by_cases ha3 : 300 < a + 1
                · have ha3i : (300 : Int) < (a : Int) + 1 := by omega
                  by_cases hR0 : R = 0
                  · subst hR0

                    go_wp2_with fail
                    refine Calls.mono (gV.out _ (h16'.out.below hI.out.2.2.2.2.2)) ?_
                    rintro e w5 ⟨rfl, hb⟩
                    have J5 := hid (hI.out.2.2.2.2.1.trans (hb.mono hI.out.2.2.2.2.1.size))
                    have B5 := hid (hI.out.2.2.2.2.2.trans (hb.mono hI.out.2.2.2.2.2.size))
                    have c5 := (hb.cell (p := ⟨g, n, none⟩) (Nat.lt_of_lt_of_le hg hI.out.2.2.2.2.1.size)).trans c0

                    clear hb c0 gV
                    go_wp2

                    go_roundw
                    case rel => exact ⟨i + 1, n, a + 1, by simp, by simp, by simp, hid ⟨by omega, by omega, by omega, hIx.out, J5.out, B5.out⟩⟩
                    case measure => simp [intOf]; omega
                  · have hRn : ((R : Int) != 0) = true := by simp; omega
                    have hRn2 : ((R : Int) == 0) = false := by simp; omega
                    clear gV
                    go_wp2

                    go_roundw
                    case rel => exact ⟨i + 1, n, a + 1, by simp, by simp, by simp, hid ⟨by omega, by omega, by omega, hIx.out, hI.out.2.2.2.2.1, hI.out.2.2.2.2.2⟩⟩
                    case measure => simp [intOf]; omega
                · have ha3i : decide ((300 : Int) < (a : Int) + 1) = false := by simp; omega

                  go_wp2_with fail
                  refine Calls.mono (gV.out _ (h16'.out.below hI.out.2.2.2.2.2)) ?_
                  rintro e w5 ⟨rfl, hb⟩
                  have J5 := hid (hI.out.2.2.2.2.1.trans (hb.mono hI.out.2.2.2.2.1.size))
                  have B5 := hid (hI.out.2.2.2.2.2.trans (hb.mono hI.out.2.2.2.2.2.size))
                  have c5 := (hb.cell (p := ⟨g, n, none⟩) (Nat.lt_of_lt_of_le hg hI.out.2.2.2.2.1.size)).trans c0

                  clear hb c0 gV
                  go_wp2

                  go_roundw
                  case rel => exact ⟨i + 1, n, a + 1, by simp, by simp, by simp, hid ⟨by omega, by omega, by omega, hIx.out, J5.out, B5.out⟩⟩
                  case measure => simp [intOf]; omega
          · have hni : decide ((n : Int) < (L : Int)) = false := by simp; omega
            have hnin : decide (n < L) = false := by simp; omega
            go_wp2
            go_ret
            exact ⟨rfl, hI.out.2.2.2.2.2⟩
        · have hli : decide ((i : Int) < (a0.size : Int)) = false := by simp; omega
          have hlin : decide (i < a0.size) = false := by simp; omega
          go_wp2
          go_ret
          exact ⟨rfl, hI.out.2.2.2.2.2⟩
  · have hne : ((C : Int) != 1) = true := by simp; omega
    have hne2 : ((C : Int) == 1) = false := by simp; omega
    have hV : Hid (IsVal a0 0 0 160) := ⟨C, A, E, hC'.out, .inl ⟨h1, rfl, rfl⟩⟩
    clear h1
    go_wp2_with fail
    refine Calls.mono (vl_calls a0 (by omega) 0 (by decide) 0 160 hV _ (h16'.out.below B2.out)) ?_
    rintro e w3 ⟨rfl, hb⟩
    have B3 := hid (B2.out.trans (hb.mono B2.out.size))
    clear hb
    go_wp2
    go_ret
    exact ⟨rfl, B3.out⟩
end Go.Proofs.YtlckhiflhnlgpabGreatDoor
