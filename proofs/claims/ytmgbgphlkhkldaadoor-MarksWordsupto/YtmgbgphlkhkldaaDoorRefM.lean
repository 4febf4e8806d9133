/-
  What quarryref08.Bytes, begins, Index and Kind answer; what quarryref00.SameInts answers.
-/
import Derived.Test.YtmgbgphlkhkldaaDoorMarkMath
import Derived.Test.YtmgbgphlkhkldaaDoorRefQ
import Derived.Test.YtmgbgphlkhkldaaDoorLstKit
namespace Go.Proofs.YtmgbgphlkhkldaaDoor
open Go.RowKit Go.Shelf

theorem infoI8 : (Tryd.prog.info? 3).map (fun i => (i.zero, i.size, i.bytes)) = some (some (.int .i64 0), 1, 8) := by kernel_rfl
/-- What the first n bytes are. -/
def kds (s : ByteArray) (n : Nat) : List Nat := (List.range n).map (kdS s)
theorem kds_succ (s : ByteArray) (n : Nat) : kds s (n + 1) = kds s n ++ [kdS s n] := by simp [kds, List.range_succ]
theorem kds_len (s : ByteArray) (n : Nat) : (kds s n).length = n := by simp [kds]
theorem kds_get {s : ByteArray} {n i : Nat} (h : i < n) : (kds s n)[i]? = some (kdS s i) := by simp [kds, h]

set_option maxRecDepth 10000 in
/-- Is the bit set? -/
theorem set8_calls {N : Nat} {G : Nat → Bool} (hN : N ≤ 1048576) (i : Nat) (hi : i < N) (B : Bool) (hB : Hid (G i = B)) (ao : Option Addr) (cap : Nat) (w : World) (hW : Wds w ao (need N) (rowOf G N)) :
    Calls Tryd.prog 48 #[.agg #[.int .i64 (N : Int), .slice ao (need N) cap], .int .i64 (i : Int)] w fun e w' => e = .returned (.bool B) ∧ Below w.heap.size w w' := by
  obtain ⟨q, hq⟩ : ∃ q, Hid (i / 64 = q) := ⟨_, rfl⟩
  obtain ⟨r, hr⟩ : ∃ r, Hid (i % 64 = r) := ⟨_, rfl⟩
  have hqk : q < need N := by have := hq.out; unfold need; omega
  obtain ⟨hx, g, off, rfl, hc⟩ := hW q hqk
  obtain ⟨x, hxe⟩ : ∃ x, Hid (rowOf G N q = x) := ⟨_, rfl⟩
  rw [hxe.out] at hx hc
  have hbit : x.testBit r = B := by
    have := rowOf_bit G N i
    rw [decide_eq_true hi, Bool.true_and, hB.out] at this
    unfold bitAt at this
    rw [hq.out, hr.out, hxe.out] at this
    exact this
  have hr64 : r < 64 := by have := hr.out; omega
  have hql : q ≤ 16384 := by have := hq.out; omega
  have hqli : (q : Int) ≤ 16384 := by omega
  have hrli : (r : Int) < 64 := by omega
  have e1 : (i : Int) / 64 = (q : Int) := by have := hq.out; omega
  have e2 : (i : Int) % 64 = (r : Int) := by have := hr.out; omega
  have e3 : ((x : Int) / 2 ^ r) = ((x / 2 ^ r : Nat) : Int) := by simp
  obtain ⟨y, hy⟩ : ∃ y, Hid (x / 2 ^ r = y) := ⟨_, rfl⟩
  have hyl : y < 18446744073709551616 := by rw [← hy.out]; exact Nat.lt_of_le_of_lt (Nat.div_le_self _ _) hx
  have e4 : bits BinOp.and IntKind.u64 (y : Int) 1 = ((y % 2 : Nat) : Int) := by
    have := u64_and_nat y 1 hyl (by decide)
    rw [Nat.and_one_is_mod] at this
    exact this
  have e5 : (((y % 2 : Nat) : Int) == 1) = B := by
    rw [← hbit, Nat.testBit_eq_decide_div_mod_eq, hy.out]
    rw [Bool.eq_iff_iff, beq_iff_eq, decide_eq_true_eq]
    omega
  rw [hy.out] at e3
  have e5' : ((y : Int) % 2 == 1) = B := by rw [← e5]; simp
  have hqi : (q : Int) < ((need N : Nat) : Int) := by omega
  have hcA := (((Below.refl w.heap.size w).alloc (Nat.le_refl _) (.cells #[.int .i64 (N : Int), .slice (some ⟨g, off, none⟩) (need N) cap] 28)).cell (p := ⟨g, off + q, none⟩) (cell_block hc)).trans hc
  clear hW hq hr hxe hbit hB hy hi hqk hc
  go_enter Tryd.func48, Tryd.ntmps48
  go_wp2
  go_ret
  exact ⟨rfl, by repeat (first | with_reducible exact Below.refl _ _ | with_reducible refine Below.setCell ?_ (by first | (simp; done) | (simp; omega)) _ | with_reducible refine below_drewN ?_ _ | with_reducible refine Below.alloc ?_ (by first | (simp; done) | (simp; omega)) _ | with_reducible refine Below.drew ?_)⟩

/-- The list of what the bytes are, as it lies. -/
def KdAt (w : World) (ao : Option Addr) (s : ByteArray) (n : Nat) : Prop := ∀ i, i < n → ∃ g, ao = some ⟨g, 0, none⟩ ∧ g < w.heap.size ∧ w.cell? ⟨g, i, none⟩ = some (.int .i64 ((kdS s i : Nat) : Int))
theorem KdAt.kept {n m : Nat} {w w' : World} {ao : Option Addr} {s : ByteArray} (h : KdAt w ao s n) (hm : w.heap.size ≤ m) (hb : Below m w w') : KdAt w' ao s n := fun i hi => by
  obtain ⟨g, h1, h2, h3⟩ := h i hi
  exact ⟨g, h1, Nat.lt_of_lt_of_le h2 hb.size, (hb.cell (p := ⟨g, i, none⟩) (by show g < m; omega)).trans h3⟩
theorem beg_kd {s : ByteArray} {i : Nat} (h : i < s.size) : begS s i = ((kdS s i == 1 || kdS s i == 3) || (kdS s i == 6 && (i == 0 || kdS s (i - 1) != 6))) := by
  have h1 := kd_str h
  have h3 := kd_opens s i
  have h6 := kd_word h
  have e1 : (kdS s i == 1) = strS s i := by rw [Bool.eq_iff_iff, beq_iff_eq]; exact h1
  have e3 : (kdS s i == 3) = (markS s i && inS s i) := by rw [Bool.eq_iff_iff, beq_iff_eq]; exact h3
  have e6 : (kdS s i == 6) = wordS s i := by rw [Bool.eq_iff_iff, beq_iff_eq]; exact h6
  unfold begS
  rw [e1, e3, e6]
  cases i with
  | zero => simp [Bool.or_assoc]
  | succ i =>
    have h6' := kd_word (s := s) (i := i) (by omega)
    have e6' : (kdS s i == 6) = wordS s i := by rw [Bool.eq_iff_iff, beq_iff_eq]; exact h6'
    have e : (kdS s i != 6) = !wordS s i := by rw [← e6']; rfl
    simp [Bool.or_assoc, e]

set_option maxRecDepth 10000 in
theorem begins8_calls (s : ByteArray) (hs : s.size ≤ 1048576) (i : Nat) (hi : i < s.size) (B : Bool) (hB : Hid (begS s i = B)) (ao : Option Addr) (cap : Nat) (w : World) (hK : KdAt w ao s s.size) :
    Calls Tryd.prog 31 #[.slice ao s.size cap, .int .i64 (i : Int)] w fun e w' => e = .returned (.bool B) ∧ w' = w := by
  have hb := beg_kd hi
  rw [hB.out] at hb
  obtain ⟨g, rfl, hg, hc⟩ := hK i hi
  have hp : Hid (i = 0 ∨ (0 < i ∧ w.cell? ⟨g, i - 1, none⟩ = some (.int .i64 ((kdS s (i - 1) : Nat) : Int)))) := by
    by_cases h0 : i = 0
    · exact .inl h0
    · obtain ⟨g', e, -, h⟩ := hK (i - 1) (by omega)
      cases e
      exact .inr ⟨by omega, h⟩
  obtain ⟨k, hk⟩ : ∃ k, Hid (kdS s i = k) := ⟨_, rfl⟩
  obtain ⟨p, hpe⟩ : ∃ p, Hid (kdS s (i - 1) = p) := ⟨_, rfl⟩
  rw [hk.out] at hb hc
  rw [hpe.out] at hb hp
  have hii : (i : Int) < (s.size : Int) := by omega
  have hsi : (s.size : Int) ≤ 1048576 := by omega
  clear hB hK hk hpe
  go_enter Tryd.func31, Tryd.ntmps31
  by_cases k1 : k = 1
  · subst k1
    obtain rfl : B = true := by rw [hb]; rfl
    clear hb hp
    go_wp2
    go_ret
    exact ⟨rfl, rfl⟩
  · have k1' : ((k : Int) == 1) = false := by simp; omega
    by_cases k3 : k = 3
    · subst k3
      obtain rfl : B = true := by rw [hb]; rfl
      clear hb hp
      go_wp2
      go_ret
      exact ⟨rfl, rfl⟩
    · have k3' : ((k : Int) == 3) = false := by simp; omega
      by_cases k6 : k = 6
      · subst k6
        rcases hp.out with rfl | ⟨h0, hcp⟩
        · obtain rfl : B = true := by rw [hb]; rfl
          clear hb hp
          go_wp2
          go_ret
          exact ⟨rfl, rfl⟩
        · obtain ⟨j, rfl⟩ : ∃ j, i = j + 1 := ⟨i - 1, by omega⟩
          simp only [Nat.add_sub_cancel] at hcp
          have ej : ((j + 1 : Nat) : Int) - 1 = (j : Int) := by omega
          have ej' : (j : Int) + 1 - 1 = (j : Int) := by omega
          have hji : (j : Int) < (s.size : Int) := by omega
          have ez : (((j + 1 : Nat) : Int) == 0) = false := by rw [beq_eq_false_iff_ne]; omega
          have ez' : ((j : Int) + 1 == 0) = false := by rw [beq_eq_false_iff_ne]; omega
          have hbB : ((p : Int) != 6) = B := by
            rw [hb]
            simp
            rw [Bool.eq_iff_iff]
            simp
            omega
          clear hb hp h0
          go_wp2
          go_ret
          exact ⟨rfl, rfl⟩
      · have k6' : ((k : Int) == 6) = false := by simp; omega
        obtain rfl : B = false := by rw [hb]; simp [k1, k3, k6]
        clear hb hp
        go_wp2
        go_ret
        exact ⟨rfl, rfl⟩

/-- One more. -/
theorem wds_kept {N : Nat} {G : Nat → Bool} {V W : World} {ao : Option Addr} (h : Wds V ao (need N) (rowOf G N)) (hb : Below V.heap.size V W) : Wds W ao (need N) (rowOf G N) := h.kept hb
set_option maxRecDepth 10000 in
set_option maxHeartbeats 8000000 in
theorem bytes8_calls (s : ByteArray) (hs : s.size ≤ 1048576) (w : World) :
    Calls Tryd.prog 30 #[.string s] w fun e w' => ∃ v, e = .returned v ∧ w'.ownsRow w.heap.size 3 1 v s.size (ints (kds s s.size)) ∧ Below w.heap.size w w' := by
  obtain ⟨i0, hi0, hz0, hz1, hz2⟩ := info_parts infoI8
  go_enter Tryd.func30, Tryd.ntmps30
  go_wp2_with fail
  refine Calls.mono (refMarks_calls s (by omega) w) ?_
  rintro e w1 ⟨v1, rfl, hr1, hb1⟩
  obtain ⟨o1, c1, rfl, hw1⟩ := wds_of_row hr1 (fun _ _ => rowOf_lt _ _ _)
  have hw1' := hid (hw1.kept ((Below.refl w1.heap.size w1).alloc (Nat.le_refl _) (.cells #[.int .i64 (s.size : Int), .slice o1 (need s.size) c1] 28)))
  have hB1 := hid (hb1.alloc hb1.size (.cells #[.int .i64 (s.size : Int), .slice o1 (need s.size) c1] 28))
  have ha1 := hid (At.new w1 #[.int .i64 (s.size : Int), .slice o1 (need s.size) c1] 28)
  clear hr1 hw1 hb1
  go_wp2_with fail
  refine Calls.mono (refInside_calls s (by omega) _) ?_
  rintro e w2 ⟨v2, rfl, hr2, hb2⟩
  obtain ⟨o2, c2, rfl, hw2⟩ := wds_of_row hr2 (fun _ _ => rowOf_lt _ _ _)
  obtain ⟨V, hV⟩ : ∃ V, w2.alloc (.cells #[.int .i64 (s.size : Int), .slice o2 (need s.size) c2] 28) = V := ⟨_, rfl⟩
  have hal : Below w2.heap.size w2 V := by rw [← hV]; exact (Below.refl _ _).alloc (Nat.le_refl _) _
  have hWm := hid ((hw1'.out.kept hb2).kept hal)
  have hWi := hid (hw2.kept hal)
  have hBV := hid ((hB1.out.trans (hb2.mono hB1.out.size)).trans (hal.mono (hB1.out.trans (hb2.mono hB1.out.size)).size))
  obtain ⟨m3, hm3e⟩ : ∃ m3, w1.heap.size = m3 := ⟨_, rfl⟩
  obtain ⟨m4, hm4e⟩ : ∃ m4, w2.heap.size = m4 := ⟨_, rfl⟩
  have hA3 : At V m3 #[.int .i64 (s.size : Int), .slice o1 (need s.size) c1] 28 := by rw [← hm3e]; exact (ha1.out.keptAll hb2).keptAll hal
  have hA4 : At V m4 #[.int .i64 (s.size : Int), .slice o2 (need s.size) c2] 28 := by rw [← hm4e, ← hV]; exact At.new w2 _ _
  have hm3 := hid (fun (W : World) (hb : Below V.heap.size V W) => show W.cell? ⟨m3, 0, none⟩ = some (.int .i64 (s.size : Int)) ∧ W.cell? ⟨m3, 1, none⟩ = some (.slice o1 (need s.size) c1) from ⟨(hA3.keptAll hb).facts.1, (hA3.keptAll hb).facts.2.1⟩)
  have hm4 := hid (fun (W : World) (hb : Below V.heap.size V W) => show W.cell? ⟨m4, 0, none⟩ = some (.int .i64 (s.size : Int)) ∧ W.cell? ⟨m4, 1, none⟩ = some (.slice o2 (need s.size) c2) from ⟨(hA4.keptAll hb).facts.1, (hA4.keptAll hb).facts.2.1⟩)
  have hsi : (s.size : Int) ≤ 1048576 := by omega
  clear hr2 hw2 hw1' hB1 ha1 hb2 hA3 hA4 hal
  go_wp2_with fail
  (try rw [hV])
  (try rw [hm3e])
  (try rw [hm4e])
  clear hV hm3e hm4e
  go_loopw [5, 6, 7] (fun v ii _ wr => ∃ i : Nat, i ≤ s.size ∧ ii = .int .i64 (i : Int) ∧ wr.ownsRow V.heap.size 3 1 v i (ints (kds s i)) ∧ Below V.heap.size V wr) (fun _ ii _ _ => s.size - (intOf ii).toNat)
  case atStart => exact ⟨0, Nat.zero_le _, rfl, World.ownsRow_nil _ _ _ _, Below.refl _ _⟩
  case round =>
    obtain ⟨i, hi, rfl, hown0, hb0⟩ := hrel
    have hown := hid hown0
    have hbW := hid hb0
    have hzW := hb0.size
    clear hown0 hb0
    by_cases hlt : i < s.size
    · have hli : (i : Int) < (s.size : Int) := by omega
      obtain ⟨x, hxe⟩ : ∃ x, s[i].toNat = x := ⟨_, rfl⟩
      have hx : Hid (byteAt s i = x) := by show _ = _; rw [← byteAt_eq s i hlt]; exact hxe
      obtain ⟨c30, c31⟩ := hm3.out _ hbW.out
      obtain ⟨c40, c41⟩ := hm4.out _ hbW.out
      obtain ⟨M, hM⟩ : ∃ M, Hid (markS s i = M) := ⟨_, rfl⟩
      obtain ⟨Y, hY⟩ : ∃ Y, Hid (inS s i = Y) := ⟨_, rfl⟩
      have hsm := hid (fun (W : World) (hb : Below V.heap.size V W) => set8_calls hs i hlt M hM o1 c1 W (hWm.out.kept hb))
      have hsi2 := hid (fun (W : World) (hb : Below V.heap.size V W) => set8_calls hs i hlt Y hY o2 c2 W (hWi.out.kept hb))
      cases M with
      | true =>
        cases Y with
        | true =>
          go_wp2_with fail
          refine Calls.mono (hsm.out _ hbW.out) ?_
          rintro e x1 ⟨rfl, hb⟩
          replace hown := hid (row_keptAll hown.out hb)
          replace hbW := hid (hbW.out.trans (hb.mono hbW.out.size))
          replace hzW : V.heap.size ≤ x1.heap.size := Nat.le_trans hzW hb.size
          clear hb c30 c31 c40 c41
          obtain ⟨c30, c31⟩ := hm3.out _ hbW.out
          obtain ⟨c40, c41⟩ := hm4.out _ hbW.out
          go_wp2_with fail
          refine Calls.mono (hsi2.out _ hbW.out) ?_
          rintro e x2 ⟨rfl, hb⟩
          replace hown := hid (row_keptAll hown.out hb)
          replace hbW := hid (hbW.out.trans (hb.mono hbW.out.size))
          replace hzW : V.heap.size ≤ x2.heap.size := Nat.le_trans hzW hb.size
          clear hb c30 c31 c40 c41
          obtain ⟨c30, c31⟩ := hm3.out _ hbW.out
          obtain ⟨c40, c41⟩ := hm4.out _ hbW.out
          have hkk : Hid (kdS s i = 3) := by
            show _ = _
            unfold kdS; rw [hM.out, hY.out]; rfl
          clear hsm hsi2 hm3 hm4 c30 c31 c40 c41 hx
          go_wp2_with (first
            | (at_builtin; refine wpList_append_own _ rfl _ _ 23 rfl V.heap.size 3 i0 (.int .i64 0) 1 8 Tryd.underlying23 hi0 hz0 hz1 hz2 rfl (by decide) _ _ _ rfl (World.ownsRow.alloc hown.out _) ⟨x2.heap.size, 0, none⟩ 1 1 [.int .i64 3] rfl rfl (fun j u hj => by match j, hj with | 0, hj => simp at hj; subst hj; simp [Addr.add]) (fun u hu => by simp at hu; subst hu; rfl) (by unfold maxLen; omega) (by omega) (by simp; omega) ?_)
            | go_in)
          intro v' wn hown1 hgrow _
          have hbn := (hbW.out.alloc hbW.out.size (.cells #[.int .i64 3] 3)).grown hgrow (by simp; omega) (fun b e => by have := (hown.out.lt b e).1; omega)
          have hown2 : Hid (wn.ownsRow V.heap.size 3 1 v' (i + 1) (ints (kds s (i + 1)))) := by
            show World.ownsRow _ _ _ _ _ _ _
            rw [kds_succ, ints_snoc, hkk.out]
            exact hown1
          clear hgrow hown1 hown
          go_wp2
          go_roundw
          case rel => exact ⟨i + 1, by omega, by simp, hown2.out, hbn⟩
          case measure => simp [intOf]; omega

        | false =>
          go_wp2_with fail
          refine Calls.mono (hsm.out _ hbW.out) ?_
          rintro e x1 ⟨rfl, hb⟩
          replace hown := hid (row_keptAll hown.out hb)
          replace hbW := hid (hbW.out.trans (hb.mono hbW.out.size))
          replace hzW : V.heap.size ≤ x1.heap.size := Nat.le_trans hzW hb.size
          clear hb c30 c31 c40 c41
          obtain ⟨c30, c31⟩ := hm3.out _ hbW.out
          obtain ⟨c40, c41⟩ := hm4.out _ hbW.out
          go_wp2_with fail
          refine Calls.mono (hsi2.out _ hbW.out) ?_
          rintro e x2 ⟨rfl, hb⟩
          replace hown := hid (row_keptAll hown.out hb)
          replace hbW := hid (hbW.out.trans (hb.mono hbW.out.size))
          replace hzW : V.heap.size ≤ x2.heap.size := Nat.le_trans hzW hb.size
          clear hb c30 c31 c40 c41
          obtain ⟨c30, c31⟩ := hm3.out _ hbW.out
          obtain ⟨c40, c41⟩ := hm4.out _ hbW.out
          go_wp2_with fail
          refine Calls.mono (hsm.out _ hbW.out) ?_
          rintro e x3 ⟨rfl, hb⟩
          replace hown := hid (row_keptAll hown.out hb)
          replace hbW := hid (hbW.out.trans (hb.mono hbW.out.size))
          replace hzW : V.heap.size ≤ x3.heap.size := Nat.le_trans hzW hb.size
          clear hb c30 c31 c40 c41
          obtain ⟨c30, c31⟩ := hm3.out _ hbW.out
          obtain ⟨c40, c41⟩ := hm4.out _ hbW.out
          have hkk : Hid (kdS s i = 4) := by
            show _ = _
            unfold kdS; rw [hM.out, hY.out]; rfl
          clear hsm hsi2 hm3 hm4 c30 c31 c40 c41 hx
          go_wp2_with (first
            | (at_builtin; refine wpList_append_own _ rfl _ _ 23 rfl V.heap.size 3 i0 (.int .i64 0) 1 8 Tryd.underlying23 hi0 hz0 hz1 hz2 rfl (by decide) _ _ _ rfl (World.ownsRow.alloc hown.out _) ⟨x3.heap.size, 0, none⟩ 1 1 [.int .i64 4] rfl rfl (fun j u hj => by match j, hj with | 0, hj => simp at hj; subst hj; simp [Addr.add]) (fun u hu => by simp at hu; subst hu; rfl) (by unfold maxLen; omega) (by omega) (by simp; omega) ?_)
            | go_in)
          intro v' wn hown1 hgrow _
          have hbn := (hbW.out.alloc hbW.out.size (.cells #[.int .i64 4] 3)).grown hgrow (by simp; omega) (fun b e => by have := (hown.out.lt b e).1; omega)
          have hown2 : Hid (wn.ownsRow V.heap.size 3 1 v' (i + 1) (ints (kds s (i + 1)))) := by
            show World.ownsRow _ _ _ _ _ _ _
            rw [kds_succ, ints_snoc, hkk.out]
            exact hown1
          clear hgrow hown1 hown
          go_wp2
          go_roundw
          case rel => exact ⟨i + 1, by omega, by simp, hown2.out, hbn⟩
          case measure => simp [intOf]; omega

      | false =>
        cases Y with
        | true =>
          go_wp2_with fail
          refine Calls.mono (hsm.out _ hbW.out) ?_
          rintro e x1 ⟨rfl, hb⟩
          replace hown := hid (row_keptAll hown.out hb)
          replace hbW := hid (hbW.out.trans (hb.mono hbW.out.size))
          replace hzW : V.heap.size ≤ x1.heap.size := Nat.le_trans hzW hb.size
          clear hb c30 c31 c40 c41
          obtain ⟨c30, c31⟩ := hm3.out _ hbW.out
          obtain ⟨c40, c41⟩ := hm4.out _ hbW.out
          go_wp2_with fail
          refine Calls.mono (hsm.out _ hbW.out) ?_
          rintro e x2 ⟨rfl, hb⟩
          replace hown := hid (row_keptAll hown.out hb)
          replace hbW := hid (hbW.out.trans (hb.mono hbW.out.size))
          replace hzW : V.heap.size ≤ x2.heap.size := Nat.le_trans hzW hb.size
          clear hb c30 c31 c40 c41
          obtain ⟨c30, c31⟩ := hm3.out _ hbW.out
          obtain ⟨c40, c41⟩ := hm4.out _ hbW.out
          go_wp2_with fail
          refine Calls.mono (hsi2.out _ hbW.out) ?_
          rintro e x3 ⟨rfl, hb⟩
          replace hown := hid (row_keptAll hown.out hb)
          replace hbW := hid (hbW.out.trans (hb.mono hbW.out.size))
          replace hzW : V.heap.size ≤ x3.heap.size := Nat.le_trans hzW hb.size
          clear hb c30 c31 c40 c41
          obtain ⟨c30, c31⟩ := hm3.out _ hbW.out
          obtain ⟨c40, c41⟩ := hm4.out _ hbW.out
          have hkk : Hid (kdS s i = 5) := by
            show _ = _
            unfold kdS; rw [hM.out, hY.out]; rfl
          clear hsm hsi2 hm3 hm4 c30 c31 c40 c41 hx
          go_wp2_with (first
            | (at_builtin; refine wpList_append_own _ rfl _ _ 23 rfl V.heap.size 3 i0 (.int .i64 0) 1 8 Tryd.underlying23 hi0 hz0 hz1 hz2 rfl (by decide) _ _ _ rfl (World.ownsRow.alloc hown.out _) ⟨x3.heap.size, 0, none⟩ 1 1 [.int .i64 5] rfl rfl (fun j u hj => by match j, hj with | 0, hj => simp at hj; subst hj; simp [Addr.add]) (fun u hu => by simp at hu; subst hu; rfl) (by unfold maxLen; omega) (by omega) (by simp; omega) ?_)
            | go_in)
          intro v' wn hown1 hgrow _
          have hbn := (hbW.out.alloc hbW.out.size (.cells #[.int .i64 5] 3)).grown hgrow (by simp; omega) (fun b e => by have := (hown.out.lt b e).1; omega)
          have hown2 : Hid (wn.ownsRow V.heap.size 3 1 v' (i + 1) (ints (kds s (i + 1)))) := by
            show World.ownsRow _ _ _ _ _ _ _
            rw [kds_succ, ints_snoc, hkk.out]
            exact hown1
          clear hgrow hown1 hown
          go_wp2
          go_roundw
          case rel => exact ⟨i + 1, by omega, by simp, hown2.out, hbn⟩
          case measure => simp [intOf]; omega

        | false =>
          go_wp2_with fail
          refine Calls.mono (hsm.out _ hbW.out) ?_
          rintro e x1 ⟨rfl, hb⟩
          replace hown := hid (row_keptAll hown.out hb)
          replace hbW := hid (hbW.out.trans (hb.mono hbW.out.size))
          replace hzW : V.heap.size ≤ x1.heap.size := Nat.le_trans hzW hb.size
          clear hb c30 c31 c40 c41
          obtain ⟨c30, c31⟩ := hm3.out _ hbW.out
          obtain ⟨c40, c41⟩ := hm4.out _ hbW.out
          go_wp2_with fail
          refine Calls.mono (hsm.out _ hbW.out) ?_
          rintro e x2 ⟨rfl, hb⟩
          replace hown := hid (row_keptAll hown.out hb)
          replace hbW := hid (hbW.out.trans (hb.mono hbW.out.size))
          replace hzW : V.heap.size ≤ x2.heap.size := Nat.le_trans hzW hb.size
          clear hb c30 c31 c40 c41
          obtain ⟨c30, c31⟩ := hm3.out _ hbW.out
          obtain ⟨c40, c41⟩ := hm4.out _ hbW.out
          go_wp2_with fail
          refine Calls.mono (hsi2.out _ hbW.out) ?_
          rintro e x3 ⟨rfl, hb⟩
          replace hown := hid (row_keptAll hown.out hb)
          replace hbW := hid (hbW.out.trans (hb.mono hbW.out.size))
          replace hzW : V.heap.size ≤ x3.heap.size := Nat.le_trans hzW hb.size
          clear hb c30 c31 c40 c41
          obtain ⟨c30, c31⟩ := hm3.out _ hbW.out
          obtain ⟨c40, c41⟩ := hm4.out _ hbW.out
          by_cases x123 : x = 123
          · subst x123
            have hkk : Hid (kdS s i = 1) := by
              show _ = _
              unfold kdS sgnB; rw [hM.out, hY.out, hx.out]; rfl
            clear hsm hsi2 hm3 hm4 c30 c31 c40 c41
            go_wp2_with (first
              | (at_builtin; refine wpList_append_own _ rfl _ _ 23 rfl V.heap.size 3 i0 (.int .i64 0) 1 8 Tryd.underlying23 hi0 hz0 hz1 hz2 rfl (by decide) _ _ _ rfl (World.ownsRow.alloc hown.out _) ⟨x3.heap.size, 0, none⟩ 1 1 [.int .i64 1] rfl rfl (fun j u hj => by match j, hj with | 0, hj => simp at hj; subst hj; simp [Addr.add]) (fun u hu => by simp at hu; subst hu; rfl) (by unfold maxLen; omega) (by omega) (by simp; omega) ?_)
              | go_in)
            intro v' wn hown1 hgrow _
            have hbn := (hbW.out.alloc hbW.out.size (.cells #[.int .i64 1] 3)).grown hgrow (by simp; omega) (fun b e => by have := (hown.out.lt b e).1; omega)
            have hown2 : Hid (wn.ownsRow V.heap.size 3 1 v' (i + 1) (ints (kds s (i + 1)))) := by
              show World.ownsRow _ _ _ _ _ _ _
              rw [kds_succ, ints_snoc, hkk.out]
              exact hown1
            clear hgrow hown1 hown
            go_wp2
            go_roundw
            case rel => exact ⟨i + 1, by omega, by simp, hown2.out, hbn⟩
            case measure => simp [intOf]; omega
          · have e123 : ((x : Int) == 123) = false := by simp; omega
            by_cases x125 : x = 125
            · subst x125
              have hkk : Hid (kdS s i = 1) := by
                show _ = _
                unfold kdS sgnB; rw [hM.out, hY.out, hx.out]; rfl
              clear hsm hsi2 hm3 hm4 c30 c31 c40 c41
              go_wp2_with (first
                | (at_builtin; refine wpList_append_own _ rfl _ _ 23 rfl V.heap.size 3 i0 (.int .i64 0) 1 8 Tryd.underlying23 hi0 hz0 hz1 hz2 rfl (by decide) _ _ _ rfl (World.ownsRow.alloc hown.out _) ⟨x3.heap.size, 0, none⟩ 1 1 [.int .i64 1] rfl rfl (fun j u hj => by match j, hj with | 0, hj => simp at hj; subst hj; simp [Addr.add]) (fun u hu => by simp at hu; subst hu; rfl) (by unfold maxLen; omega) (by omega) (by simp; omega) ?_)
                | go_in)
              intro v' wn hown1 hgrow _
              have hbn := (hbW.out.alloc hbW.out.size (.cells #[.int .i64 1] 3)).grown hgrow (by simp; omega) (fun b e => by have := (hown.out.lt b e).1; omega)
              have hown2 : Hid (wn.ownsRow V.heap.size 3 1 v' (i + 1) (ints (kds s (i + 1)))) := by
                show World.ownsRow _ _ _ _ _ _ _
                rw [kds_succ, ints_snoc, hkk.out]
                exact hown1
              clear hgrow hown1 hown
              go_wp2
              go_roundw
              case rel => exact ⟨i + 1, by omega, by simp, hown2.out, hbn⟩
              case measure => simp [intOf]; omega
            · have e125 : ((x : Int) == 125) = false := by simp; omega
              by_cases x91 : x = 91
              · subst x91
                have hkk : Hid (kdS s i = 1) := by
                  show _ = _
                  unfold kdS sgnB; rw [hM.out, hY.out, hx.out]; rfl
                clear hsm hsi2 hm3 hm4 c30 c31 c40 c41
                go_wp2_with (first
                  | (at_builtin; refine wpList_append_own _ rfl _ _ 23 rfl V.heap.size 3 i0 (.int .i64 0) 1 8 Tryd.underlying23 hi0 hz0 hz1 hz2 rfl (by decide) _ _ _ rfl (World.ownsRow.alloc hown.out _) ⟨x3.heap.size, 0, none⟩ 1 1 [.int .i64 1] rfl rfl (fun j u hj => by match j, hj with | 0, hj => simp at hj; subst hj; simp [Addr.add]) (fun u hu => by simp at hu; subst hu; rfl) (by unfold maxLen; omega) (by omega) (by simp; omega) ?_)
                  | go_in)
                intro v' wn hown1 hgrow _
                have hbn := (hbW.out.alloc hbW.out.size (.cells #[.int .i64 1] 3)).grown hgrow (by simp; omega) (fun b e => by have := (hown.out.lt b e).1; omega)
                have hown2 : Hid (wn.ownsRow V.heap.size 3 1 v' (i + 1) (ints (kds s (i + 1)))) := by
                  show World.ownsRow _ _ _ _ _ _ _
                  rw [kds_succ, ints_snoc, hkk.out]
                  exact hown1
                clear hgrow hown1 hown
                go_wp2
                go_roundw
                case rel => exact ⟨i + 1, by omega, by simp, hown2.out, hbn⟩
                case measure => simp [intOf]; omega
              · have e91 : ((x : Int) == 91) = false := by simp; omega
                by_cases x93 : x = 93
                · subst x93
                  have hkk : Hid (kdS s i = 1) := by
                    show _ = _
                    unfold kdS sgnB; rw [hM.out, hY.out, hx.out]; rfl
                  clear hsm hsi2 hm3 hm4 c30 c31 c40 c41
                  go_wp2_with (first
                    | (at_builtin; refine wpList_append_own _ rfl _ _ 23 rfl V.heap.size 3 i0 (.int .i64 0) 1 8 Tryd.underlying23 hi0 hz0 hz1 hz2 rfl (by decide) _ _ _ rfl (World.ownsRow.alloc hown.out _) ⟨x3.heap.size, 0, none⟩ 1 1 [.int .i64 1] rfl rfl (fun j u hj => by match j, hj with | 0, hj => simp at hj; subst hj; simp [Addr.add]) (fun u hu => by simp at hu; subst hu; rfl) (by unfold maxLen; omega) (by omega) (by simp; omega) ?_)
                    | go_in)
                  intro v' wn hown1 hgrow _
                  have hbn := (hbW.out.alloc hbW.out.size (.cells #[.int .i64 1] 3)).grown hgrow (by simp; omega) (fun b e => by have := (hown.out.lt b e).1; omega)
                  have hown2 : Hid (wn.ownsRow V.heap.size 3 1 v' (i + 1) (ints (kds s (i + 1)))) := by
                    show World.ownsRow _ _ _ _ _ _ _
                    rw [kds_succ, ints_snoc, hkk.out]
                    exact hown1
                  clear hgrow hown1 hown
                  go_wp2
                  go_roundw
                  case rel => exact ⟨i + 1, by omega, by simp, hown2.out, hbn⟩
                  case measure => simp [intOf]; omega
                · have e93 : ((x : Int) == 93) = false := by simp; omega
                  by_cases x58 : x = 58
                  · subst x58
                    have hkk : Hid (kdS s i = 1) := by
                      show _ = _
                      unfold kdS sgnB; rw [hM.out, hY.out, hx.out]; rfl
                    clear hsm hsi2 hm3 hm4 c30 c31 c40 c41
                    go_wp2_with (first
                      | (at_builtin; refine wpList_append_own _ rfl _ _ 23 rfl V.heap.size 3 i0 (.int .i64 0) 1 8 Tryd.underlying23 hi0 hz0 hz1 hz2 rfl (by decide) _ _ _ rfl (World.ownsRow.alloc hown.out _) ⟨x3.heap.size, 0, none⟩ 1 1 [.int .i64 1] rfl rfl (fun j u hj => by match j, hj with | 0, hj => simp at hj; subst hj; simp [Addr.add]) (fun u hu => by simp at hu; subst hu; rfl) (by unfold maxLen; omega) (by omega) (by simp; omega) ?_)
                      | go_in)
                    intro v' wn hown1 hgrow _
                    have hbn := (hbW.out.alloc hbW.out.size (.cells #[.int .i64 1] 3)).grown hgrow (by simp; omega) (fun b e => by have := (hown.out.lt b e).1; omega)
                    have hown2 : Hid (wn.ownsRow V.heap.size 3 1 v' (i + 1) (ints (kds s (i + 1)))) := by
                      show World.ownsRow _ _ _ _ _ _ _
                      rw [kds_succ, ints_snoc, hkk.out]
                      exact hown1
                    clear hgrow hown1 hown
                    go_wp2
                    go_roundw
                    case rel => exact ⟨i + 1, by omega, by simp, hown2.out, hbn⟩
                    case measure => simp [intOf]; omega
                  · have e58 : ((x : Int) == 58) = false := by simp; omega
                    by_cases x44 : x = 44
                    · subst x44
                      have hkk : Hid (kdS s i = 1) := by
                        show _ = _
                        unfold kdS sgnB; rw [hM.out, hY.out, hx.out]; rfl
                      clear hsm hsi2 hm3 hm4 c30 c31 c40 c41
                      go_wp2_with (first
                        | (at_builtin; refine wpList_append_own _ rfl _ _ 23 rfl V.heap.size 3 i0 (.int .i64 0) 1 8 Tryd.underlying23 hi0 hz0 hz1 hz2 rfl (by decide) _ _ _ rfl (World.ownsRow.alloc hown.out _) ⟨x3.heap.size, 0, none⟩ 1 1 [.int .i64 1] rfl rfl (fun j u hj => by match j, hj with | 0, hj => simp at hj; subst hj; simp [Addr.add]) (fun u hu => by simp at hu; subst hu; rfl) (by unfold maxLen; omega) (by omega) (by simp; omega) ?_)
                        | go_in)
                      intro v' wn hown1 hgrow _
                      have hbn := (hbW.out.alloc hbW.out.size (.cells #[.int .i64 1] 3)).grown hgrow (by simp; omega) (fun b e => by have := (hown.out.lt b e).1; omega)
                      have hown2 : Hid (wn.ownsRow V.heap.size 3 1 v' (i + 1) (ints (kds s (i + 1)))) := by
                        show World.ownsRow _ _ _ _ _ _ _
                        rw [kds_succ, ints_snoc, hkk.out]
                        exact hown1
                      clear hgrow hown1 hown
                      go_wp2
                      go_roundw
                      case rel => exact ⟨i + 1, by omega, by simp, hown2.out, hbn⟩
                      case measure => simp [intOf]; omega
                    · have e44 : ((x : Int) == 44) = false := by simp; omega
                      by_cases x32 : x = 32
                      · subst x32
                        have hkk : Hid (kdS s i = 2) := by
                          show _ = _
                          unfold kdS sgnB blkB; rw [hM.out, hY.out, hx.out]; rfl
                        clear hsm hsi2 hm3 hm4 c30 c31 c40 c41
                        go_wp2_with (first
                          | (at_builtin; refine wpList_append_own _ rfl _ _ 23 rfl V.heap.size 3 i0 (.int .i64 0) 1 8 Tryd.underlying23 hi0 hz0 hz1 hz2 rfl (by decide) _ _ _ rfl (World.ownsRow.alloc hown.out _) ⟨x3.heap.size, 0, none⟩ 1 1 [.int .i64 2] rfl rfl (fun j u hj => by match j, hj with | 0, hj => simp at hj; subst hj; simp [Addr.add]) (fun u hu => by simp at hu; subst hu; rfl) (by unfold maxLen; omega) (by omega) (by simp; omega) ?_)
                          | go_in)
                        intro v' wn hown1 hgrow _
                        have hbn := (hbW.out.alloc hbW.out.size (.cells #[.int .i64 2] 3)).grown hgrow (by simp; omega) (fun b e => by have := (hown.out.lt b e).1; omega)
                        have hown2 : Hid (wn.ownsRow V.heap.size 3 1 v' (i + 1) (ints (kds s (i + 1)))) := by
                          show World.ownsRow _ _ _ _ _ _ _
                          rw [kds_succ, ints_snoc, hkk.out]
                          exact hown1
                        clear hgrow hown1 hown
                        go_wp2
                        go_roundw
                        case rel => exact ⟨i + 1, by omega, by simp, hown2.out, hbn⟩
                        case measure => simp [intOf]; omega
                      · have e32 : ((x : Int) == 32) = false := by simp; omega
                        by_cases x9 : x = 9
                        · subst x9
                          have hkk : Hid (kdS s i = 2) := by
                            show _ = _
                            unfold kdS sgnB blkB; rw [hM.out, hY.out, hx.out]; rfl
                          clear hsm hsi2 hm3 hm4 c30 c31 c40 c41
                          go_wp2_with (first
                            | (at_builtin; refine wpList_append_own _ rfl _ _ 23 rfl V.heap.size 3 i0 (.int .i64 0) 1 8 Tryd.underlying23 hi0 hz0 hz1 hz2 rfl (by decide) _ _ _ rfl (World.ownsRow.alloc hown.out _) ⟨x3.heap.size, 0, none⟩ 1 1 [.int .i64 2] rfl rfl (fun j u hj => by match j, hj with | 0, hj => simp at hj; subst hj; simp [Addr.add]) (fun u hu => by simp at hu; subst hu; rfl) (by unfold maxLen; omega) (by omega) (by simp; omega) ?_)
                            | go_in)
                          intro v' wn hown1 hgrow _
                          have hbn := (hbW.out.alloc hbW.out.size (.cells #[.int .i64 2] 3)).grown hgrow (by simp; omega) (fun b e => by have := (hown.out.lt b e).1; omega)
                          have hown2 : Hid (wn.ownsRow V.heap.size 3 1 v' (i + 1) (ints (kds s (i + 1)))) := by
                            show World.ownsRow _ _ _ _ _ _ _
                            rw [kds_succ, ints_snoc, hkk.out]
                            exact hown1
                          clear hgrow hown1 hown
                          go_wp2
                          go_roundw
                          case rel => exact ⟨i + 1, by omega, by simp, hown2.out, hbn⟩
                          case measure => simp [intOf]; omega
                        · have e9 : ((x : Int) == 9) = false := by simp; omega
                          by_cases x10 : x = 10
                          · subst x10
                            have hkk : Hid (kdS s i = 2) := by
                              show _ = _
                              unfold kdS sgnB blkB; rw [hM.out, hY.out, hx.out]; rfl
                            clear hsm hsi2 hm3 hm4 c30 c31 c40 c41
                            go_wp2_with (first
                              | (at_builtin; refine wpList_append_own _ rfl _ _ 23 rfl V.heap.size 3 i0 (.int .i64 0) 1 8 Tryd.underlying23 hi0 hz0 hz1 hz2 rfl (by decide) _ _ _ rfl (World.ownsRow.alloc hown.out _) ⟨x3.heap.size, 0, none⟩ 1 1 [.int .i64 2] rfl rfl (fun j u hj => by match j, hj with | 0, hj => simp at hj; subst hj; simp [Addr.add]) (fun u hu => by simp at hu; subst hu; rfl) (by unfold maxLen; omega) (by omega) (by simp; omega) ?_)
                              | go_in)
                            intro v' wn hown1 hgrow _
                            have hbn := (hbW.out.alloc hbW.out.size (.cells #[.int .i64 2] 3)).grown hgrow (by simp; omega) (fun b e => by have := (hown.out.lt b e).1; omega)
                            have hown2 : Hid (wn.ownsRow V.heap.size 3 1 v' (i + 1) (ints (kds s (i + 1)))) := by
                              show World.ownsRow _ _ _ _ _ _ _
                              rw [kds_succ, ints_snoc, hkk.out]
                              exact hown1
                            clear hgrow hown1 hown
                            go_wp2
                            go_roundw
                            case rel => exact ⟨i + 1, by omega, by simp, hown2.out, hbn⟩
                            case measure => simp [intOf]; omega
                          · have e10 : ((x : Int) == 10) = false := by simp; omega
                            by_cases x13 : x = 13
                            · subst x13
                              have hkk : Hid (kdS s i = 2) := by
                                show _ = _
                                unfold kdS sgnB blkB; rw [hM.out, hY.out, hx.out]; rfl
                              clear hsm hsi2 hm3 hm4 c30 c31 c40 c41
                              go_wp2_with (first
                                | (at_builtin; refine wpList_append_own _ rfl _ _ 23 rfl V.heap.size 3 i0 (.int .i64 0) 1 8 Tryd.underlying23 hi0 hz0 hz1 hz2 rfl (by decide) _ _ _ rfl (World.ownsRow.alloc hown.out _) ⟨x3.heap.size, 0, none⟩ 1 1 [.int .i64 2] rfl rfl (fun j u hj => by match j, hj with | 0, hj => simp at hj; subst hj; simp [Addr.add]) (fun u hu => by simp at hu; subst hu; rfl) (by unfold maxLen; omega) (by omega) (by simp; omega) ?_)
                                | go_in)
                              intro v' wn hown1 hgrow _
                              have hbn := (hbW.out.alloc hbW.out.size (.cells #[.int .i64 2] 3)).grown hgrow (by simp; omega) (fun b e => by have := (hown.out.lt b e).1; omega)
                              have hown2 : Hid (wn.ownsRow V.heap.size 3 1 v' (i + 1) (ints (kds s (i + 1)))) := by
                                show World.ownsRow _ _ _ _ _ _ _
                                rw [kds_succ, ints_snoc, hkk.out]
                                exact hown1
                              clear hgrow hown1 hown
                              go_wp2
                              go_roundw
                              case rel => exact ⟨i + 1, by omega, by simp, hown2.out, hbn⟩
                              case measure => simp [intOf]; omega
                            · have e13 : ((x : Int) == 13) = false := by simp; omega
                              have hkk : Hid (kdS s i = 6) := by
                                show _ = _
                                unfold kdS sgnB blkB; rw [hM.out, hY.out, hx.out]; simp [x123, x125, x91, x93, x58, x44, x32, x9, x10, x13]
                              clear hsm hsi2 hm3 hm4 c30 c31 c40 c41
                              go_wp2_with (first
                                | (at_builtin; refine wpList_append_own _ rfl _ _ 23 rfl V.heap.size 3 i0 (.int .i64 0) 1 8 Tryd.underlying23 hi0 hz0 hz1 hz2 rfl (by decide) _ _ _ rfl (World.ownsRow.alloc hown.out _) ⟨x3.heap.size, 0, none⟩ 1 1 [.int .i64 6] rfl rfl (fun j u hj => by match j, hj with | 0, hj => simp at hj; subst hj; simp [Addr.add]) (fun u hu => by simp at hu; subst hu; rfl) (by unfold maxLen; omega) (by omega) (by simp; omega) ?_)
                                | go_in)
                              intro v' wn hown1 hgrow _
                              have hbn := (hbW.out.alloc hbW.out.size (.cells #[.int .i64 6] 3)).grown hgrow (by simp; omega) (fun b e => by have := (hown.out.lt b e).1; omega)
                              have hown2 : Hid (wn.ownsRow V.heap.size 3 1 v' (i + 1) (ints (kds s (i + 1)))) := by
                                show World.ownsRow _ _ _ _ _ _ _
                                rw [kds_succ, ints_snoc, hkk.out]
                                exact hown1
                              clear hgrow hown1 hown
                              go_wp2
                              go_roundw
                              case rel => exact ⟨i + 1, by omega, by simp, hown2.out, hbn⟩
                              case measure => simp [intOf]; omega

    · obtain rfl : i = s.size := by omega
      clear hm3 hm4
      go_wp2
      go_ret
      exact ⟨_, rfl, row_base hown.out hBV.out.size, hBV.out.trans (hbW.out.mono hBV.out.size)⟩
end Go.Proofs.YtmgbgphlkhkldaaDoor
